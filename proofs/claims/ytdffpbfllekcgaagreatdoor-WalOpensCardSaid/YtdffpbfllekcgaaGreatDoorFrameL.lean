/- Contracts of ordealref06: Read, whole. -/
import Derived.Test.YtdffpbfllekcgaaGreatDoorFrameK
import Derived.Deep.RegionHeld3
namespace Go.Proofs.YtdffpbfllekcgaaGreatDoor
set_option maxRecDepth 100000
open Go.RowKit M

theorem frame_iff {l : List Nat} (hb : ∀ d ∈ l, d < 2 ^ 8) (hm : l.take 2 = [79, 74]) (hn : pN l ≤ 4194304) (he : 18 + pN l ≤ l.length) :
    frN (pQ l) (pR l) = l.take (18 + pN l) ↔ smN (pQ l) (pR l) = pW l := by
  have ht : l.take (18 + pN l) = 79 :: 74 :: ((l.drop 2).take 4 ++ ((l.drop 6).take 8 ++ ((l.drop 14).take 4 ++ pR l))) := by
    rw [List.take_add, show (18 : Nat) = 2 + 16 by rfl, List.take_add, hm, show (16 : Nat) = 4 + 12 by rfl, List.take_add, List.drop_drop, show (12 : Nat) = 8 + 4 by rfl, List.take_add, List.drop_drop]
    simp [List.append_assoc, pR]
  have hr : (pR l).length = pN l := by unfold pR; rw [List.length_take, List.length_drop]; omega
  have ha : ((l.drop 2).take 4).length = 4 := by simp; omega
  have hbl : ((l.drop 6).take 8).length = 8 := by simp; omega
  have hc : ((l.drop 14).take 4).length = 4 := by simp; omega
  have mem : ∀ (i k : Nat), ∀ d ∈ (l.drop i).take k, d < 2 ^ 8 := fun i k d hd => hb d (List.mem_of_mem_drop (List.mem_of_mem_take hd))
  have e1 : fx 4 (pN l) = (l.drop 2).take 4 := by have e := fx_un (mem 2 4); rw [ha] at e; exact e
  have e2 : fx 8 (pQ l) = (l.drop 6).take 8 := by have e := fx_un (mem 6 8); rw [hbl] at e; exact e
  have e3 : fx 4 (pW l) = (l.drop 14).take 4 := by have e := fx_un (mem 14 4); rw [hc] at e; exact e
  have hf : frN (pQ l) (pR l) = 79 :: 74 :: ((l.drop 2).take 4 ++ ((l.drop 6).take 8 ++ (fx 4 (smN (pQ l) (pR l)) ++ pR l))) := by
    unfold frN hdN
    rw [hr, e1, e2, List.append_assoc]
  rw [ht, hf]
  constructor
  · intro h
    have h1 := List.append_cancel_left (List.append_cancel_left (List.cons.inj (List.cons.inj h).2).2)
    have h2 := List.append_cancel_right h1
    rw [← e3] at h2
    have h3 := congrArg un h2
    rw [un_fx4 (smN_lt _ _), un_fx4 (by have e := un_lt (mem 14 4); rw [hc] at e; exact e)] at h3
    exact h3
  · intro h
    rw [h, e3]

theorem read_facts {T : ByteArray} (hm : (sb T).take 2 = [79, 74]) (h18 : 18 ≤ T.size) (hn : ¬ 4194304 < pN (sb T)) (he : ¬ T.size < 18 + pN (sb T)) :
    rdX (sb T) = (if smN (pQ (sb T)) (pR (sb T)) = pW (sb T) then 0 else 4) ∧
      ((bs (frN (pQ (sb T)) (pR (sb T)))).toList == (T.extract 0 (18 + pN (sb T))).toList) = decide (smN (pQ (sb T)) (pR (sb T)) = pW (sb T)) ∧
      sb (T.extract 18 (18 + pN (sb T))) = pR (sb T) := by
  have hlen := sb_length T
  refine ⟨?_, ?_, ?_⟩
  · unfold rdX
    rw [hlen, if_neg (by omega), if_neg (fun h => h hm), if_neg (by omega), if_neg hn, if_neg he]
    by_cases h : smN (pQ (sb T)) (pR (sb T)) = pW (sb T)
    · rw [if_neg (fun hh => hh h), if_pos h]
    · rw [if_pos h, if_neg h]
  · rw [str_beq]
    have e : T.extract 0 (18 + pN (sb T)) = bs ((sb T).take (18 + pN (sb T))) := by
      rw [← bs_list (T.extract 0 (18 + pN (sb T))), sb_part _ _ _ (by omega)]
      simp
    have hi := frame_iff (sb_lt T) hm (by omega) (by omega)
    have hrb : ∀ d ∈ pR (sb T), d < 2 ^ 8 := fun d hd => sb_lt T d (List.mem_of_mem_drop (List.mem_of_mem_take hd))
    refine decide_eq_decide.2 ⟨fun h => hi.1 ?_, fun h => ?_⟩
    · rw [e] at h
      exact bs_inj (frN_lt hrb) (fun d hd => sb_lt T d (List.mem_of_mem_take hd)) h
    · rw [e, hi.2 h]
  · rw [sb_part _ _ _ (by omega), Nat.add_sub_cancel_left]; rfl

theorem new4 {w W0 W : World} {a b c d : Value} {t : TypeId} (hb : Below W0.heap.size W0 W) (h0 : W0.heap = (w.alloc (.cells #[a, b, c, d] t)).heap) :
    W.cell? ⟨w.heap.size, 0, none⟩ = some a ∧ W.cell? ⟨w.heap.size, 1, none⟩ = some b ∧ W.cell? ⟨w.heap.size, 2, none⟩ = some c ∧ W.cell? ⟨w.heap.size, 3, none⟩ = some d ∧
      W.frozen? ⟨w.heap.size, 0, none⟩ = false ∧ W.frozen? ⟨w.heap.size, 1, none⟩ = false ∧ W.frozen? ⟨w.heap.size, 2, none⟩ = false ∧ W.frozen? ⟨w.heap.size, 3, none⟩ = false := by
  have e : W.heap[w.heap.size]? = some (.cells #[a, b, c, d] t) := by
    rw [hb.block w.heap.size (by rw [h0]; simp), h0]
    exact heap_alloc_new w _
  have hc := fun j => cell_of_row W w.heap.size j _ _ _ e
  refine ⟨by rw [hc]; rfl, by rw [hc]; rfl, by rw [hc]; rfl, by rw [hc]; rfl, ?_, ?_, ?_, ?_⟩
  all_goals
    unfold World.frozen?
    simp [e]

set_option maxHeartbeats 800000 in
theorem refRead_sum (T : ByteArray) (hT : T.size ≤ 1000000) (hm : (sb T).take 2 = [79, 74]) (h18 : 18 ≤ T.size) (hn : ¬ 4194304 < pN (sb T)) (he : ¬ T.size < 18 + pN (sb T)) (hs : ¬ smN (pQ (sb T)) (pR (sb T)) = pW (sb T)) (w : World) :
    Calls Tryz.prog 46 #[.string T] w fun e w' => e = .returned (frV T) ∧ Below w.heap.size w w' := by
  obtain ⟨hx, hcmp, hrec⟩ := read_facts hm h18 hn he
  rw [if_neg hs] at hx
  rw [decide_eq_false hs] at hcmp
  have hV : frV T = .agg #[.int .u64 0, .string ⟨#[]⟩, .int .i64 0, .int .i64 4] := by unfold frV; rw [hx]; rfl
  rw [hV]
  have d1 : decide ((T.size : Int) < 2) = false := by simp; omega
  have d2 : (!(T.extract 0 2).toList == [79, 74]) = false := by
    have e := take_is T (by omega)
    rw [show [79, 74] = (⟨#[79, 74]⟩ : ByteArray).toList from by decide +kernel, str_beq, decide_eq_true (e.2 hm)]; rfl
  have d3 : decide ((T.size : Int) < 18) = false := by simp; omega
  have c1 : ∀ w, Calls Tryz.prog 73 #[.string (T.extract 2 6)] w fun e w' => e = .returned (.int .u64 ((pN (sb T) : Nat) : Int)) ∧ w = w' := fun w => num_at T 2 4 (by omega) (by omega) w
  have c2 : ∀ w, Calls Tryz.prog 73 #[.string (T.extract 6 14)] w fun e w' => e = .returned (.int .u64 ((pQ (sb T) : Nat) : Int)) ∧ w = w' := fun w => num_at T 6 8 (by omega) (by omega) w
  have hnl := pN_lt (sb_lt T)
  have hql := pQ_lt (sb_lt T) (by rw [sb_length]; omega)
  have nn : IntKind.i64.wrap (pN (sb T) : Int) = (pN (sb T) : Int) := IntWalk.i64_in _ (by omega)
  have d4 : decide (4194304 < (pN (sb T) : Int)) = false := by simp; omega
  have c3 := fun w => refWrite6_any (pQ (sb T)) (T.extract 18 (18 + pN (sb T))) hql (by simp; omega) w
  rw [hrec] at c3
  have hrl : (pR (sb T)).length ≤ 1000000 := by unfold pR; rw [List.length_take, List.length_drop, sb_length]; omega
  have sW : (bs (frN (pQ (sb T)) (pR (sb T)))).size ≤ 2000000 := by rw [bs_size, frN_length]; omega
  generalize bs (frN (pQ (sb T)) (pR (sb T))) = WS at *
  generalize pN (sb T) = N at *
  generalize pQ (sb T) = Q at *
  have hNS : 18 + N ≤ T.size := by omega
  obtain ⟨M, hM⟩ : ∃ M, M = 18 + N := ⟨_, rfl⟩
  rw [← hM] at c3 hcmp hNS
  have eM : (18 : Int) + (N : Int) = (M : Int) := by omega
  have hM18 : 18 ≤ M := by omega
  have b1 : (18 : Int) ≤ (M : Int) := by omega
  have b2 : (M : Int) ≤ (T.size : Int) := by omega
  have b0 : (0 : Int) ≤ (M : Int) := by omega
  have wM : IntKind.i64.wrap (M : Int) = (M : Int) := IntWalk.i64_in _ (by omega)
  have wM2 : IntKind.i64.wrap (18 + (N : Int)) = (M : Int) := by rw [eM]; exact wM
  have d5 : decide ((T.size : Int) < (M : Int)) = false := by simp; omega
  have C1 := Box.mk c1; have C2 := Box.mk c2; have C3 := Box.mk c3
  clear c1 c2 c3 hx hV hrec hs hm hrl hM he
  go_enter Tryz.func46, Tryz.ntmps46
  go_wp2_with (first
    | (go_at_call 73; ((with_reducible refine (C1.out _).mono ?_); rintro e w' ⟨rfl, rfl⟩))
    | (go_at_call 73; ((with_reducible refine (C2.out _).mono ?_); rintro e w' ⟨rfl, rfl⟩)))
  go_region_with (go_at_call 74; ((with_reducible refine (C3.out _).mono ?_); rintro e w5 ⟨rfl, b5⟩; obtain ⟨n0, n1, n2, n3, g0, g1, g2, g3⟩ := new4 (w := w) b5 rfl))
  have hb5 : Below w.heap.size w w5 := bch (((Below.refl _ _).alloc (Nat.le_refl _) _).drew) b5
  go_wp2
  refine bodyPost_ret (v := .agg #[.int .u64 0, .string ⟨#[]⟩, .int .i64 0, .int .i64 4]) (by simp [results, go_sem, *]) rfl ⟨rfl, ?_⟩
  exact (((hb5.setCell (Nat.le_refl _) _).setCell (Nat.le_refl _) _).setCell (Nat.le_refl _) _).setCell (Nat.le_refl _) _

set_option maxHeartbeats 800000 in
theorem refRead_ok (T : ByteArray) (hT : T.size ≤ 1000000) (hm : (sb T).take 2 = [79, 74]) (h18 : 18 ≤ T.size) (hn : ¬ 4194304 < pN (sb T)) (he : ¬ T.size < 18 + pN (sb T)) (hs : smN (pQ (sb T)) (pR (sb T)) = pW (sb T)) (w : World) :
    Calls Tryz.prog 46 #[.string T] w fun e w' => e = .returned (frV T) ∧ Below w.heap.size w w' := by
  obtain ⟨hx, hcmp, hrec⟩ := read_facts hm h18 hn he
  rw [if_pos hs] at hx
  rw [decide_eq_true hs] at hcmp
  have hrs : bs (pR (sb T)) = T.extract 18 (18 + pN (sb T)) := by rw [← hrec, bs_list]
  have hV : frV T = .agg #[.int .u64 (pQ (sb T) : Nat), .string (T.extract 18 (18 + pN (sb T))), .int .i64 ((18 + pN (sb T) : Nat) : Int), .int .i64 0] := by unfold frV; rw [if_pos hx, hrs]
  rw [hV]
  have d1 : decide ((T.size : Int) < 2) = false := by simp; omega
  have d2 : (!(T.extract 0 2).toList == [79, 74]) = false := by
    have e := take_is T (by omega)
    rw [show [79, 74] = (⟨#[79, 74]⟩ : ByteArray).toList from by decide +kernel, str_beq, decide_eq_true (e.2 hm)]; rfl
  have d3 : decide ((T.size : Int) < 18) = false := by simp; omega
  have c1 : ∀ w, Calls Tryz.prog 73 #[.string (T.extract 2 6)] w fun e w' => e = .returned (.int .u64 ((pN (sb T) : Nat) : Int)) ∧ w = w' := fun w => num_at T 2 4 (by omega) (by omega) w
  have c2 : ∀ w, Calls Tryz.prog 73 #[.string (T.extract 6 14)] w fun e w' => e = .returned (.int .u64 ((pQ (sb T) : Nat) : Int)) ∧ w = w' := fun w => num_at T 6 8 (by omega) (by omega) w
  have hnl := pN_lt (sb_lt T)
  have hql := pQ_lt (sb_lt T) (by rw [sb_length]; omega)
  have nn : IntKind.i64.wrap (pN (sb T) : Int) = (pN (sb T) : Int) := IntWalk.i64_in _ (by omega)
  have d4 : decide (4194304 < (pN (sb T) : Int)) = false := by simp; omega
  have c3 := fun w => refWrite6_any (pQ (sb T)) (T.extract 18 (18 + pN (sb T))) hql (by simp; omega) w
  rw [hrec] at c3
  have hrl : (pR (sb T)).length ≤ 1000000 := by unfold pR; rw [List.length_take, List.length_drop, sb_length]; omega
  have sW : (bs (frN (pQ (sb T)) (pR (sb T)))).size ≤ 2000000 := by rw [bs_size, frN_length]; omega
  generalize bs (frN (pQ (sb T)) (pR (sb T))) = WS at *
  generalize pN (sb T) = N at *
  generalize pQ (sb T) = Q at *
  have hNS : 18 + N ≤ T.size := by omega
  obtain ⟨M, hM⟩ : ∃ M, M = 18 + N := ⟨_, rfl⟩
  rw [← hM] at c3 hcmp hNS ⊢
  have eM : (18 : Int) + (N : Int) = (M : Int) := by omega
  have hM18 : 18 ≤ M := by omega
  have b1 : (18 : Int) ≤ (M : Int) := by omega
  have b2 : (M : Int) ≤ (T.size : Int) := by omega
  have b0 : (0 : Int) ≤ (M : Int) := by omega
  have wM : IntKind.i64.wrap (M : Int) = (M : Int) := IntWalk.i64_in _ (by omega)
  have wM2 : IntKind.i64.wrap (18 + (N : Int)) = (M : Int) := by rw [eM]; exact wM
  have d5 : decide ((T.size : Int) < (M : Int)) = false := by simp; omega
  have C1 := Box.mk c1; have C2 := Box.mk c2; have C3 := Box.mk c3
  clear c1 c2 c3 hx hV hrec hs hm hrs hrl hM he
  go_enter Tryz.func46, Tryz.ntmps46
  go_wp2_with (first
    | (go_at_call 73; ((with_reducible refine (C1.out _).mono ?_); rintro e w' ⟨rfl, rfl⟩))
    | (go_at_call 73; ((with_reducible refine (C2.out _).mono ?_); rintro e w' ⟨rfl, rfl⟩)))
  go_region_with (go_at_call 74; ((with_reducible refine (C3.out _).mono ?_); rintro e w5 ⟨rfl, b5⟩; obtain ⟨n0, n1, n2, n3, g0, g1, g2, g3⟩ := new4 (w := w) b5 rfl))
  have hb5 : Below w.heap.size w w5 := bch (((Below.refl _ _).alloc (Nat.le_refl _) _).drew) b5
  go_wp2
  refine bodyPost_ret (v := .agg #[.int .u64 (Q : Nat), .string (T.extract 18 M), .int .i64 (M : Int), .int .i64 0]) (by simp [results, go_sem, *]) rfl ⟨rfl, ?_⟩
  exact (((hb5.setCell (Nat.le_refl _) _).setCell (Nat.le_refl _) _).setCell (Nat.le_refl _) _).setCell (Nat.le_refl _) _

theorem refRead_any (T : ByteArray) (hT : T.size ≤ 1000000) (w : World) :
    Calls Tryz.prog 46 #[.string T] w fun e w' => e = .returned (frV T) ∧ Below w.heap.size w w' := by
  by_cases h2 : T.size < 2
  · exact refRead_short T h2 w
  by_cases hm : (sb T).take 2 = [79, 74]
  · by_cases h18 : T.size < 18
    · exact refRead_head T hT (by omega) hm h18 w
    by_cases hn : 4194304 < pN (sb T)
    · exact refRead_many T hT hm (by omega) hn w
    by_cases he : T.size < 18 + pN (sb T)
    · exact refRead_end T hT hm (by omega) hn he w
    by_cases hs : smN (pQ (sb T)) (pR (sb T)) = pW (sb T)
    · exact refRead_ok T hT hm (by omega) hn he hs w
    · exact refRead_sum T hT hm (by omega) hn he hs w
  · exact refRead_form T hT (by omega) hm w
end Go.Proofs.YtdffpbfllekcgaaGreatDoor
