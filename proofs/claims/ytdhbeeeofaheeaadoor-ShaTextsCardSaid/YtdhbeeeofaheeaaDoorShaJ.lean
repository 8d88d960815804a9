/- Contracts of sha: Parse. -/
import Derived.Test.YtdhbeeeofaheeaaDoorShaI
import Derived.Test.YtdhbeeeofaheeaaDoorTopA
import Derived.Laws.ResultCell
namespace Go.Proofs.YtdhbeeeofaheeaaDoor
set_option maxRecDepth 100000
open Go.RowKit M

/-- the bytes of digits -/
def prsL : List Nat → List Nat
  | a :: b :: l => (16 * dgV a + dgV b) :: prsL l
  | _ => []
theorem prsL_length : ∀ (l : List Nat), (prsL l).length = l.length / 2
  | [] => rfl
  | [_] => by simp [prsL]
  | a :: b :: l => by simp [prsL, prsL_length l]; omega
theorem prsL_snoc : ∀ (l : List Nat) (a b : Nat), l.length % 2 = 0 → prsL (l ++ [a, b]) = prsL l ++ [16 * dgV a + dgV b]
  | [], a, b, _ => rfl
  | [_], _, _, h => by simp at h
  | x :: y :: l, a, b, h => by
    have := prsL_snoc l a b (by simp at h; omega)
    simp [prsL, this]
theorem dgV_lt (c : Nat) : dgV c < 16 := by unfold dgV; split; omega; split <;> omega
theorem prsL_lt : ∀ (l : List Nat), ∀ d ∈ prsL l, d < 256
  | [] => by simp [prsL]
  | [_] => by simp [prsL]
  | a :: b :: l => by
    intro d hd
    simp only [prsL, List.mem_cons] at hd
    rcases hd with rfl | hd
    · have := dgV_lt a; have := dgV_lt b; omega
    · exact prsL_lt l d hd
/-- are they digits, 64 of them? -/
def digsB (l : List Nat) : Bool := decide (l.length = 64) && l.all dgB
def prsD (l : List Nat) : List Nat := if digsB l = true then prsL l else List.replicate 32 0
def prsP (l : List Nat) (k : Nat) : List Nat := prsL (l.take (2 * k)) ++ List.replicate (32 - k) 0
theorem prsP_length {l : List Nat} (hl : l.length = 64) {k : Nat} (hk : k ≤ 32) : (prsP l k).length = 32 := by
  unfold prsP; rw [List.length_append, prsL_length, List.length_take, List.length_replicate, hl]; omega
theorem prsP_zero (l : List Nat) : prsP l 0 = List.replicate 32 0 := by simp [prsP, prsL]
theorem prsP_full {l : List Nat} (hl : l.length = 64) : prsP l 32 = prsL l := by
  unfold prsP; rw [List.take_of_length_le (by omega)]; simp
theorem prsP_set {l : List Nat} (hl : l.length = 64) {k : Nat} (hk : k < 32) : (prsP l k).set k (16 * dgV (l.getD (2 * k) 0) + dgV (l.getD (2 * k + 1) 0)) = prsP l (k + 1) := by
  have e1 : l.take (2 * (k + 1)) = l.take (2 * k) ++ [l.getD (2 * k) 0, l.getD (2 * k + 1) 0] := by
    rw [show 2 * (k + 1) = 2 * k + 1 + 1 by omega, List.take_succ_eq_append_getElem (i := 2 * k + 1) (by omega), List.take_succ_eq_append_getElem (i := 2 * k) (by omega), List.append_assoc]
    simp [List.getD, hl, show 2 * k < 64 by omega, show 2 * k + 1 < 64 by omega]
  have e2 : (prsL (l.take (2 * k))).length = k := by rw [prsL_length, List.length_take, hl]; omega
  unfold prsP
  rw [e1, prsL_snoc _ _ _ (by rw [List.length_take, hl]; omega), List.set_append, if_neg (by omega), e2, Nat.sub_self, show 32 - k = (32 - (k + 1)) + 1 by omega, List.replicate_succ, List.set_cons_zero, List.append_assoc]
  rfl

theorem byts_get {l : List Nat} {k : Nat} (h : k < l.length) : (byts l)[k]? = some (.int .u8 ((l.getD k 0 : Nat) : Int)) := by
  simp [byts, h, List.getD]
theorem range_setB {w : World} {b : Nat} {l : List Nat} (h : w.rangeAt b 0 (byts l)) (k x : Nat) (hk : k < l.length) : (w.setCell ⟨b, k, none⟩ (.int .u8 (x : Int))).rangeAt b 0 (byts (l.set k x)) := fun j v hv => by
  rw [Nat.zero_add]
  have hj : j < l.length := by
    have := (List.getElem?_eq_some_iff.1 hv).1
    simpa [byts] using this
  rw [byts_get (by simpa using hj)] at hv
  by_cases e : j = k
  · subst e
    have h1 := h j _ (byts_get hk)
    rw [Nat.zero_add] at h1
    rw [World.cell?_setCell_same _ _ _ h1]
    simpa [List.getD, hj] using hv
  · rw [World.cell?_setCell_other _ _ _ _ (by intro e2; cases e2; exact e rfl)]
    have h1 := h j _ (byts_get hj)
    rw [Nat.zero_add] at h1
    rw [h1, ← hv]
    simp [List.getD, show ¬ k = j by omega]

theorem or8 {a b : Nat} (ha : a < 16) (hb : b < 16) : bits BinOp.or IntKind.u8 ((a : Int) * 16) (b : Int) = ((16 * a + b : Nat) : Int) := by
  rw [show (a : Int) * 16 = ((a * 2 ^ 4 : Nat) : Int) by omega, u8_or_nat (a * 2 ^ 4) b (by omega) (by omega), or_add (by omega)]
  congr 1
  omega

theorem results_two {P : Program} {fn : Func} {p u : Tmp} {ty : TypeId} (h : fn.results = #[.cell p ty, .tmp u]) {tmps : Array Value} {w : World} {a : Addr} {v x : Value} (ht : tmps.getD p undef = .pointer (some a)) (hu : tmps.getD u undef = x) (hl : (loadVar ty a).run P w = .ok v w) :
    (results fn tmps).run P w = .ok (.tuple #[v, x]) w := by
  rw [results_cell_tmp h, ht, hu]
  simp [asAddr, hl, Result.andThen]

/-- what Parse leaves -/
def PrsP (l : List Nat) (w : World) (e : Ending) (w' : World) : Prop := e = .returned (.tuple #[.agg (byts (prsD l)).toArray, .bool (digsB l)]) ∧ Below w.heap.size w w'

set_option maxRecDepth 100000 in
set_option maxHeartbeats 400000 in
theorem parse_any (s : ByteArray) (hs : s.size ≤ 1000000) (w : World) :
    Calls Tryd.prog 20 #[.string s] w (PrsP (sb s) w) := by
  have r1 : ((w.alloc (.cells (byts (List.replicate 32 0)).toArray 36)).alloc (.cells (byts (List.replicate 32 0)).toArray 36)).there w.heap.size 0 32 := World.there_alloc (there_new w 36 (byts (List.replicate 32 0)) _ 0 32 rfl (by decide)) _
  have r2 : ((w.alloc (.cells (byts (List.replicate 32 0)).toArray 36)).alloc (.cells (byts (List.replicate 32 0)).toArray 36)).there (w.heap.size + 1) 0 32 := there_new _ 36 (byts (List.replicate 32 0)) _ 0 32 (by simp) (by decide)
  have r3 : ((w.alloc (.cells (byts (List.replicate 32 0)).toArray 36)).alloc (.cells (byts (List.replicate 32 0)).toArray 36)).rangeAt (w.heap.size + 1) 0 (byts (List.replicate 32 0)) := range_new _ _ _ _ (by simp)
  have rb : Below w.heap.size w ((w.alloc (.cells (byts (List.replicate 32 0)).toArray 36)).alloc (.cells (byts (List.replicate 32 0)).toArray 36)) := ((Below.refl _ _).alloc (Nat.le_refl _) _).alloc (by simp) _
  have R1 := Box.mk r1; have R2 := Box.mk r2; have R3 := Box.mk r3; have RB := Box.mk rb
  clear r1 r2 r3 rb
  by_cases h64 : s.size = 64
  · have hl : (sb s).length = 64 := by rw [sb_length]; exact h64
    have z64 : (s.size : Int) = 64 := by omega
    have HL := Box.mk hl; have H64 := Box.mk h64
    clear hl h64
    go_enter Tryd.func20, Tryd.ntmps20
    go_wp2_with fail
    clear z64
    go_loopw [5, 6, 7, 8, 9, 14, 17, 25] (fun _ _ _ _ _ i _ _ wr => ∃ k : Nat, k ≤ 32 ∧ i = .int .i64 k ∧ Box (((sb s).take (2 * k)).all dgB = true) ∧ Box (wr.rangeAt (w.heap.size + 1) 0 (byts (prsP (sb s) k))) ∧ Box (wr.there (w.heap.size + 1) 0 32) ∧ Box (wr.there w.heap.size 0 32) ∧ Box (Below w.heap.size w wr))
      (fun _ _ _ _ _ i _ _ _ => 32 - (intOf i).toNat)
    case atStart => exact ⟨0, by omega, rfl, ⟨by simp⟩, ⟨by rw [prsP_zero]; exact R3.out⟩, R2, R1, RB⟩
    case round =>
      clear R1 R2 R3 RB
      obtain ⟨k, hk, rfl, hD, f1, f2, f3, f4⟩ := hrel
      by_cases hlt : k < 32
      · obtain ⟨c, hc⟩ : ∃ c, c = (sb s).getD (2 * k) 0 := ⟨_, rfl⟩
        obtain ⟨d, hd⟩ : ∃ d, d = (sb s).getD (2 * k + 1) 0 := ⟨_, rfl⟩
        have hc256 : c < 256 := by rw [hc]; exact sb_lt s _ (getD_mem (by rw [HL.out]; omega))
        have hd256 : d < 256 := by rw [hd]; exact sb_lt s _ (getD_mem (by rw [HL.out]; omega))
        have hset := prsP_set HL.out hlt
        rw [← hc, ← hd] at hset
        have htk : (sb s).take (2 * (k + 1)) = (sb s).take (2 * k) ++ [c, d] := by
          rw [hc, hd, show 2 * (k + 1) = 2 * k + 1 + 1 by omega, List.take_succ_eq_append_getElem (i := 2 * k + 1) (by rw [HL.out]; omega), List.take_succ_eq_append_getElem (i := 2 * k) (by rw [HL.out]; omega), List.append_assoc]
          simp [List.getD, HL.out, show 2 * k < 64 by omega, show 2 * k + 1 < 64 by omega]
        obtain ⟨x0, hx0⟩ : ∃ x, x = 2 * k := ⟨_, rfl⟩
        have i1 := fun w => str_index (T := s) (i := 2 * k) (by rw [H64.out]; omega) w
        have i2 := fun w => str_index (T := s) (i := 2 * k + 1) (by rw [H64.out]; omega) w
        rw [← hc] at i1
        rw [← hd] at i2
        obtain ⟨x1, hx1⟩ : ∃ x, x = 2 * k + 1 := ⟨_, rfl⟩
        rw [← hx0] at i1
        rw [← hx1] at i2
        have e0 : (2 : Int) * (k : Int) = (x0 : Int) := by omega
        have e1 : (x0 : Int) + 1 = (x1 : Int) := by omega
        have c1 := fun w => digit_any c hc256 w
        have c2 := fun w => digit_any d hd256 w
        have hv1 := dgV_lt c
        have hv2 := dgV_lt d
        have hor := or8 hv1 hv2
        have hnd : (dgB c && dgB d) = false → digsB (sb s) = false := fun hf => by
          unfold digsB
          have h64d : (sb s).length = 64 := HL.out
          have : (sb s).all dgB = false := by
            have hsplit : (sb s).all dgB = (((sb s).take (2 * (k + 1))).all dgB && ((sb s).drop (2 * (k + 1))).all dgB) := by
              rw [← List.all_append, List.take_append_drop]
            rw [hsplit, htk, List.all_append]
            have e3 : [c, d].all dgB = false := by simpa using hf
            rw [e3]; simp
          rw [this]; simp
        have hst : (dgB c && dgB d) = true → ((sb s).take (2 * (k + 1))).all dgB = true := fun hf => by
          rw [htk, List.all_append, hD.out]
          simpa using hf
        have g2 := (f2.out k hlt)
        obtain ⟨g2a, g2b⟩ := g2
        obtain ⟨old, g2a⟩ := Option.isSome_iff_exists.1 g2a
        rw [Nat.zero_add] at g2a g2b
        obtain ⟨v1, hv1e⟩ : ∃ v, v = dgV c := ⟨_, rfl⟩
        obtain ⟨v2, hv2e⟩ : ∃ v, v = dgV d := ⟨_, rfl⟩
        obtain ⟨p1, hp1⟩ : ∃ v, v = dgB c := ⟨_, rfl⟩
        obtain ⟨p2, hp2⟩ : ∃ v, v = dgB d := ⟨_, rfl⟩
        rw [← hv1e, ← hp1] at c1
        rw [← hv2e, ← hp2] at c2
        rw [← hv1e, ← hv2e] at hor hset
        rw [← hv1e] at hv1
        rw [← hv2e] at hv2
        rw [← hp1, ← hp2] at hnd hst
        have C1 := Box.mk c1; have C2 := Box.mk c2; have HSET := Box.mk hset; have HND := Box.mk hnd; have HSTT := Box.mk hst
        clear c1 c2 hset hnd hst htk hc hd hx0 hx1 hv1e hv2e hp1 hp2
        cases p1
        · have HNO := Box.mk (HND.out rfl)
          go_wp2_with (first
            | (go_at_call 54; ((with_reducible refine (C1.out _).mono ?_); rintro e w' ⟨rfl, rfl⟩))
            | (go_at_call 54; ((with_reducible refine (C2.out _).mono ?_); rintro e w' ⟨rfl, rfl⟩))
            | ((with_reducible refine at_store 36 (.tmp 2) (.tmp 40) ?_); refine wpList_store_mid rfl 36 (.tmp 2) (.tmp 40) rfl w.heap.size 0 (byts (List.replicate 32 0)).toArray rfl rfl (hash_there f3.out (by simp)) (hash_size (by simp)) (all_oneCell_toArray (byts_one _)) ?_))
          refine bodyPost_ret (v := .tuple #[.agg (byts (List.replicate 32 0)).toArray, .bool false]) (results_two rfl rfl rfl (hash_load f3.out (by simp))) rfl ⟨?_, below_setCells (Nat.le_refl _) _ _ _ _ f4.out⟩
          rw [prsD, HNO.out]; rfl
        · cases p2
          · have HNO := Box.mk (HND.out rfl)
            go_wp2_with (first
              | (go_at_call 54; ((with_reducible refine (C1.out _).mono ?_); rintro e w' ⟨rfl, rfl⟩))
              | (go_at_call 54; ((with_reducible refine (C2.out _).mono ?_); rintro e w' ⟨rfl, rfl⟩))
              | ((with_reducible refine at_store 36 (.tmp 2) (.tmp 40) ?_); refine wpList_store_mid rfl 36 (.tmp 2) (.tmp 40) rfl w.heap.size 0 (byts (List.replicate 32 0)).toArray rfl rfl (hash_there f3.out (by simp)) (hash_size (by simp)) (all_oneCell_toArray (byts_one _)) ?_))
            refine bodyPost_ret (v := .tuple #[.agg (byts (List.replicate 32 0)).toArray, .bool false]) (results_two rfl rfl rfl (hash_load f3.out (by simp))) rfl ⟨?_, below_setCells (Nat.le_refl _) _ _ _ _ f4.out⟩
            rw [prsD, HNO.out]; rfl
          · have HYES := Box.mk (HSTT.out rfl)
            go_wp2_with (first
              | (go_at_call 54; ((with_reducible refine (C1.out _).mono ?_); rintro e w' ⟨rfl, rfl⟩))
              | (go_at_call 54; ((with_reducible refine (C2.out _).mono ?_); rintro e w' ⟨rfl, rfl⟩)))
            go_roundw
            case rel =>
              refine ⟨k + 1, by omega, by go_num, HYES, ⟨?_⟩, ⟨there_set f2.out _ _⟩, ⟨there_set f3.out _ _⟩, ⟨f4.out.setCell (by simp) _⟩⟩
              rw [← HSET.out]
              exact range_setB f1.out k _ (by rw [prsP_length HL.out hk]; exact hlt)
            case measure => simp [intOf]; omega
      · obtain rfl : 32 = k := by omega
        have hfull := f1.out
        rw [prsP_full HL.out] at hfull
        have hd2 := hD.out
        rw [List.take_of_length_le (by rw [HL.out]; omega)] at hd2
        have hB : digsB (sb s) = true := by unfold digsB; rw [hd2]; simp [HL.out]
        have hP : prsD (sb s) = prsL (sb s) := by unfold prsD; rw [if_pos hB]
        have hpl : (prsL (sb s)).length = 32 := by rw [prsL_length, HL.out]
        have u1 : (Tryd.prog.info? 36).map (fun i => i.size) = some (byts (prsL (sb s))).length := by
          have := hash_size hpl
          simpa using this
        have HB := Box.mk hB; have HP := Box.mk hP; have HPL := Box.mk hpl; have HF := Box.mk hfull; have U1 := Box.mk u1
        clear hB hP hpl hfull hd2 u1
        go_wp2_with (first
          | ((with_reducible refine at_load 36 (.tmp 4) ?_); refine wpList_load_mid rfl 36 (.tmp 4) rfl (w.heap.size + 1) 0 rfl (byts (prsL (sb s))) _ HF.out Tryd.underlying36 rfl U1.out ?_)
          | ((with_reducible refine at_store 36 (.tmp 2) (.tmp 48) ?_); refine wpList_store_mid rfl 36 (.tmp 2) (.tmp 48) rfl w.heap.size 0 (byts (prsL (sb s))).toArray rfl rfl (hash_there f3.out HPL.out) (hash_size HPL.out) (all_oneCell_toArray (byts_one _)) ?_))
        refine bodyPost_ret (v := .tuple #[.agg (byts (prsL (sb s))).toArray, .bool true]) (results_two rfl rfl rfl (hash_load f3.out HPL.out)) rfl ⟨?_, below_setCells (Nat.le_refl _) _ _ _ _ f4.out⟩
        rw [HP.out, HB.out]
  · have hB : digsB (sb s) = false := by unfold digsB; rw [sb_length, decide_eq_false h64]; rfl
    have e1 : ((s.size : Int) != 64) = true := by simp; omega
    have HNO := Box.mk hB
    clear hB
    go_enter Tryd.func20, Tryd.ntmps20
    go_wp2_with (first
      | ((with_reducible refine at_store 36 (.tmp 2) (.tmp 13) ?_); refine wpList_store_mid rfl 36 (.tmp 2) (.tmp 13) rfl w.heap.size 0 (byts (List.replicate 32 0)).toArray rfl rfl (hash_there R1.out (by simp)) (hash_size (by simp)) (all_oneCell_toArray (byts_one _)) ?_))
    refine bodyPost_ret (v := .tuple #[.agg (byts (List.replicate 32 0)).toArray, .bool false]) (results_two rfl rfl rfl (hash_load R1.out (by simp))) rfl ⟨?_, below_setCells (Nat.le_refl _) _ _ _ _ RB.out⟩
    rw [prsD, HNO.out]; rfl
end Go.Proofs.YtdhbeeeofaheeaaDoor
