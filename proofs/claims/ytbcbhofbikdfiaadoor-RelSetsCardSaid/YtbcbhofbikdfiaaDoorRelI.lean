/- Contracts of rel: Order. -/
import Derived.Test.YtbcbhofbikdfiaaDoorRelH
namespace Go.Proofs.YtbcbhofbikdfiaaDoor
set_option maxRecDepth 100000
open Go.RowKit M

/-- the answer of Order -/
def OrdV (w : World) (o : Option (List Nat)) (e : Ending) (w' : World) : Prop :=
  Below w.heap.size w w' ∧ match o with
  | none => e = .returned (.tuple #[.slice none 0 0, .bool false])
  | some l => ∃ v, e = .returned (.tuple #[v, .bool true]) ∧ w'.ownsRow w.heap.size 3 1 v l.length (ints l)

theorem ord_step {t : List Nat} {n s a : Nat} (hs : s ≠ 0) (hl : R.low t s = some a) : R.ordGo t (n + 1) s = (R.ordGo t n (R.andN s (2 ^ a))).map (a :: ·) := by
  simp only [R.ordGo, if_neg hs, hl]
theorem ord_stop {t : List Nat} {n s : Nat} (hs : s ≠ 0) (hl : R.low t s = none) : R.ordGo t (n + 1) s = none := by
  simp only [R.ordGo, if_neg hs, hl]
theorem ord_zero (t : List Nat) (n : Nat) : R.ordGo t n 0 = some [] := by cases n <;> simp [R.ordGo]
theorem map_app {d : List Nat} {a : Nat} (o : Option (List Nat)) : (o.map (a :: ·)).map (d ++ ·) = o.map ((d ++ [a]) ++ ·) := by cases o <;> simp

theorem row_rel {w : World} {B : Nat} {v : Value} {n : Nat} {xs : List Value} {b : Nat} {r : List Nat} (h : w.ownsRow B 3 1 v n xs) (k : RB w b r) : v.ownBlock ≠ some b := by
  intro e
  rcases h.2 with ⟨rfl, _⟩ | ⟨g, cap, cur, rfl, hg, hh, _⟩
  · cases e
  · have e1 : g = b := by simpa [Value.ownBlock] using e
    subst e1
    have k' : w.heap[g]? = _ := k
    rw [k'] at hh
    injection hh with hh
    injection hh with _ h2
    exact absurd h2 (by decide)
set_option maxRecDepth 100000 in
set_option maxHeartbeats 2000000 in
theorem order_any (r : List Nat) (hr : R.Wf r) (s : Nat) (hs : s < 65536) (w : World) (hT : Tab64 w) :
    Calls Tryd.prog 30 #[.agg (w16 r).toArray, .int .u16 (s : Int)] w (OrdV w (R.ordM r s)) := by
  obtain ⟨i0, hi, hz0, hz1, hz2⟩ := info_parts info_int
  have IH := Box.mk hi; have IZ := Box.mk hz0; have IZ1 := Box.mk hz1; have IZ2 := Box.mk hz2
  clear hi hz0 hz1 hz2
  obtain ⟨S, hS⟩ : ∃ S, S = R.turnM r := ⟨_, rfl⟩
  have HW : Box (R.Wf S) := ⟨by rw [hS]; exact R.turn_wf hr⟩
  obtain ⟨O, hO⟩ : ∃ O, O = R.ordM r s := ⟨_, rfl⟩
  have HOO : Box (O = R.ordGo S 16 s) := ⟨by rw [hO, hS]; rfl⟩
  rw [← hO]
  have CT := Box.mk (fun w h => turned_any r hr w h)
  rw [← hS] at CT
  have RB0 := Box.mk (RB.new w r)
  have HR := Box.mk hr; have HT := Box.mk hT
  clear hr hT hS hO
  go_enter Tryd.func30, Tryd.ntmps30
  go_wp2_with (first
    | ((with_reducible refine at_load 25 (.tmp 2) ?_); refine wpList_load_mid rfl 25 (.tmp 2) (by rfl) w.heap.size 0 (by rfl) (w16 r) _ RB0.out.range undR rfl (infoL HR.out) ?_)
    | (go_at_call 22; ((with_reducible refine (CT.out _ (tab_bel HT.out (aset w _))).mono ?_); rintro e w2 ⟨rfl, b2⟩; have B2 := Box.mk b2; have RN := Box.mk (RB.new w2 R.zeroM); rw [sum_zero] at RN; clear b2))
    | ((with_reducible refine at_store 25 (.tmp 7) (.tmp 11) ?_); refine wpList_store_mid rfl 25 (.tmp 7) (.tmp 11) (by rfl) w2.heap.size 0 (w16 S).toArray (by rfl) (by rfl) (thereL RN.out HW.out) (infoA HW.out) (all_oneCell_toArray (w16_one _)) ?_))
  have RZ := Box.mk (RN.out.all R.zero_wf HW.out)
  have BZ := Box.mk (bsets (B := w.heap.size) (W := w) (a := w2.heap.size) (by have := B2.out.size; simp at this; omega) (w16 S) _ 0 (((aset w _).trans ((B2.out).mono (by simp))).trans ((aset w2 (.cells #[.int .u16 0, .int .u16 0, .int .u16 0, .int .u16 0, .int .u16 0, .int .u16 0, .int .u16 0, .int .u16 0, .int .u16 0, .int .u16 0, .int .u16 0, .int .u16 0, .int .u16 0, .int .u16 0, .int .u16 0, .int .u16 0] 25)).mono (by have := B2.out.size; simp at this; omega))))
  have hb3 : w.heap.size ≤ w2.heap.size := by have := B2.out.size; simp at this; omega
  generalize ((w2.alloc (.cells #[.int .u16 0, .int .u16 0, .int .u16 0, .int .u16 0, .int .u16 0, .int .u16 0, .int .u16 0, .int .u16 0, .int .u16 0, .int .u16 0, .int .u16 0, .int .u16 0, .int .u16 0, .int .u16 0, .int .u16 0, .int .u16 0] 25)).setCells w2.heap.size 0 (w16 S)) = V at *
  generalize w2.heap.size = b3 at *
  clear RB0 B2 RN CT HR
  simp only [Act.put]
  go_loopw [1, 6] (fun sv o wr => ∃ (t : Nat) (d : List Nat) (n : Nat), t < 65536 ∧ sv = .int .u16 (t : Int) ∧ d.length + n = 16 ∧ (R.els t).length ≤ n ∧ Box (O = (R.ordGo S n t).map (d ++ ·)) ∧ Box (wr.ownsRow w.heap.size 3 1 o d.length (ints d)) ∧ Box (RB wr b3 S) ∧ Box (Below w.heap.size w wr))
    (fun sv _ _ => (R.els (intOf sv).toNat).length)
  case atStart => exact ⟨s, [], 16, hs, rfl, rfl, R.els_len s, ⟨by rw [HOO.out]; simp⟩, ⟨World.ownsRow_nil _ _ _ _⟩, RZ, BZ⟩
  case round =>
    clear RZ BZ HOO
    obtain ⟨t, d, n, ht, rfl, hdn, hel, ho, hrow, h0, hb⟩ := hrel
    by_cases h00 : t = 0
    · subst h00
      go_wp2_with fail
      refine bodyPost_ret (results_tmp2 rfl _ _ _) rfl ?_
      refine ⟨hb.out, ?_⟩
      rw [ho.out, ord_zero]
      exact ⟨_, rfl, by simpa using hrow.out⟩
    · have hpos : R.els t ≠ [] := fun e => h00 (R.els_nil ht e)
      obtain ⟨m, rfl⟩ : ∃ m, n = m + 1 := by
        cases n with
        | zero => exact absurd (List.length_eq_zero_iff.1 (by omega)) hpos
        | succ m => exact ⟨m, rfl⟩
      have hne : ((t : Int) != 0) = true := by simp; omega
      have cl := lowest_any S HW.out t ht wr (tab_bel HT.out hb.out)
      cases hlo : R.low S t with
      | none =>
        rw [hlo] at cl
        have CL := Box.mk cl
        have HN : Box (O = none) := ⟨by rw [ho.out, ord_stop h00 hlo]; rfl⟩
        clear cl hlo ho
        go_wp2_with (first
          | ((with_reducible refine at_load 25 (.tmp 7) ?_); refine wpList_load_mid rfl 25 (.tmp 7) (by rfl) b3 0 (by rfl) (w16 S) _ h0.out.range undR rfl (infoL HW.out) ?_)
          | (go_at_call 40; ((with_reducible refine CL.out.mono ?_); rintro e w3 ⟨rfl, b4⟩; have B4 := Box.mk b4; clear b4; unfold lowV)))
        refine bodyPost_ret (results_tmp2 rfl _ _ _) rfl ?_
        refine ⟨hb.out.trans (B4.out.mono hb.out.size), ?_⟩
        rw [HN.out]
        rfl
      | some a =>
        rw [hlo] at cl
        have CL := Box.mk cl
        have HN : Box (O = (R.ordGo S m (R.andN t (2 ^ a))).map ((d ++ [a]) ++ ·)) := ⟨by rw [ho.out, ord_step h00 hlo, map_app]⟩
        have ha := (R.low_some hlo).1
        have hlen := R.els_minus_len ha
        have ha16 := (R.mem_els.1 ha).1
        clear cl hlo ho
        have SG := Box.mk (fun w => single_any a ha16 w)
        have n0 := andN16 ht (R.one_lt ha16)
        have ht2 := R.andN_lt (b := 2 ^ a) ht
        generalize (2 ^ a : Nat) = p at *
        generalize R.andN t p = t2 at *
        have l0 := hb.out.size
        have HH := Box.mk hrow.out.1
        go_wp2_with (first
          | ((with_reducible refine at_load 25 (.tmp 7) ?_); refine wpList_load_mid rfl 25 (.tmp 7) (by rfl) b3 0 (by rfl) (w16 S) _ h0.out.range undR rfl (infoL HW.out) ?_)
          | (go_at_call 40; ((with_reducible refine CL.out.mono ?_); rintro e w3 ⟨rfl, b4⟩; have B4 := Box.mk b4; have ROW := Box.mk (rowBel hrow.out b4); clear b4; unfold lowV))
          | (at_builtin; refine wpList_append_own _ rfl _ _ 45 rfl w.heap.size 3 i0 (.int .i64 0) 1 8 Tryd.underlying45 IH.out IZ.out IZ1.out IZ2.out rfl (by decide) _ _ _ rfl (ROW.out.alloc _) ⟨w3.heap.size, 0, none⟩ 1 1 [.int .i64 (a : Int)] rfl rfl (cell_one_new _ _ _) (by simp [Value.oneCell']) (by unfold maxLen; omega) (by omega) (by have := B4.out.size; simp; omega) ?_; intro v' w4 hown' hg hn; have ROW4 := Box.mk hown'; have HG := Box.mk hg; clear hown' hg hn)
          | (go_at_call 38; ((with_reducible refine (SG.out _).mono ?_); rintro e w' ⟨rfl, rfl⟩)))
        go_roundw
        case rel =>
          have bA : Below w.heap.size w (w3.alloc (.cells #[.int .i64 (a : Int)] 3)) := (hb.out.trans (B4.out.mono l0)).alloc (by have := B4.out.size; omega) _
          have b5 : Below w.heap.size w w4 := bA.grown HG.out (by have := B4.out.size; simp; omega) (fun k hk => (rowLt ROW.out k hk).1)
          have hR3 := (h0.out.below B4.out).alloc (.cells #[.int .i64 (a : Int)] 3)
          have hR4 : RB w4 b3 S := (HG.out.block b3 hR3.lt (fun e => row_rel ROW.out (h0.out.below B4.out) e.symm)).trans hR3
          exact ⟨t2, d ++ [a], m, ht2, rfl, by simp; omega, by omega, HN, ⟨by simpa [ints] using ROW4.out⟩, ⟨hR4⟩, ⟨b5⟩⟩
        case measure => simp [intOf]; omega
end Go.Proofs.YtbcbhofbikdfiaaDoor
