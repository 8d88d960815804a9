/- Contracts of litmus: checkLocs. -/
import Derived.Test.YteeicedhnojdaaaLitN
import Derived.Test.YteeicedhnojdaaaLitF
import Derived.BigQuiet
namespace Go.Proofs.Yteeicedhnojdaaa
set_option maxRecDepth 100000
open Go.RowKit

/-- one text is not behind another -/
def leS (a b : List UInt8) : Bool := Op.bytesLess a b || a == b
theorem st_list (a : List UInt8) : (st a).toList = a := by rw [Lib.toList_data]; exact by_st a
/-- the first thing that is wrong with locations -/
def chkLocs : Option (List UInt8) → List (List UInt8 × Int) → Nat
  | _, [] => 0
  | pv, l :: r => if nameM l.1 = false then 11 else if (match pv with | none => false | some p => leS l.1 p) = true then 16 else chkLocs (some l.1) r
theorem chkLocs_cons (pv : Option (List UInt8)) (l : List UInt8 × Int) (r : List (List UInt8 × Int)) : chkLocs pv (l :: r) = if nameM l.1 = false then 11 else if (match pv with | none => false | some p => leS l.1 p) = true then 16 else chkLocs (some l.1) r := by
  cases pv <;> rfl
theorem belDr {B : Nat} {w0 w : World} (h : Below B w0 w) (n : Nat) : Below B w0 (w.drewN n) := ⟨h.os, h.tape, h.output, h.size, h.block⟩
theorem atDrop {α : Type} {l : List α} {j : Nat} {a : α} (h : l[j]? = some a) : l.drop j = a :: l.drop (j + 1) := by
  obtain ⟨h', rfl⟩ := List.getElem?_eq_some_iff.1 h
  exact List.drop_eq_getElem_cons h'

set_option maxHeartbeats 3200000 in
theorem checkLocs_any (b : Nat) (t : TestM) (hk : TestOk t) (hs : ∀ l ∈ t.locs, l.1.length ≤ 1000000000) (w : World) (h : TestAt w b t) :
    Calls Try.prog 22 #[.pointer (some ⟨b, 0, none⟩)] w fun e w' => e = .returned (.int .i64 (chkLocs none t.locs : Nat)) ∧ Below w.heap.size w w' := by
  obtain ⟨lv, tv, av, h0, h1, h2, ⟨hlo, _, _⟩⟩ := h.test
  obtain ⟨lp, lc, rfl⟩ := hlo.slice
  have hnl := hk.locs
  have H0 := Bx.mk h0; have HLO := Bx.mk hlo; have HS := Bx.mk hs
  clear h h1 h2 hlo hk hs
  go_enter Try.func22, Try.ntmps22
  go_wp2_with fail
  go_loopw [10] (fun i wr => ∃ (k : Nat) (pv : Option (List UInt8)), i = .int .i64 (k : Int) ∧ k ≤ t.locs.length ∧ Bx (chkLocs none t.locs = chkLocs pv (t.locs.drop k)) ∧ Bx ((k = 0 ∧ pv = none) ∨ ∃ j l, k = j + 1 ∧ t.locs[j]? = some l ∧ pv = some l.1) ∧ Bx (Below w.heap.size w wr)) (fun i _ => t.locs.length - (intOf i).toNat)
  case atStart => exact ⟨0, none, rfl, by omega, ⟨rfl⟩, ⟨.inl ⟨rfl, rfl⟩⟩, ⟨Below.refl _ _⟩⟩
  case round =>
    obtain ⟨k, pv, rfl, hkn, hch, hpv, hb⟩ := hrel
    by_cases hlt : k < t.locs.length
    · obtain ⟨bb, off, c, hv, hbl, hcl⟩ := HLO.out.at (by omega)
      obtain ⟨rfl, _, rfl⟩ := Value.slice.inj hv
      obtain ⟨l, hl⟩ : ∃ l, t.locs[k]? = some l := ⟨_, List.getElem?_eq_getElem hlt⟩
      have hn := name_any (st l.1) (by rw [st_size]; exact HS.out l (List.mem_of_getElem? hl))
      rw [by_st] at hn
      have f0 := flatAt locC 2 (fun _ => rfl) t.locs k 0 l hl (by decide)
      have f1 := flatAt locC 2 (fun _ => rfl) t.locs k 1 l hl (by decide)
      have c0 : wr.cell? ⟨bb, off + k * 2, none⟩ = some (.string (st l.1)) := (hb.out.cell hbl).trans (hcl _ _ f0)
      have c1 : wr.cell? ⟨bb, off + k * 2 + 1, none⟩ = some (.int .u64 l.2) := by
        rw [Nat.add_assoc]; exact (hb.out.cell hbl).trans (hcl _ _ f1)
      have e := hch.out
      rw [atDrop hl, chkLocs_cons] at e
      have hbw : bb < wr.heap.size := Nat.lt_of_lt_of_le hbl hb.out.size
      have g0 : wr.cell? ⟨b, 0, none⟩ = _ := cBel H0.out hb.out
      have hbb : b < wr.heap.size := World.block_lt_of_cell? wr _ g0
      obtain ⟨T1, hT1⟩ : ∃ T1, T1 = st l.1 := ⟨_, rfl⟩
      rw [← hT1] at hn c0
      have HT1 := Bx.mk hT1
      cases hnm : nameM l.1
      · rw [hnm] at hn e
        rw [if_pos rfl] at e
        have HN := Bx.mk hn; have E := Bx.mk e
        clear hv hcl hl hn f0 f1 e hch hpv hT1 hnm
        generalize l.2 = lx at *
        go_wp2_with (go_at_call 42; ((with_reducible refine (HN.out _).mono ?_); rintro e w' ⟨rfl, rfl⟩))
        go_ret
        rw [E.out]
        exact ⟨rfl, hb.out.alloc hb.out.size _⟩
      · rw [hnm] at hn e
        rw [if_neg (by decide)] at e
        have HN := Bx.mk hn
        rcases hpv.out with ⟨rfl, rfl⟩ | ⟨j, l0, rfl, hj, rfl⟩
        · have e : chkLocs none t.locs = chkLocs (some l.1) (t.locs.drop (0 + 1)) := e
          rw [Nat.zero_mul, Nat.add_zero] at c0 c1
          have E := Bx.mk e; have HL := Bx.mk hl
          clear hv hcl hn f0 f1 e hch hpv hT1 hnm hl
          generalize l.2 = lx at *
          go_wp2_with (go_at_call 42; ((with_reducible refine (HN.out _).mono ?_); rintro e w' ⟨rfl, rfl⟩))
          go_quiet (fail)
          go_wp2
          go_roundw
          case rel => exact ⟨1, some l.1, by first | rfl | go_num, by omega, E, ⟨.inr ⟨0, l, rfl, HL.out, rfl⟩⟩, ⟨belDr (hb.out.alloc hb.out.size _) _⟩⟩
          case measure => simp [intOf] <;> omega
        · have f2 := flatAt locC 2 (fun _ => rfl) t.locs j 0 l0 hj (by decide)
          have c2 : wr.cell? ⟨bb, off + j * 2, none⟩ = some (.string (st l0.1)) := (hb.out.cell hbl).trans (hcl _ _ f2)
          obtain ⟨T0, hT0⟩ : ∃ T0, T0 = st l0.1 := ⟨_, rfl⟩
          rw [← hT0] at c2
          have hle : leS l.1 l0.1 = (Op.bytesLess T1.toList T0.toList || T1.toList == T0.toList) := by rw [hT1, hT0, st_list, st_list]; rfl
          have e : chkLocs none t.locs = if leS l.1 l0.1 = true then 16 else chkLocs (some l.1) (t.locs.drop (j + 1 + 1)) := e
          rw [hle] at e
          have hk1 : ((j + 1 : Nat) : Int) - 1 = (j : Int) := by omega
          have HL := Bx.mk hl
          clear hv hcl hn f0 f1 f2 hch hpv hT1 hT0 hnm hl hj hle
          generalize l.2 = lx at *
          generalize hb1 : Op.bytesLess T1.toList T0.toList = b1 at *
          generalize hb2 : (T1.toList == T0.toList) = b2 at *
          have E := Bx.mk e
          clear e
          cases b1 <;> cases b2
          all_goals
            go_wp2_with (go_at_call 42; ((with_reducible refine (HN.out _).mono ?_); rintro e w' ⟨rfl, rfl⟩))
            go_quiet (fail)
            go_wp2
          · go_roundw
            case rel => exact ⟨j + 1 + 1, some l.1, by go_num, by omega, ⟨by rw [E.out]; rfl⟩, ⟨.inr ⟨j + 1, l, rfl, HL.out, rfl⟩⟩, ⟨belDr (hb.out.alloc hb.out.size _) _⟩⟩
            case measure => simp [intOf] <;> omega
          all_goals
            go_ret
            rw [E.out]
            exact ⟨rfl, belDr (hb.out.alloc hb.out.size _) _⟩
    · obtain rfl : k = t.locs.length := by omega
      have he : chkLocs none t.locs = 0 := by rw [hch.out, List.drop_length]; rfl
      have HE := Bx.mk he
      clear he hch
      go_wp2
      go_ret
      rw [HE.out]
      exact ⟨rfl, hb.out⟩
end Go.Proofs.Yteeicedhnojdaaa
