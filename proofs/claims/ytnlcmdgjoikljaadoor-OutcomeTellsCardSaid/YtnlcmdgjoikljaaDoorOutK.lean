/- Contracts: awake of layer 12. -/
import Derived.Test.YtnlcmdgjoikljaaDoorOutH
import Derived.Test.YtnlcmdgjoikljaaDoorLitV
namespace Go.Proofs.YtnlcmdgjoikljaaDoor
set_option maxRecDepth 100000
open Go.RowKit

theorem sortP1 : sortZ [0, 1] = [0, 1] := List.mergeSort_of_pairwise (by decide)
theorem sortP0 : sortZ [] = [] := List.mergeSort_of_pairwise (by decide)
theorem regsP1 : regsM [one1 9 0 1 0, one1 9 1 0 0] = [0, 1] := by
  have e : regsOf [one1 9 0 1 0, one1 9 1 0 0] = [0, 1] := by decide
  unfold regsM
  rw [e, sortP1]
  decide
theorem regsP0 : regsM [one1 10 0 0 1, one1 10 0 1 1] = [] := by
  have e : regsOf [one1 10 0 0 1, one1 10 0 1 1] = [] := by decide
  unfold regsM
  rw [e, sortP0]
  decide
theorem slotsP : slotsM passM = [(1, 0), (1, 1), (-1, 0), (-1, 1)] := by
  unfold slotsM passM
  simp only [thrSl, regsP0, regsP1]
  decide
def regP : List (List Int) := [[0, 0, 0, 0, 0, 0, 0, 0], [1, 0, 0, 0, 0, 0, 0, 0]]
def locP : List Int := [1, 1, 0, 0, 0, 0, 0, 0]
def passS : StM := madeM passM regP locP
theorem passS_n : passS.n = 4 := by unfold passS madeM; rw [slotsP]; rfl
theorem passS_v : passS.v = [1, 0, 1, 1, 0, 0, 0, 0, 0, 0, 0, 0, 0, 0, 0, 0, 0, 0, 0, 0, 0, 0, 0, 0, 0, 0, 0, 0, 0, 0, 0, 0, 0, 0, 0, 0, 0, 0, 0, 0] := by unfold passS madeM; rw [slotsP]; decide +kernel
theorem dd0 : Lib.decDigits 0 = [48] := by rw [Lib.decDigits, dif_pos (by decide)]; rfl
theorem dd1 : Lib.decDigits 1 = [49] := by rw [Lib.decDigits, dif_pos (by decide)]; rfl
theorem wordP0 : wordM passM passS 0 = [49, 58, 114, 48, 61, 49] := by
  unfold wordM
  rw [slotsP, passS_v]
  show Lib.decDigits 1 ++ [58, 114] ++ Lib.decDigits 0 ++ [61] ++ Lib.decDigits 1 = _
  rw [dd1, dd0]; rfl
theorem wordP1 : wordM passM passS 1 = [49, 58, 114, 49, 61, 48] := by
  unfold wordM
  rw [slotsP, passS_v]
  show Lib.decDigits 1 ++ [58, 114] ++ Lib.decDigits 1 ++ [61] ++ Lib.decDigits 0 = _
  rw [dd1, dd0]; rfl
theorem wordP2 : wordM passM passS 2 = [120, 61, 49] := by
  unfold wordM
  rw [slotsP, passS_v]
  show [120] ++ [61] ++ Lib.decDigits 1 = _
  rw [dd1]; rfl
theorem wordP3 : wordM passM passS 3 = [121, 61, 49] := by
  unfold wordM
  rw [slotsP, passS_v]
  show [121] ++ [61] ++ Lib.decDigits 1 = _
  rw [dd1]; rfl
theorem textP : textM passM passS = [49, 58, 114, 48, 61, 49, 32, 49, 58, 114, 49, 61, 48, 32, 120, 61, 49, 32, 121, 61, 49] := by
  unfold textM
  rw [slotsP, passS_n]
  show Lib.join [wordM passM passS 0, wordM passM passS 1, wordM passM passS 2, wordM passM passS 3] [32] = _
  rw [wordP0, wordP1, wordP2, wordP3]
  decide
theorem okP : TestOk passM := ⟨by decide, by decide, by decide, by decide⟩
theorem valsP {w : World} {lv tv av : Value} {t : TestM} (h : TestIn w lv tv av t) : ∃ lp lc tp tc ap ac, lv = .slice lp t.locs.length lc ∧ tv = .slice tp t.thr.length tc ∧ av = .slice ap t.asks.length ac := by
  obtain ⟨a, ⟨vs, _, b, _⟩, c⟩ := h
  obtain ⟨lp, lc, h1⟩ := a.slice
  obtain ⟨tp, tc, h2⟩ := b.slice
  obtain ⟨ap, ac, h3⟩ := c.slice
  exact ⟨lp, lc, tp, tc, ap, ac, h1, h2, h3⟩
/-- a test variable that is made -/
theorem atP {w : World} {lv tv av : Value} {t : TestM} (h : TestIn w lv tv av t) (T : TypeId) : TestAt (w.alloc (.cells #[lv, tv, av] T)) w.heap.size t :=
  ⟨_, _, _, by rw [cOf (heap_alloc_new _ _)]; rfl, by rw [cOf (heap_alloc_new _ _)]; rfl, by rw [cOf (heap_alloc_new _ _)]; rfl, h.below (aset _ _)⟩
theorem textP_any (b : Nat) (w : World) (h : TestAt w b passM) :
    Calls Tryd.prog 15 #[.pointer (some ⟨b, 0, none⟩), .agg (stA passS)] w fun e w' => e = .returned (.string ⟨#[49, 58, 114, 48, 61, 49, 32, 49, 58, 114, 49, 61, 48, 32, 120, 61, 49, 32, 121, 61, 49]⟩) ∧ Below w.heap.size w w' := by
  have hn : ∀ p ∈ slotsM passM, (nameP passM p).length ≤ 1000000 ∧ ∀ W, Below w.heap.size w W → Calls Tryd.prog 30 #[.pointer (some ⟨b, 0, none⟩), .agg #[.int .i64 p.1, .int .i64 p.2]] W fun e w' => e = .returned (.string (st (nameP passM p))) ∧ Below W.heap.size W w' := by
    rw [slotsP]
    intro p hp
    simp only [List.mem_cons, List.not_mem_nil, or_false] at hp
    have hd : ∀ n : Fin 2, (Lib.decDigits n.val).length ≤ 1 := fun n => match n with
      | ⟨0, _⟩ => by show (Lib.decDigits 0).length ≤ 1; rw [dd0]; decide
      | ⟨1, _⟩ => by show (Lib.decDigits 1).length ≤ 1; rw [dd1]; decide
    rcases hp with rfl | rfl | rfl | rfl
    · exact ⟨by show (Lib.decDigits 1 ++ [58, 114] ++ Lib.decDigits 0).length ≤ _; rw [dd0, dd1]; decide, fun W _ => nameReg_any b passM 1 0 (by decide) (by decide) W⟩
    · exact ⟨by show (Lib.decDigits 1 ++ [58, 114] ++ Lib.decDigits 1).length ≤ _; rw [dd1]; decide, fun W _ => nameReg_any b passM 1 1 (by decide) (by decide) W⟩
    · exact ⟨by decide, fun W hW => nameLoc_any b passM okP 0 _ rfl W (h.below hW)⟩
    · exact ⟨by decide, fun W hW => nameLoc_any b passM okP 1 _ rfl W (h.below hW)⟩
  have hf : ∀ x ∈ passS.v, (Lib.decDigits x.toNat).length ≤ 20 ∧ ∀ W, Below w.heap.size w W → Calls Tryd.prog 31 #[.int .u64 x, .int .i64 10] W fun e w' => e = .returned (.string (st (Lib.decDigits x.toNat))) ∧ Below W.heap.size W w' := by
    rw [passS_v]
    intro x hx
    have hx' : x = 0 ∨ x = 1 := by
      simp only [List.mem_cons, List.not_mem_nil, or_false] at hx
      omega
    rcases hx' with rfl | rfl
    · exact ⟨by show (Lib.decDigits 0).length ≤ 20; rw [dd0]; decide, fun W _ => (fmtSmall_any 0 (by decide) W).mono fun e w' ⟨h1, h2⟩ => ⟨h1, h2 ▸ Below.refl _ _⟩⟩
    · exact ⟨by show (Lib.decDigits 1).length ≤ 20; rw [dd1]; decide, fun W _ => (fmtSmall_any 1 (by decide) W).mono fun e w' ⟨h1, h2⟩ => ⟨h1, h2 ▸ Below.refl _ _⟩⟩
  have c := text_any b passM okP passS 4 passS_n (by decide) w h (by rw [slotsP]; decide) hn hf
  rw [textP] at c
  exact c
set_option maxHeartbeats 3200000 in
theorem awake12_any (w : World) :
    Calls Tryd.prog 6 #[] w fun e w' => e = .returned (.bool true) ∧ Below w.heap.size w w' := by
  have c0 := passing_any w
  have c1 : ∀ (b : Nat) (W : World) (rv : Value), TestAt W b passM → SlIn W rv 8 2 (#[.int .u64 0, .int .u64 0, .int .u64 0, .int .u64 0, .int .u64 0, .int .u64 0, .int .u64 0, .int .u64 0, .int .u64 1, .int .u64 0, .int .u64 0, .int .u64 0, .int .u64 0, .int .u64 0, .int .u64 0, .int .u64 0] : Array Value).toList → Calls Tryd.prog 9 #[.pointer (some ⟨b, 0, none⟩), rv, .agg #[.int .u64 1, .int .u64 1, .int .u64 0, .int .u64 0, .int .u64 0, .int .u64 0, .int .u64 0, .int .u64 0]] W fun e w' => e = .returned (.agg (stA passS)) ∧ Below W.heap.size W w' := fun b W rv h hr =>
    made_any b passM okP (by rw [slotsP]; decide) rv regP locP rfl (by decide) (by decide) (by rw [slotsP]; decide) W h hr
  have c2 := fun (b : Nat) W h => textP_any b W h
  have q4 := passS_n
  generalize passS = S at *
  have C0 := Bx.mk c0; have C1 := Bx.mk c1; have C2 := Bx.mk c2; have Q4 := Bx.mk q4
  clear c0 c1 c2 q4
  have hu := Tryd.underlying44
  have I1 := Bx.mk (info_sz S); have I2 := Bx.mk (info_sa S); have O1 := Bx.mk (all_oneCell_toArray (stC_one S))
  go_enter Tryd.func6, Tryd.ntmps6
  go_wp2_with (first
    | (go_at_call 20; ((with_reducible refine (C0.out).mono ?_); rintro e w1 ⟨⟨lv, tv, av, rfl, ht⟩, hb1⟩; obtain ⟨lp, lc, tp, tc, ap, ac, rfl, rfl, rfl⟩ := valsP ht; have HT := Bx.mk (atP ht 26); have B0 := Bx.mk (bel hb1 (aset w1 (.cells #[.slice lp passM.locs.length lc, .slice tp passM.thr.length tc, .slice ap passM.asks.length ac] 26))); clear ht hb1)))
  have hs : (w1.alloc (.cells #[.slice lp passM.locs.length lc, .slice tp passM.thr.length tc, .slice ap passM.asks.length ac] 26)).heap.size = w1.heap.size + 1 := by simp
  have HR := slNew (w1.alloc (.cells #[.slice lp passM.locs.length lc, .slice tp passM.thr.length tc, .slice ap passM.asks.length ac] 26)) #[.int .u64 0, .int .u64 0, .int .u64 0, .int .u64 0, .int .u64 0, .int .u64 0, .int .u64 0, .int .u64 0, .int .u64 1, .int .u64 0, .int .u64 0, .int .u64 0, .int .u64 0, .int .u64 0, .int .u64 0, .int .u64 0] 41 8 2 rfl
  rw [hs] at HR
  have HT2 := Bx.mk (HT.out.below (aset (w1.alloc (.cells #[.slice lp passM.locs.length lc, .slice tp passM.thr.length tc, .slice ap passM.asks.length ac] 26)) (.cells #[.int .u64 0, .int .u64 0, .int .u64 0, .int .u64 0, .int .u64 0, .int .u64 0, .int .u64 0, .int .u64 0, .int .u64 1, .int .u64 0, .int .u64 0, .int .u64 0, .int .u64 0, .int .u64 0, .int .u64 0, .int .u64 0] 41)))
  have B1 := Bx.mk (bel B0.out (aset (w1.alloc (.cells #[.slice lp passM.locs.length lc, .slice tp passM.thr.length tc, .slice ap passM.asks.length ac] 26)) (.cells #[.int .u64 0, .int .u64 0, .int .u64 0, .int .u64 0, .int .u64 0, .int .u64 0, .int .u64 0, .int .u64 0, .int .u64 1, .int .u64 0, .int .u64 0, .int .u64 0, .int .u64 0, .int .u64 0, .int .u64 0, .int .u64 0] 41)))
  have HR := Bx.mk HR
  clear hs
  generalize ((w1.alloc (.cells #[.slice lp passM.locs.length lc, .slice tp passM.thr.length tc, .slice ap passM.asks.length ac] 26)).alloc (.cells #[.int .u64 0, .int .u64 0, .int .u64 0, .int .u64 0, .int .u64 0, .int .u64 0, .int .u64 0, .int .u64 0, .int .u64 1, .int .u64 0, .int .u64 0, .int .u64 0, .int .u64 0, .int .u64 0, .int .u64 0, .int .u64 0] 41)) = w2 at *
  go_wp2_with (first
    | (go_at_call 9; ((with_reducible refine (C1.out _ _ _ HT2.out HR.out).mono ?_); rintro e w3 ⟨rfl, hb3⟩; have HT3 := Bx.mk ((HT2.out.below hb3).below (aset w3 (.cells (stA S) 44))); have B3 := Bx.mk (bel (bel B1.out hb3) (aset w3 (.cells (stA S) 44))); have R3 := Bx.mk (rangeNew w3 S 44); have N3 := Bx.mk (stA_at (heap_alloc_new w3 (.cells (stA S) 44))).1; clear hb3))
    | ((with_reducible refine at_store 44 (.tmp 2) (.tmp 8) ?_); refine wpList_store_mid rfl 44 (.tmp 2) (.tmp 8) (by rfl) w3.heap.size 0 (stA S) (by rfl) (by rfl) (thereZ w3 S) I2.out O1.out ?_; rw [allocZ w3 S])
    | ((with_reducible refine at_load 44 (.tmp 2) ?_); refine wpList_load_mid rfl 44 (.tmp 2) (by rfl) w3.heap.size 0 (by rfl) (stC S) _ R3.out hu rfl I1.out ?_)
    | (go_at_call 15; ((with_reducible refine (C2.out _ _ HT3.out).mono ?_); rintro e w4 ⟨rfl, hb4⟩; have B4 := Bx.mk (bel B3.out hb4); have q4 := cBel N3.out hb4; rw [Q4.out] at q4; clear hb4)))
  go_ret
  exact ⟨rfl, B4.out⟩
end Go.Proofs.YtnlcmdgjoikljaaDoor
