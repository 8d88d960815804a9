/- OutcomeTells: both texts are the same. -/
import Derived.Test.YtnlcmdgjoikljaaDoorTolU
import Derived.Test.YtnlcmdgjoikljaaDoorOutG
import Derived.Test.YtnlcmdgjoikljaaDoorOutH
namespace Go.Proofs.YtnlcmdgjoikljaaDoor
set_option maxRecDepth 100000
open Go.RowKit

/-- the table of the library, behind whatever was made -/
theorem pow_below {w w' : World} (h : Pow10 w) (hb : Below w.heap.size w w') : Pow10 w' := by
  have hg : Tryd.prog.globalNamed "internal/strconv.uint64pow10" = some 0 := by kernel_rfl
  unfold Pow10 Lib.TabIs World.var? at h ⊢
  rw [hg] at h ⊢
  simp only [Option.bind_some] at h ⊢
  have hlt : 0 < w.heap.size := by
    rcases Nat.lt_or_ge 0 w.heap.size with h' | h'
    · exact h'
    · rw [Array.getElem?_eq_none h'] at h; cases h
  rw [hb.block _ hlt]
  exact h
theorem fmt_any (u : Nat) (h : u < 18446744073709551616) (w : World) (hp : Pow10 w) :
    Calls Tryd.prog 31 #[.int .u64 (u : Int), .int .i64 10] w fun e w' => e = .returned (.string (st (Lib.decDigits u))) ∧ Below w.heap.size w w' := by
  have c := fun W (hW : Pow10 W) => ifmt_any u h W hW
  have C := Bx.mk c
  have HP := Bx.mk hp
  clear c hp
  go_enter Tryd.func31, Tryd.ntmps31
  go_wp2_with (go_at_call 50; ((with_reducible refine (C.out _ HP.out).mono ?_); rintro e w' ⟨rfl, hb⟩; have HB := Bx.mk hb; clear hb))
  go_ret
  exact ⟨rfl, HB.out⟩
theorem wordsEq (t : TestM) (s : StM) (vals : List Int) (M : Nat) (hM : M = (slotsM t).length) (hn : s.n = (M : Int)) (hv : s.v.take M = vals) : textM t s = textV t vals M := by
  unfold textM textV
  rw [hn, Int.toNat_natCast, ← hM, Nat.min_self]
  congr 1
  unfold wordsM
  apply List.map_congr_left
  intro i hi
  have hi := List.mem_range.1 hi
  unfold wordM wordV
  have : s.v.getD i 0 = vals.getD i 0 := by
    rw [← hv]
    simp only [List.getD]
    rw [List.getElem?_take_of_lt hi]
  rw [this]
theorem madeRange (t : TestM) (RR : List (List Int)) (L : List Int) (hR : ∀ l ∈ RR, ∀ x ∈ l, 0 ≤ x ∧ x < 18446744073709551616) (hL : ∀ x ∈ L, 0 ≤ x ∧ x < 18446744073709551616) : (∀ x ∈ (slotsM t).map (valM RR L), 0 ≤ x ∧ x < 18446744073709551616) ∧ ∀ x ∈ (madeM t RR L).v, 0 ≤ x ∧ x < 18446744073709551616 := by
  have at0 : ∀ (l : List Int) (i : Int), (∀ x ∈ l, 0 ≤ x ∧ x < 18446744073709551616) → 0 ≤ atM l i ∧ atM l i < 18446744073709551616 := fun l i h => by
    unfold atM
    split
    · rename_i hi
      rw [List.getD_eq_getElem?_getD, List.getElem?_eq_getElem (show i.toNat < l.length by omega)]
      exact h _ (List.getElem_mem _)
    · omega
  have h1 : ∀ x ∈ (slotsM t).map (valM RR L), 0 ≤ x ∧ x < 18446744073709551616 := by
    intro x hx
    obtain ⟨p, _, rfl⟩ := List.mem_map.1 hx
    unfold valM
    split
    · exact at0 _ _ hL
    · split
      · refine at0 _ _ fun y hy => ?_
        by_cases hp : p.1.toNat < RR.length
        · rw [List.getD_eq_getElem?_getD, List.getElem?_eq_getElem hp] at hy
          exact hR _ (List.getElem_mem hp) y hy
        · rw [List.getD_eq_getElem?_getD, List.getElem?_eq_none (by omega)] at hy
          cases hy
      · omega
  refine ⟨h1, fun x hx => ?_⟩
  unfold madeM preSt at hx
  obtain ⟨i, _, rfl⟩ := List.mem_map.1 hx
  split
  · rename_i hi
    rw [List.getD_eq_getElem?_getD]
    by_cases h2 : i < ((slotsM t).map (valM RR L)).length
    · rw [List.getElem?_eq_getElem h2]
      exact h1 _ (List.getElem_mem h2)
    · rw [List.getElem?_eq_none (by omega)]
      simp
  · omega
theorem rowRange (nums : List Int) (b n : Nat) (h : ∀ x ∈ nums, 0 ≤ x ∧ x < 18446744073709551616) : ∀ x ∈ rowM nums b n, 0 ≤ x ∧ x < 18446744073709551616 := by
  intro x hx
  obtain ⟨i, _, rfl⟩ := List.mem_map.1 hx
  rw [List.getD_eq_getElem?_getD]
  by_cases h2 : b + i < nums.length
  · rw [List.getElem?_eq_getElem h2]
    exact h _ (List.getElem_mem h2)
  · rw [List.getElem?_eq_none (by omega)]
    simp
theorem regRange (nums : List Int) (n : Nat) (h : ∀ x ∈ nums, 0 ≤ x ∧ x < 18446744073709551616) : ∀ l ∈ regRR nums n, ∀ x ∈ l, 0 ≤ x ∧ x < 18446744073709551616 := by
  intro l hl
  obtain ⟨i, _, rfl⟩ := List.mem_map.1 hl
  exact rowRange nums _ _ h
/-- the text of a state, any numbers of 64 bits -/
theorem textAll (b : Nat) (t : TestM) (hk : TestOk t) (hs : (slotsM t).length ≤ 40) (hso : SlotsOk t 100) (hnl : ∀ l ∈ t.locs, l.1.length ≤ 1000000) (hpl : ∀ p ∈ slotsM t, p.1 = -1 → p.2 < (t.locs.length : Int)) (s : StM) (M : Nat) (hM : s.n = (M : Int)) (hM40 : M ≤ 40) (hv : ∀ x ∈ s.v, 0 ≤ x ∧ x < 18446744073709551616) (w : World) (h : TestAt w b t) (hp : Pow10 w) :
    Calls Tryd.prog 15 #[.pointer (some ⟨b, 0, none⟩), .agg (stA s)] w fun e w' => e = .returned (.string (st (textM t s))) ∧ Below w.heap.size w w' := by
  refine text_any b t hk s M hM hM40 w h (Nat.le_trans hs (by decide)) (fun p hp2 => ?_) (fun x hx => ?_)
  · obtain ⟨h1, h2, h3⟩ := hso p hp2
    by_cases hm : p.1 = -1
    · have h5 := hpl p hp2 hm
      obtain ⟨d, hd⟩ := Int.eq_ofNat_of_zero_le h2
      obtain ⟨l, hl⟩ : ∃ l, t.locs[d]? = some l := ⟨_, List.getElem?_eq_getElem (by omega)⟩
      obtain ⟨p1, p2⟩ := p
      simp only at hm hd
      subst hm hd
      refine ⟨?_, fun W hW => nameLoc_any b t hk d l hl W (h.below hW)⟩
      have e : nameP t (-1, (d : Int)) = l.1 := by
        unfold nameP
        rw [if_pos rfl]
        simp [List.getD, hl]
      rw [e]
      exact hnl l (List.mem_of_getElem? hl)
    · have h4 : 0 ≤ p.1 ∧ p.1 < 100 := by omega
      obtain ⟨i, hi⟩ := Int.eq_ofNat_of_zero_le h4.1
      obtain ⟨d, hd⟩ := Int.eq_ofNat_of_zero_le h2
      obtain ⟨p1, p2⟩ := p
      simp only at hm hd hi
      subst hd hi
      refine ⟨?_, fun W _ => nameReg_any b t i d (by omega) (by omega) W⟩
      unfold nameP
      rw [if_neg hm]
      have h6 := decLen i (by omega)
      have h7 := decLen d (by omega)
      show (Lib.decDigits i ++ [58, 114] ++ Lib.decDigits d).length ≤ _
      simp only [List.length_append, List.length_cons, List.length_nil]
      omega
  · obtain ⟨h1, h2⟩ := hv x hx
    obtain ⟨n, rfl⟩ := Int.eq_ofNat_of_zero_le h1
    exact ⟨decLen n (by omega), fun W hW => fmt_any n (by omega) W (pow_below hp hW)⟩
end Go.Proofs.YtnlcmdgjoikljaaDoor
