/- What a good test gives: few slots, registers that there are. -/
import Derived.Test.YtnlcmdgjoikljaaDoorLitX
import Derived.Test.YtnlcmdgjoikljaaDoorTolX
import Derived.Test.YtnlcmdgjoikljaaDoorTolV
namespace Go.Proofs.YtnlcmdgjoikljaaDoor
set_option maxRecDepth 100000
open Go.RowKit

theorem good_rd {u : TestM} (h : chkTest u = 0) : RdOk u := by
  obtain ⟨_, _, ht, _⟩ := (chk0 u).1 h
  intro l hl x hx
  have h1 := (line0 _ l).1 ((thr0 _ _).1 ht l hl)
  obtain ⟨i, hi⟩ := List.mem_iff_getElem?.1 hx
  have h2 := h1 i x hi
  unfold chkM at h2
  split at h2
  · omega
  · split at h2
    · omega
    · rename_i hn
      have hn : namesM x (u.locs.length : Int) = true := by
        cases hc : namesM x (u.locs.length : Int) with
        | true => rfl
        | false => exact absurd hc hn
      unfold namesM at hn
      simp only [Bool.and_eq_true] at hn
      have := hn.2.1.1.1
      unfold idx at this
      simp only [Bool.and_eq_true, decide_eq_true_eq] at this
      exact this
theorem thrSl_mem : ∀ (L : List (List Ins)) (i : Nat) (p : Int × Int), p ∈ thrSl i L → ((i : Int) ≤ p.1 ∧ p.1 < ((i + L.length : Nat) : Int)) ∧ ∃ l ∈ L, p.2 ∈ regsM l
  | [], _, _, h => by simp [thrSl] at h
  | l :: r, i, p, h => by
    rw [thrSl, List.mem_append] at h
    rcases h with h | h
    · obtain ⟨x, hx, rfl⟩ := List.mem_map.1 h
      exact ⟨⟨by simp, by simp; omega⟩, l, by simp, hx⟩
    · obtain ⟨⟨h1, h2⟩, l', hl', h3⟩ := thrSl_mem r (i + 1) p h
      refine ⟨⟨by omega, ?_⟩, l', by simp [hl'], h3⟩
      rw [List.length_cons]
      omega
theorem thrSl_len : ∀ (L : List (List Ins)) (i : Nat), (∀ l ∈ L, (regsM l).length ≤ 8) → (thrSl i L).length ≤ L.length * 8
  | [], _, _ => by simp [thrSl]
  | l :: r, i, h => by
    have h1 := h l (by simp)
    have h2 := thrSl_len r (i + 1) (fun x hx => h x (by simp [hx]))
    rw [thrSl, List.length_append, List.length_map, List.length_cons, Nat.succ_mul]
    omega
theorem good_slots {u : TestM} (h : chkTest u = 0) : (slotsM u).length ≤ 40 ∧ SlotsOk u u.thr.length ∧ (∀ p ∈ slotsM u, p.1 = -1 → p.2 < (u.locs.length : Int)) := by
  have hrd := good_rd h
  obtain ⟨hs, _, _, _⟩ := (chk0 u).1 h
  obtain ⟨_, h4, h8, _, hl8, _⟩ := (sizes0 u).1 hs
  have hreg : ∀ l ∈ u.thr, (regsM l).length ≤ 8 := fun l hl => Nat.le_trans (regsM_le l) (hl8 l hl)
  have hlen := thrSl_len u.thr 0 hreg
  have hmem : ∀ p ∈ slotsM u, (∃ l ∈ u.thr, p.2 ∈ regsM l) ∧ 0 ≤ p.1 ∧ p.1 < (u.thr.length : Int) ∨ p.1 = -1 ∧ 0 ≤ p.2 ∧ p.2 < (u.locs.length : Int) := by
    intro p hp
    unfold slotsM at hp
    rw [List.mem_append] at hp
    rcases hp with hp | hp
    · obtain ⟨⟨h1, h2⟩, h3⟩ := thrSl_mem _ _ _ hp
      exact .inl ⟨h3, by omega, by simpa using h2⟩
    · obtain ⟨j, hj, rfl⟩ := List.mem_map.1 hp
      have := List.mem_range.1 hj
      exact .inr ⟨rfl, by show (0 : Int) ≤ (j : Int); omega, by show (j : Int) < _; omega⟩
  refine ⟨?_, fun p hp => ?_, fun p hp hm => ?_⟩
  · unfold slotsM
    rw [List.length_append]
    have : (locSl u.locs.length).length = u.locs.length := by simp [locSl]
    omega
  · rcases hmem p hp with ⟨⟨l, hl, hr⟩, h1, h2⟩ | ⟨h1, h2, h3⟩
    · have h5 := (regsM_pw l).2 p.2 |>.1 hr
      unfold regsOf at h5
      obtain ⟨x, hx, hxe⟩ := List.mem_map.1 h5
      have := hrd l hl x (List.mem_filter.1 hx).1
      exact ⟨.inr ⟨h1, h2⟩, by omega, by omega⟩
    · exact ⟨.inl h1, h2, by omega⟩
  · rcases hmem p hp with ⟨_, h1, _⟩ | ⟨_, _, h3⟩
    · omega
    · exact h3
end Go.Proofs.YtnlcmdgjoikljaaDoor
