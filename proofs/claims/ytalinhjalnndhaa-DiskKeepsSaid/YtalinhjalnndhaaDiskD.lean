/- Contracts of disk: chosen, apply. -/
import Derived.Test.YtalinhjalnndhaaDiskC
namespace Go.Proofs.Ytalinhjalnndhaa
set_option maxRecDepth 100000
open Go.RowKit M

/-- a slice of ints that can be read -/
structure IntsIn (w : World) (v : Value) (xs : List Int) : Prop where
  val : ∃ q c, v = .slice q xs.length c
  cells : 0 < xs.length → ∃ b off c, v = .slice (some ⟨b, off, none⟩) xs.length c ∧ b < w.heap.size ∧ ∀ i, i < xs.length → w.cell? ⟨b, off + i, none⟩ = some (.int .i64 (xs.getD i 0))
  len : xs.length ≤ maxLen
  rng : ∀ x ∈ xs, -9223372036854775808 ≤ x ∧ x ≤ 9223372036854775807
theorem IntsIn.keep {w w' : World} {v : Value} {xs : List Int} (h : IntsIn w v xs) (hs : w.heap.size ≤ w'.heap.size) (hk : ∀ b, v.ownBlock = some b → b < w.heap.size → w'.heap[b]? = w.heap[b]?) : IntsIn w' v xs := by
  refine ⟨h.val, fun h0 => ?_, h.len, h.rng⟩
  obtain ⟨b, off, c, e, hb, hc⟩ := h.cells h0
  exact ⟨b, off, c, e, Nat.lt_of_lt_of_le hb hs, fun i hi => (cell_keep (hk _ (by rw [e]; rfl) hb)).trans (hc i hi)⟩

theorem pickN_none {xs : List Int} {i : Nat} (m : Nat) (h : xs.length ≤ i) : pickN xs i m = 0 := by
  unfold pickN; rw [List.getElem?_eq_none h]
theorem pickN_pos {xs : List Int} {i : Nat} (m : Nat) (h : i < xs.length) : ((pickN xs i m : Nat) : Int) = if (xs.getD i 0).tmod ((m : Int) + 1) < 0 then (xs.getD i 0).tmod ((m : Int) + 1) + ((m : Int) + 1) else (xs.getD i 0).tmod ((m : Int) + 1) := by
  unfold pickN
  rw [List.getElem?_eq_getElem h]
  have e : xs.getD i 0 = xs[i] := by simp [List.getD, h]
  rw [e]
  generalize xs[i] = c
  have h1 := Int.emod_nonneg c (b := (m : Int) + 1) (by omega)
  show (((c % ((m : Int) + 1)).toNat : Nat) : Int) = _
  rw [Int.toNat_of_nonneg h1]
  have h2 := Int.emod_lt_of_pos c (b := (m : Int) + 1) (by omega)
  have h3 := Int.tmod_eq_emod (a := c) (b := (m : Int) + 1)
  have h4 : (((m : Int) + 1).natAbs : Int) = (m : Int) + 1 := Int.natAbs_of_nonneg (by omega)
  split at h3
  · rw [if_neg (by omega)]; omega
  · rw [if_pos (by omega)]; omega
theorem tmod_low (c : Int) (m : Nat) : -((m : Int) + 1) < c.tmod ((m : Int) + 1) ∧ c.tmod ((m : Int) + 1) < (m : Int) + 1 := by
  have h1 := Int.emod_nonneg c (b := (m : Int) + 1) (by omega)
  have h2 := Int.emod_lt_of_pos c (b := (m : Int) + 1) (by omega)
  have h3 := Int.tmod_eq_emod (a := c) (b := (m : Int) + 1)
  have h4 : (((m : Int) + 1).natAbs : Int) = (m : Int) + 1 := Int.natAbs_of_nonneg (by omega)
  split at h3
  · by_cases h0 : c % ((m : Int) + 1) = 0 <;> omega
  · rename_i hn
    have h0 : c % ((m : Int) + 1) ≠ 0 := fun e => hn (.inr (Int.dvd_of_emod_eq_zero e))
    omega

set_option maxHeartbeats 400000 in
theorem chosen_any (v : Value) (xs : List Int) (i m : Nat) (w : World) (h : IntsIn w v xs) (hi : i ≤ 1099511627777) (hm : m ≤ 1099511627777) :
    Calls Try.prog 44 #[v, .int .i64 (i : Int), .int .i64 (m : Int)] w fun e w' => e = .returned (.int .i64 ((pickN xs i m : Nat) : Int)) ∧ w = w' := by
  have hlen := h.len
  unfold maxLen at hlen
  obtain ⟨n, hn⟩ : ∃ n, n = xs.length := ⟨_, rfl⟩
  rcases Nat.lt_or_ge i xs.length with hlt | hge
  · obtain ⟨b, off, c, rfl, hb, hc⟩ := h.cells (by omega)
    have hcell := hc i hlt
    have hr := h.rng (xs.getD i 0) (by simp [List.getD, hlt])
    obtain ⟨r1, r2⟩ := hr
    have hp := pickN_pos m hlt
    obtain ⟨x, hx⟩ : ∃ x, x = xs.getD i 0 := ⟨_, rfl⟩
    rw [← hx] at hcell r1 r2 hp
    rw [← hn] at hlt hlen ⊢
    clear hc h hx hn
    have HP := Box.mk hp
    clear hp
    go_enter Try.func44, Try.ntmps44
    go_wp2
    all_goals go_ret
    · refine ⟨congrArg Ending.returned (congrArg (Value.int .i64) ?_), rfl⟩
      have hl := tmod_low x m
      rw [HP.out, if_pos (by assumption)]
      exact IntWalk.wrap64_in _ (by omega)
    · refine ⟨congrArg Ending.returned (congrArg (Value.int .i64) ?_), rfl⟩
      rw [HP.out, if_neg (by omega)]
  · obtain ⟨q, c, rfl⟩ := h.val
    rw [pickN_none m hge]
    rw [← hn] at hge hlen ⊢
    clear h hn
    have e1 : ((n : Int) ≤ (i : Int)) := by omega
    go_enter Try.func44, Try.ntmps44
    go_wp2
    go_ret
    exact ⟨rfl, rfl⟩

/-- block b alone of the old blocks may have changed -/
structure Lone (b : Nat) (w w' : World) : Prop where
  os : w'.os = w.os
  tape : w'.tape = w.tape
  output : w'.output = w.output
  size : w.heap.size ≤ w'.heap.size
  block : ∀ k, k < w.heap.size → k ≠ b → w'.heap[k]? = w.heap[k]?
theorem setBlock_far {w : World} {b k : Nat} {o : Obj} (h : k ≠ b) : (ChangeMaps.setBlock w b o).heap[k]? = w.heap[k]? := by
  simp [ChangeMaps.setBlock, Ne.symm h]
theorem setBlock_cell {w : World} {b p f : Nat} {o : Obj} (h : p ≠ b) : (ChangeMaps.setBlock w b o).cell? ⟨p, f, none⟩ = w.cell? ⟨p, f, none⟩ := cell_keep (setBlock_far h)
theorem Lone.to {T : Tag → Prop} {own : Nat → Tag} {b : Nat} {w w' : World} (h : Lone b w w') (hb : T (own b)) : Chn T own w w' :=
  ⟨h.os, h.tape, h.output, h.size, fun k hk hn => h.block k hk fun e => hn (by rw [e]; exact hb)⟩

theorem d_some {x : ByteArray} (h : 0 < x.size) : x.toList.isEmpty = false := by
  rw [ByteArray.toList_eq, List.isEmpty_eq_false_iff]
  intro e
  have : x.data.toList.length = 0 := by rw [e]; rfl
  rw [Array.length_toList] at this
  exact absurd this (by show ¬ x.size = 0; omega)
theorem d_empty {x : ByteArray} (h : x.size = 0) : x.toList.isEmpty = true := by
  rw [ByteArray.toList_eq, List.isEmpty_iff]
  apply List.eq_nil_of_length_eq_zero
  rw [Array.length_toList]
  exact h

set_option maxHeartbeats 400000 in
theorem apply_any (c : Chg) (ov : Value) (loc : Nat → Nat) (mb : Nat) (l : KL) (w : World) (h : MapL w mb loc l) (h1 : c.src.size ≤ maxLen) (h2 : c.dst.size ≤ maxLen) (hroom : l.length + 1 < maxLen) :
    Calls Try.prog 56 #[.agg #[.string c.src, .string c.dst, .pointer (some ⟨loc c.file, 0, none⟩), ov], .map (some mb)] w fun e w' => e = .returned (.tuple #[]) ∧ MapL w' mb loc (c.app l) ∧ Lone mb w w' := by
  have hlt := h.lt
  have h' : MapL (w.alloc (.cells #[.string c.src, .string c.dst, .pointer (some ⟨loc c.file, 0, none⟩), ov] 82)) mb loc l := h.keep (Below.heap_alloc _ _ _ hlt)
  have hne : w.heap.size ≠ mb := by omega
  have hr2 : (kdel l c.src).length + 1 < maxLen := Nat.lt_of_le_of_lt (by have := kdel_length l c.src; omega) hroom
  have HM := Box.mk h'; have HN := Box.mk hne; have HR := Box.mk hr2
  have big := Box.mk (show ∀ o o2, Lone mb w (ChangeMaps.setBlock (ChangeMaps.setBlock (w.alloc (.cells #[.string c.src, .string c.dst, .pointer (some ⟨loc c.file, 0, none⟩), ov] 82)) mb o) mb o2) from fun o o2 =>
    ⟨rfl, rfl, rfl, by simp [ChangeMaps.setBlock], fun k hk hn => by rw [setBlock_far hn, setBlock_far hn, Below.heap_alloc _ _ _ hk]⟩)
  have big1 := Box.mk (show ∀ o, Lone mb w (ChangeMaps.setBlock (w.alloc (.cells #[.string c.src, .string c.dst, .pointer (some ⟨loc c.file, 0, none⟩), ov] 82)) mb o) from fun o =>
    ⟨rfl, rfl, rfl, by simp [ChangeMaps.setBlock], fun k hk hn => by rw [setBlock_far hn, Below.heap_alloc _ _ _ hk]⟩)
  have dcell := Box.mk (show ∀ (W : World) o f, (ChangeMaps.setBlock W mb o).cell? ⟨w.heap.size, f, none⟩ = W.cell? ⟨w.heap.size, f, none⟩ from fun W o f => setBlock_cell hne)
  unfold Chg.app
  clear h h' hne hr2 hroom
  by_cases hz : c.dst.size = 0
  · rw [if_pos hz]
    have e1 := d_empty hz
    clear hz
    go_enter Try.func56, Try.ntmps56
    go_wp2_with (at_delete; refine wpList_delete_mapL rfl _ _ 53 9 rfl 74 Try.underlying9 Try.underlying53 rfl HM.out c.src rfl h1 ?_; intro o1 hm1; have HM1 := Box.mk hm1; clear hm1; have d1 := fun f => dcell.out (w.alloc (.cells #[.string c.src, .string c.dst, .pointer (some ⟨loc c.file, 0, none⟩), ov] 82)) o1 f)
    go_end0
    exact ⟨rfl, HM1.out, big1.out o1⟩
  · rw [if_neg hz]
    have e1 := d_some (show 0 < c.dst.size by omega)
    clear hz
    go_enter Try.func56, Try.ntmps56
    go_wp2_with (first
      | (at_delete; refine wpList_delete_mapL rfl _ _ 53 9 rfl 74 Try.underlying9 Try.underlying53 rfl HM.out c.src rfl h1 ?_; intro o1 hm1; have HM1 := Box.mk hm1; clear hm1; have d1 := fun f => dcell.out (w.alloc (.cells #[.string c.src, .string c.dst, .pointer (some ⟨loc c.file, 0, none⟩), ov] 82)) o1 f)
      | (at_mapUpdate; refine wpList_store_mapL rfl _ _ _ 53 rfl 9 74 Try.underlying9 Try.underlying53 rfl HM1.out c.dst c.file rfl h2 rfl HR.out ?_; intro o2 hm2; have HM2 := Box.mk hm2; clear hm2))
    go_end0
    exact ⟨rfl, HM2.out, big.out o1 o2⟩

end Go.Proofs.Ytalinhjalnndhaa
