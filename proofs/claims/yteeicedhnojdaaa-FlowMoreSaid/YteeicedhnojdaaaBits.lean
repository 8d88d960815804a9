/- The contracts of ordealref01.Bits and Value. -/
import Derived.Test.YteeicedhnojdaaaRows
import Derived.Test.YteeicedhnojdaaaMath
import Derived.WalkKit
import Derived.WalkSpells
import Derived.WalkLawsBesides
namespace Go.Proofs.Yteeicedhnojdaaa
set_option maxRecDepth 100000
open Go.RowKit M

theorem info_int : (Try.prog.info? 3).map (fun i => (i.zero, i.size, i.bytes)) = some (some (.int .i64 0), 1, 8) := by kernel_rfl

/-- the cells of a list of small numbers -/
def ints (l : List Nat) : List Value := l.map fun n => .int .i64 (n : Nat)

theorem ints_one (l : List Nat) : ∀ u ∈ ints l, u.oneCell' = true := by
  intro u hu; simp [ints] at hu; obtain ⟨n, _, rfl⟩ := hu; rfl

def BitsPost (w : World) (v : Nat) (e : Ending) (w' : World) : Prop :=
  ∃ g cap, e = .returned (.slice (some ⟨g, 0, none⟩) 64 cap) ∧ 64 ≤ cap ∧ w.heap.size ≤ g ∧ w'.ownsRow w.heap.size 3 1 (.slice (some ⟨g, 0, none⟩) 64 cap) 64 (ints (bl 64 v)) ∧ Below w.heap.size w w'


theorem bits_step {w wr w1 : World} {v k : Nat} {o v' : Value} (hown : wr.ownsRow w.heap.size 3 1 o k (ints (bl k v))) (hnx : Below w.heap.size w wr)
    (hown' : w1.ownsRow w.heap.size 3 1 v' (k + 1) (ints (bl k v) ++ [.int .i64 ((v / 2 ^ k % 2 : Nat) : Int)])) (hg : (wr.alloc (.cells #[.int .i64 ((v / 2 ^ k % 2 : Nat) : Int)] 3)).grownBy w1 o.ownBlock) :
    w1.ownsRow w.heap.size 3 1 v' (k + 1) (ints (bl (k + 1) v)) ∧ Below w.heap.size w w1 := by
  refine ⟨?_, ?_⟩
  · rw [bl_succ]; simpa [ints] using hown'
  · exact (hnx.alloc hnx.size _).grown hg (by have := hnx.size; simp; omega) (fun k hk => (hown.lt k hk).1)

theorem own_some {w : World} {B e z : Nat} {v : Value} {n : Nat} {xs : List Value} (h : w.ownsRow B e z v (n + 1) xs) : ∃ g cap, v = .slice (some ⟨g, 0, none⟩) (n + 1) cap := by
  rcases h.2 with ⟨_, h0⟩ | ⟨g, cap, cur, hv, _⟩
  · omega
  · exact ⟨g, cap, hv⟩

theorem own_cap {w : World} {B e z : Nat} {g cap : Nat} {n : Nat} {xs : List Value} (h : w.ownsRow B e z (.slice (some ⟨g, 0, none⟩) n cap) n xs) : n ≤ cap := by
  rcases h.2 with ⟨h0, _⟩ | ⟨g', cap', cur, hv, _, _, hc, _⟩
  · simp at h0
  · simp at hv; omega
theorem own_ge {w : World} {B e z : Nat} {g cap : Nat} {n : Nat} {xs : List Value} (h : w.ownsRow B e z (.slice (some ⟨g, 0, none⟩) n cap) n xs) : B ≤ g := (h.lt g rfl).1

/-- the cells of what is owned -/
theorem own_cells {w : World} {B e : Nat} {g cap n : Nat} {l : List Nat} (h : w.ownsRow B e 1 (.slice (some ⟨g, 0, none⟩) n cap) n (ints l)) (o : Nat) : ∀ j, j < n - o → w.cell? ⟨g, o + j, none⟩ = some (.int .i64 (((l.drop o).getD j 0 : Nat) : Int)) := by
  intro j hj
  have hl : l.length = n := by have := h.1; simpa [ints] using this
  rw [h.cellAt (o + j) (by omega), getD_drop]
  simp [ints, List.getD, hl, show o + j < n by omega]

theorem div2 (v k : Nat) : v / 2 ^ k / 2 = v / 2 ^ (k + 1) := by rw [Nat.div_div_eq_div_mul, Nat.pow_succ]

set_option maxHeartbeats 400000 in
theorem bits_any (v : Nat) (hv : v < 18446744073709551616) (w : World) :
    Calls Try.prog 36 #[.int .u64 v] w (BitsPost w v) := by
  obtain ⟨i0, hi, hz0, hz1, hz2⟩ := info_parts info_int
  go_enter Try.func36, Try.ntmps36
  go_wp2_with fail
  go_loopw [0, 3, 4] (fun x o i wr => ∃ k : Nat, k ≤ 64 ∧ i = .int .i64 k ∧ x = .int .u64 ((v / 2 ^ k : Nat) : Int) ∧ wr.ownsRow w.heap.size 3 1 o k (ints (bl k v)) ∧ Below w.heap.size w wr ∧ ∃ g cap, o = .slice (some ⟨g, 0, none⟩) k cap)
    (fun _ _ i _ => 64 - (intOf i).toNat)
  case atStart => exact ⟨0, by omega, rfl, by simp, World.ownsRow_made w #[] 0 (Nat.le_refl _) (by simp) rfl, (Below.refl _ _).alloc (Nat.le_refl _) _, _, _, rfl⟩
  case round =>
    obtain ⟨k, hk, rfl, rfl, hown, hnx, g, cap, rfl⟩ := hrel
    have hb : v / 2 ^ k < 18446744073709551616 := Nat.lt_of_le_of_lt (Nat.div_le_self _ _) hv
    generalize hx : v / 2 ^ k = x at *
    have HX := Box.mk hx; clear hx
    by_cases hlt : k < 64
    · go_wp2_with (at_builtin; refine wpList_append_own _ rfl _ _ 64 rfl w.heap.size 3 i0 (.int .i64 0) 1 8 Try.underlying64 hi hz0 hz1 hz2 rfl (by decide) _ _ _ rfl (hown.alloc _) ⟨wr.heap.size, 0, none⟩ 1 1 [.int .i64 ((x : Int) % 2)] rfl rfl (cell_one_new _ _ _) (by simp [Value.oneCell']) (by unfold maxLen; omega) (by omega) (by have := hnx.size; simp; omega) ?_; intro v' w1 hown' hg hn)
      go_roundw
      case rel =>
        have e : ((x : Int) % 2) = ((v / 2 ^ k % 2 : Nat) : Int) := by rw [HX.out]; omega
        rw [e] at hown' hg
        obtain ⟨r1, r2⟩ := bits_step hown hnx hown' hg
        refine ⟨k + 1, by omega, by go_num, ?_, r1, r2, own_some r1⟩
        rw [← div2, HX.out]; go_num
      case measure => simp [intOf]; omega
    · obtain rfl : k = 64 := by omega
      go_wp2
      go_ret
      exact ⟨g, cap, rfl, own_cap hown, own_ge hown, hown, hnx⟩

theorem drop_cons (l : List Nat) (k : Nat) (h : k < l.length) : l.drop k = l.getD k 0 :: l.drop (k + 1) := by
  rw [List.drop_eq_getElem_cons h]; simp [List.getD, h]

theorem val_drop_lt (l : List Nat) (hl : ∀ b ∈ l, b ≤ 1) (hn : l.length ≤ 64) (k : Nat) (h : 1 ≤ k) : val (l.drop k) < 9223372036854775808 := by
  have h1 := val_lt (l.drop k) (fun b hb => hl b (List.mem_of_mem_drop hb))
  have h2 : 2 ^ (l.drop k).length ≤ 2 ^ 63 := Nat.pow_le_pow_right (by decide) (by simp; omega)
  have h3 : (2 : Nat) ^ 63 = 9223372036854775808 := by decide
  omega

set_option maxHeartbeats 400000 in
theorem value_any (l : List Nat) (hl : ∀ b ∈ l, b ≤ 1) (hn : l.length ≤ 64) (g o n cap : Nat) (hln : n = l.length) (w : World) (hc : ∀ j, j < n → w.cell? ⟨g, o + j, none⟩ = some (.int .i64 ((l.getD j 0 : Nat) : Int))) :
    Calls Try.prog 38 #[.slice (some ⟨g, o, none⟩) n cap] w fun e w' => e = .returned (.int .u64 ((val l : Nat) : Int)) ∧ w = w' := by
  have hn' : n ≤ 64 := by omega
  have HN := Box.mk hln; clear hln
  go_enter Try.func38, Try.ntmps38
  go_wp2_with fail
  go_loop [3, 4] (fun x i => ∃ k : Nat, k ≤ n ∧ i = .int .i64 ((k : Int) - 1) ∧ x = .int .u64 ((val (l.drop k) : Nat) : Int)) (fun _ i => (intOf i + 1).toNat)
  case atStart => exact ⟨n, by omega, rfl, by rw [HN.out]; simp [val]⟩
  case round =>
    obtain ⟨k, hk, rfl, rfl⟩ := hrel
    rcases Nat.eq_zero_or_pos k with rfl | hp
    · go_wp2
      go_ret
      exact ⟨by simp, rfl⟩
    · obtain ⟨k, rfl⟩ : ∃ m, k = m + 1 := ⟨k - 1, by omega⟩
      have hb := val_drop_lt l hl hn (k + 1) (by omega)
      have hcell := hc k (by omega)
      have hb1 : l.getD k 0 ≤ 1 := by
        by_cases h : k < l.length
        · exact hl _ (by simp [List.getD, h])
        · simp [List.getD, h]
      have hd := drop_cons l k (by rw [← HN.out]; omega)
      have HD := Box.mk hd; clear hd hc
      generalize hx : val (l.drop (k + 1)) = x at *
      have HX := Box.mk hx; clear hx
      generalize hy : l.getD k 0 = y at *
      have HY := Box.mk hy; clear hy
      go_wp2
      go_round
      case rel => exact ⟨k, by omega, rfl, by rw [HD.out]; simp only [val]; rw [HX.out]; go_num⟩
      case measure => simp [intOf]
end Go.Proofs.Yteeicedhnojdaaa
