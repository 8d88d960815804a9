/- The contracts of ordealref01.Bits and Value. -/
import Derived.Test.YtbcbhofbikdfiaaDoorRows
import Derived.Test.YtbcbhofbikdfiaaDoorMath
import Derived.WalkKit
import Derived.WalkSpells
import Derived.WalkLawsBesides
namespace Go.Proofs.YtbcbhofbikdfiaaDoor
set_option maxRecDepth 100000
open Go.RowKit M

theorem info_int : (Tryd.prog.info? 3).map (fun i => (i.zero, i.size, i.bytes)) = some (some (.int .i64 0), 1, 8) := by kernel_rfl

/-- the cells of a list of small numbers -/
def ints (l : List Nat) : List Value := l.map fun n => .int .i64 (n : Nat)

theorem ints_one (l : List Nat) : ∀ u ∈ ints l, u.oneCell' = true := by
  intro u hu; simp [ints] at hu; obtain ⟨n, _, rfl⟩ := hu; rfl

def BitsPost (w : World) (v : Nat) (e : Ending) (w' : World) : Prop :=
  ∃ g cap, e = .returned (.slice (some ⟨g, 0, none⟩) 64 cap) ∧ 64 ≤ cap ∧ w.heap.size ≤ g ∧ w'.ownsRow w.heap.size 3 1 (.slice (some ⟨g, 0, none⟩) 64 cap) 64 (ints (bl 64 v)) ∧ Below w.heap.size w w'


theorem bits_step {w wr w1 : World} {v k : Nat} {o v' : Value} (hown : wr.ownsRow w.heap.size 3 1 o k (ints (bl k v))) (hnx : Below w.heap.size w wr)
    (hown' : w1.ownsRow w.heap.size 3 1 v' (k + 1) (ints (bl k v) ++ [.int .i64 ((v / 2 ^ k % 2 : Nat) : Int)])) (hg : (wr.alloc (.cells #[.int .i64 ((v / 2 ^ k % 2 : Nat) : Int)] 3)).grownBy w1 o.ownBlock) :
    w1.ownsRow w.heap.size 3 1 v' (k + 1) (ints (bl (k + 1) v)) ∧ Below w.heap.size w w1 := by
  refine ⟨?_, ?_⟩
  · rw [bl_succ]; simpa [ints] using hown'
  · exact (hnx.alloc hnx.size _).grown hg (by have := hnx.size; simp; omega) (fun k hk => (hown.lt k hk).1)

theorem own_some {w : World} {B e z : Nat} {v : Value} {n : Nat} {xs : List Value} (h : w.ownsRow B e z v (n + 1) xs) : ∃ g cap, v = .slice (some ⟨g, 0, none⟩) (n + 1) cap := by
  rcases h.2 with ⟨_, h0⟩ | ⟨g, cap, cur, hv, _⟩
  · omega
  · exact ⟨g, cap, hv⟩

theorem own_cap {w : World} {B e z : Nat} {g cap : Nat} {n : Nat} {xs : List Value} (h : w.ownsRow B e z (.slice (some ⟨g, 0, none⟩) n cap) n xs) : n ≤ cap := by
  rcases h.2 with ⟨h0, _⟩ | ⟨g', cap', cur, hv, _, _, hc, _⟩
  · simp at h0
  · simp at hv; omega
theorem own_ge {w : World} {B e z : Nat} {g cap : Nat} {n : Nat} {xs : List Value} (h : w.ownsRow B e z (.slice (some ⟨g, 0, none⟩) n cap) n xs) : B ≤ g := (h.lt g rfl).1

/-- the cells of what is owned -/
theorem own_cells {w : World} {B e : Nat} {g cap n : Nat} {l : List Nat} (h : w.ownsRow B e 1 (.slice (some ⟨g, 0, none⟩) n cap) n (ints l)) (o : Nat) : ∀ j, j < n - o → w.cell? ⟨g, o + j, none⟩ = some (.int .i64 (((l.drop o).getD j 0 : Nat) : Int)) := by
  intro j hj
  have hl : l.length = n := by have := h.1; simpa [ints] using this
  rw [h.cellAt (o + j) (by omega), getD_drop]
  simp [ints, List.getD, hl, show o + j < n by omega]

theorem div2 (v k : Nat) : v / 2 ^ k / 2 = v / 2 ^ (k + 1) := by rw [Nat.div_div_eq_div_mul, Nat.pow_succ]

theorem drop_cons (l : List Nat) (k : Nat) (h : k < l.length) : l.drop k = l.getD k 0 :: l.drop (k + 1) := by
  rw [List.drop_eq_getElem_cons h]; simp [List.getD, h]

theorem val_drop_lt (l : List Nat) (hl : ∀ b ∈ l, b ≤ 1) (hn : l.length ≤ 64) (k : Nat) (h : 1 ≤ k) : val (l.drop k) < 9223372036854775808 := by
  have h1 := val_lt (l.drop k) (fun b hb => hl b (List.mem_of_mem_drop hb))
  have h2 : 2 ^ (l.drop k).length ≤ 2 ^ 63 := Nat.pow_le_pow_right (by decide) (by simp; omega)
  have h3 : (2 : Nat) ^ 63 = 9223372036854775808 := by decide
  omega

end Go.Proofs.YtbcbhofbikdfiaaDoor
