/- The law of linear sums: the walk. -/
import Derived.Test.YtdhbeeeofaheeaaDoorCrcE
namespace Go.Proofs.YtdhbeeeofaheeaaDoor
set_option maxRecDepth 100000
open Go.RowKit M

@[go_sem] theorem run_min_int4 {P : Program} {w : World} (ts : Array TypeId) (t : TypeId) (k k1 k2 k3 : IntKind) (x y z u : Int) : (Builtin.min_ ts t #[.int k x, .int k1 y, .int k2 z, .int k3 u]).run P w =
    .ok (.int k (if u < (if z < (if y < x then y else x) then z else (if y < x then y else x)) then u else (if z < (if y < x then y else x) then z else (if y < x then y else x)))) w := by
  simp [Builtin.min_, Builtin.min2]

theorem xor_a (a b c x y z : Nat) : a ^^^ b ^^^ c ^^^ (x ^^^ y ^^^ z) = (a ^^^ x) ^^^ (b ^^^ y) ^^^ (c ^^^ z) := by
  apply Nat.eq_of_testBit_eq; intro i; simp only [Nat.testBit_xor]
  cases a.testBit i <;> cases b.testBit i <;> cases c.testBit i <;> cases x.testBit i <;> cases y.testBit i <;> cases z.testBit i <;> rfl
theorem xor_b (M a b c : Nat) : M ^^^ (a ^^^ b ^^^ c) = (M ^^^ a) ^^^ (M ^^^ b) ^^^ (M ^^^ c) := by
  apply Nat.eq_of_testBit_eq; intro i; simp only [Nat.testBit_xor]
  cases a.testBit i <;> cases b.testBit i <;> cases c.testBit i <;> cases M.testBit i <;> rfl
theorem xor_c (M a b c : Nat) : (a ^^^ b ^^^ c) ^^^ M = (a ^^^ M) ^^^ (b ^^^ M) ^^^ (c ^^^ M) := by
  apply Nat.eq_of_testBit_eq; intro i; simp only [Nat.testBit_xor]
  cases a.testBit i <;> cases b.testBit i <;> cases c.testBit i <;> cases M.testBit i <;> rfl

theorem xor8 {a b : Nat} (ha : a < 256) (hb : b < 256) : a ^^^ b < 256 := Nat.xor_lt_two_pow (n := 8) ha hb

/-- three bytes, as far as j -/
def lnf (s t u : ByteArray) (n j : Nat) : List Nat := (List.range n).map fun i => if i < j then bn s i ^^^ bn t i ^^^ bn u i else 0
theorem lnf_zero (s t u : ByteArray) (n : Nat) : byts (lnf s t u n 0) = List.replicate n (.int .u8 0) := by
  apply List.ext_getElem
  · simp [byts, lnf]
  · intro i h1 h2; simp [byts, lnf]
theorem lnf_length (s t u : ByteArray) (n j : Nat) : (lnf s t u n j).length = n := by simp [lnf]
theorem lnf_set (s t u : ByteArray) (n j : Nat) : (byts (lnf s t u n j)).set j (.int .u8 ((bn s j ^^^ bn t j ^^^ bn u j : Nat) : Int)) = byts (lnf s t u n (j + 1)) := by
  apply List.ext_getElem
  · simp [byts, lnf]
  · intro i h1 h2
    simp only [List.length_set, byts_length, lnf_length] at h1
    rw [List.getElem_set]
    by_cases h : j = i
    · subst h; simp [byts, lnf]
    · rw [if_neg h]
      simp only [byts, lnf, List.getElem_map, List.getElem_range]
      by_cases h3 : i < j
      · rw [if_pos h3, if_pos (by omega)]
      · rw [if_neg h3, if_neg (by omega)]
theorem lnf_lt (s t u : ByteArray) (n j : Nat) : ∀ d ∈ lnf s t u n j, d < 2 ^ 8 := by
  intro d hd
  simp [lnf] at hd
  obtain ⟨i, _, rfl⟩ := hd
  have h1 := bn_le s i
  have h2 := bn_le t i
  have h3 := bn_le u i
  split
  · exact xor8 (xor8 (by omega) (by omega)) (by omega)
  · omega

theorem num_xor3 : ∀ (n : Nat) (f g h : Nat → Nat), (∀ i, f i < 256) → (∀ i, g i < 256) → (∀ i, h i < 256) →
    num 8 ((List.range n).map fun i => f i ^^^ g i ^^^ h i) = num 8 ((List.range n).map f) ^^^ num 8 ((List.range n).map g) ^^^ num 8 ((List.range n).map h)
  | 0, f, g, h, _, _, _ => by simp [num]
  | n + 1, f, g, h, hf, hg, hh => by
    have ih := num_xor3 n f g h hf hg hh
    have lt : ∀ (k : Nat → Nat), (∀ i, k i < 256) → ∀ d ∈ (List.range n).map k, d < 2 ^ 8 := fun k hk d hd => by
      simp at hd; obtain ⟨i, _, rfl⟩ := hd; have := hk i; omega
    have one : ∀ x : Nat, num 8 [x] = x := fun x => by simp [num]
    simp only [List.range_succ, List.map_append, List.map_cons, List.map_nil]
    rw [num_join 8 _ _ (lt _ fun i => xor8 (xor8 (hf i) (hg i)) (hh i)), num_join 8 _ _ (lt f hf), num_join 8 _ _ (lt g hg), num_join 8 _ _ (lt h hh), ih]
    simp only [one, List.length_map, List.length_range, mul_pow_xor]
    exact xor_a _ _ _ _ _ _

theorem linear_math {n : Nat} {f g h : Nat → Nat} (hf : ∀ i, f i < 256) (hg : ∀ i, g i < 256) (hh : ∀ i, h i < 256) :
    ofN ((List.range n).map fun i => f i ^^^ g i ^^^ h i) = ofN ((List.range n).map f) ^^^ ofN ((List.range n).map g) ^^^ ofN ((List.range n).map h) := by
  have lt : ∀ (k : Nat → Nat), (∀ i, k i < 256) → ∀ d ∈ (List.range n).map k, d < 2 ^ 8 := fun k hk d hd => by
    simp at hd; obtain ⟨i, _, rfl⟩ := hd; have := hk i; omega
  have c1 := crcF_lt (show 4294967295 < 4294967296 by omega) _ (lt f hf)
  have c2 := crcF_lt (show 4294967295 < 4294967296 by omega) _ (lt g hg)
  have c3 := crcF_lt (show 4294967295 < 4294967296 by omega) _ (lt h hh)
  have c4 := crcF_lt (show 4294967295 < 4294967296 by omega) _ (lt _ fun i => xor8 (xor8 (hf i) (hg i)) (hh i))
  unfold ofN more
  simp only [Nat.sub_zero]
  rw [compl32 c4, compl32 c1, compl32 c2, compl32 c3]
  have e : crcF 4294967295 ((List.range n).map fun i => f i ^^^ g i ^^^ h i) = crcF 4294967295 ((List.range n).map f) ^^^ crcF 4294967295 ((List.range n).map g) ^^^ crcF 4294967295 ((List.range n).map h) := by
    unfold crcF
    simp only [List.length_map, List.length_range]
    rw [num_xor3 n f g h hf hg hh, ← sti_xor, ← sti_xor, xor_b]
  rw [e]
  exact xor_c _ _ _ _

theorem quiet_l {P : Program} {f : FuncId} {args : Array Value} {w : World} {n : Nat} {v : Value} (h : Calls P f args (w.drewN n) fun e w' => e = .returned v ∧ w.drewN n = w') :
    Calls P f args (w.drewN n) fun e w' => e = .returned v ∧ ∃ m, w' = w.drewN m :=
  h.mono fun _ _ hh => ⟨hh.1, n, hh.2.symm⟩

theorem sb_extract {x : ByteArray} {n : Nat} (h : n ≤ x.size) : sb (x.extract 0 n) = (List.range n).map (bn x) := by
  have hs : (x.extract 0 n).size = n := by simp; omega
  unfold sb
  rw [hs]
  apply List.map_congr_left
  intro i hi
  have hi' : i < n := by simpa using hi
  rw [← bn_of (show i < (x.extract 0 n).size by omega), ← bn_of (show i < x.size by omega)]
  simp [ByteArray.getElem_extract]

end Go.Proofs.YtdhbeeeofaheeaaDoor
