/- Plain mathematics of layer 3's reference: roots of primes by numbers of eight parts. Nothing of the program is named here. -/
import Derived.Test.YteilmohlgfgmnaaDoorJa
namespace Go.Proofs.YteilmohlgfgmnaaDoor.M
set_option maxRecDepth 100000

/-- the number of some parts of 32 bits, the lowest first -/
def valB : List Nat → Nat
  | [] => 0
  | x :: r => x + 4294967296 * valB r
theorem valB_lt : ∀ l : List Nat, (∀ x ∈ l, x < 4294967296) → valB l < 4294967296 ^ l.length
  | [], _ => by simp [valB]
  | x :: r, h => by
    have h1 := valB_lt r fun y hy => h y (by simp [hy])
    have h2 := h x (by simp)
    have e : 4294967296 ^ (x :: r).length = 4294967296 * 4294967296 ^ r.length := by rw [List.length_cons, Nat.pow_succ, Nat.mul_comm]
    rw [e]
    unfold valB
    have h3 : valB r + 1 ≤ 4294967296 ^ r.length := h1
    have h4 : 4294967296 * (valB r + 1) ≤ 4294967296 * 4294967296 ^ r.length := Nat.mul_le_mul_left _ h3
    omega
theorem valB_set : ∀ (l : List Nat) (j : Nat) (y z : Nat), l[j]? = some z → valB (l.set j y) + z * 4294967296 ^ j = valB l + y * 4294967296 ^ j
  | [], _, _, _, h => by simp at h
  | x :: r, 0, y, z, h => by simp at h; subst h; simp [valB]; omega
  | x :: r, j + 1, y, z, h => by
    have ih := valB_set r j y z (by simpa using h)
    have e : 4294967296 ^ (j + 1) = 4294967296 * 4294967296 ^ j := by rw [Nat.pow_succ, Nat.mul_comm]
    simp only [List.set_cons_succ, valB, e]
    generalize 4294967296 ^ j = P at *
    rw [Nat.mul_left_comm z, Nat.mul_left_comm y]
    generalize z * P = a at *
    generalize y * P = b at *
    omega
theorem stepB (l : List Nat) (j c z : Nat) (h : l[j]? = some z) : valB (l.set j ((z + c % 4294967296) % 4294967296)) + (c / 4294967296 + (z + c % 4294967296) / 4294967296) * 4294967296 ^ (j + 1) = valB l + c * 4294967296 ^ j := by
  have h1 := valB_set l j ((z + c % 4294967296) % 4294967296) z h
  have e : 4294967296 ^ (j + 1) = 4294967296 * 4294967296 ^ j := by rw [Nat.pow_succ, Nat.mul_comm]
  rw [e]
  obtain ⟨x, hx⟩ : ∃ x, x = z + c % 4294967296 := ⟨_, rfl⟩
  rw [← hx] at h1 ⊢
  have h2 : (x % 4294967296) * 4294967296 ^ j + (c / 4294967296 + x / 4294967296) * (4294967296 * 4294967296 ^ j) = z * 4294967296 ^ j + c * 4294967296 ^ j := by
    have h3 : x % 4294967296 + (c / 4294967296 + x / 4294967296) * 4294967296 = z + c := by omega
    rw [← Nat.mul_assoc, ← Nat.add_mul, h3, Nat.add_mul]
  omega
theorem valB_split : ∀ (l : List Nat) (i : Nat) (x : Nat), l[i]? = some x → valB l = valB (l.take i) + 4294967296 ^ i * (x + 4294967296 * valB (l.drop (i + 1)))
  | [], _, _, h => by simp at h
  | y :: r, 0, x, h => by simp at h; subst h; simp [valB]
  | y :: r, i + 1, x, h => by
    have ih := valB_split r i x (by simpa using h)
    have e : 4294967296 ^ (i + 1) = 4294967296 * 4294967296 ^ i := by rw [Nat.pow_succ, Nat.mul_comm]
    rw [List.take_succ_cons, List.drop_succ_cons, valB, valB, ih, e, Nat.mul_add, Nat.mul_assoc, Nat.add_assoc]
/-- the highest parts decide -/
theorem valB_cmp (a b : List Nat) (i x y : Nat) (ha : a[i]? = some x) (hb : b[i]? = some y) (hd : a.drop (i + 1) = b.drop (i + 1)) (hal : ∀ z ∈ a, z < 4294967296) (h : x < y) : valB a < valB b := by
  have ea := valB_split a i x ha
  have eb := valB_split b i y hb
  rw [hd] at ea
  have hia : i < a.length := (List.getElem?_eq_some_iff.1 ha).1
  have h1 := valB_lt (a.take i) fun z hz => hal z (List.mem_of_mem_take hz)
  rw [List.length_take, Nat.min_eq_left (Nat.le_of_lt hia)] at h1
  rw [ea, eb]
  generalize valB (b.drop (i + 1)) = D
  generalize valB (b.take i) = E
  generalize valB (a.take i) = A at *
  generalize 4294967296 ^ i = P at *
  have h2 : P * (x + 4294967296 * D) + P ≤ P * (y + 4294967296 * D) := by
    rw [← Nat.mul_succ]
    exact Nat.mul_le_mul_left _ (by omega)
  omega
/-- one more product of parts -/
theorem valB_take_succ (a : List Nat) (i x : Nat) (h : a[i]? = some x) : valB (a.take (i + 1)) = valB (a.take i) + x * 4294967296 ^ i := by
  have h1 : (a.take (i + 1))[i]? = some x := by rw [List.getElem?_take_of_lt (by omega)]; exact h
  have e := valB_split (a.take (i + 1)) i x h1
  have hl : i < a.length := (List.getElem?_eq_some_iff.1 h).1
  rw [List.take_take, Nat.min_eq_left (by omega), List.drop_eq_nil_of_le (by rw [List.length_take]; omega)] at e
  rw [e, valB, Nat.mul_zero, Nat.add_zero, Nat.mul_comm]
/-- greater than p moved left by n parts? -/
def overM (a p n : Nat) : Bool := decide (p * 4294967296 ^ n < a)
def rootGo (p d : Nat) : Nat → Nat → Nat
  | 0, x => x
  | k + 1, x => rootGo p d k (if overM ((x + 2 ^ k) ^ d) p d = true then x else x + 2 ^ k)
theorem rootGo_lt (p d : Nat) : ∀ k x, rootGo p d k x < x + 2 ^ k
  | 0, x => by simp [rootGo]
  | k + 1, x => by
    rw [rootGo]
    have e : 2 ^ (k + 1) = 2 ^ k + 2 ^ k := by rw [Nat.pow_succ]; omega
    have h1 := rootGo_lt p d k x
    have h2 := rootGo_lt p d k (x + 2 ^ k)
    rw [e]
    generalize 2 ^ k = P at *
    split <;> omega
/-- the first 32 bits behind the point of a root -/
def rootM (p d : Nat) : Nat := rootGo p d 36 0 % 4294967296
/-- primes, from p on, behind those that are found -/
def primesGo (n : Nat) : Nat → Nat → List Nat → List Nat
  | 0, _, out => out
  | f + 1, p, out => if out.length < n then primesGo n f (p + 1) (if (out.all fun q => decide (p % q ≠ 0)) = true then out ++ [p] else out) else out
def primesM (n : Nat) : List Nat := primesGo n 398 2 []
theorem primes8 : primesM 8 = [2, 3, 5, 7, 11, 13, 17, 19] := by decide +kernel
theorem primes64 : primesM 64 = [2, 3, 5, 7, 11, 13, 17, 19, 23, 29, 31, 37, 41, 43, 47, 53, 59, 61, 67, 71, 73, 79, 83, 89, 97, 101, 103, 107, 109, 113, 127, 131, 137, 139, 149, 151, 157, 163, 167, 173, 179, 181, 191, 193, 197, 199, 211, 223, 227, 229, 233, 239, 241, 251, 257, 263, 269, 271, 277, 281, 283, 293, 307, 311] := by decide +kernel
theorem roots2 : (primesM 8).map (fun p => rootM p 2) = [iV.a, iV.b, iV.c, iV.d, iV.e, iV.f, iV.g, iV.h] := by rw [primes8]; decide +kernel
theorem roots3 : (primesM 64).map (fun p => rootM p 3) = kN := by rw [primes64]; decide +kernel
end Go.Proofs.YteilmohlgfgmnaaDoor.M
