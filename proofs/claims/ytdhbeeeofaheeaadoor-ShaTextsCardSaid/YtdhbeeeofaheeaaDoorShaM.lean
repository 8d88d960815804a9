/- Plain mathematics of layer 3: nothing of the program is named here. -/
import Derived.Test.YtdhbeeeofaheeaaDoorCrcM
namespace Go.Proofs.YtdhbeeeofaheeaaDoor.M
set_option maxRecDepth 100000

/-- a word of 32 bits turned right by n -/
def rr (n x : Nat) : Nat := x / 2 ^ n + x % 2 ^ n * 2 ^ (32 - n)

theorem rr_lt {n x : Nat} (hn : n ≤ 32) (hx : x < 4294967296) : rr n x < 4294967296 := by
  unfold rr
  have e : (4294967296 : Nat) = 2 ^ n * 2 ^ (32 - n) := by
    rw [← Nat.pow_add, show n + (32 - n) = 32 by omega]
  have h1 : x / 2 ^ n < 2 ^ (32 - n) := by
    rw [Nat.div_lt_iff_lt_mul (Nat.pow_pos (by decide)), Nat.mul_comm, ← e]; exact hx
  have h2 : x % 2 ^ n < 2 ^ n := Nat.mod_lt _ (Nat.pow_pos (by decide))
  have h3 : (x % 2 ^ n + 1) * 2 ^ (32 - n) ≤ 2 ^ n * 2 ^ (32 - n) := Nat.mul_le_mul_right _ h2
  rw [Nat.add_mul] at h3
  omega

theorem rr_or {n x : Nat} (hn : n ≤ 32) (hx : x < 4294967296) : x * 2 ^ (32 - n) % 4294967296 ||| x / 2 ^ n = rr n x := by
  have e : (4294967296 : Nat) = 2 ^ n * 2 ^ (32 - n) := by
    rw [← Nat.pow_add, show n + (32 - n) = 32 by omega]
  have h1 : x / 2 ^ n < 2 ^ (32 - n) := by
    rw [Nat.div_lt_iff_lt_mul (Nat.pow_pos (by decide)), Nat.mul_comm, ← e]; exact hx
  rw [e, Nat.mul_mod_mul_right, Nat.mul_comm, ← Nat.two_pow_add_eq_or_of_lt h1]
  unfold rr
  rw [Nat.mul_comm (x % 2 ^ n), Nat.add_comm]

theorem rr_zero (x : Nat) : rr 0 x = x := by unfold rr; simp [Nat.mod_one]

theorem rr_succ {k x : Nat} (hk : k < 32) : rr (k + 1) x = rr k x / 2 + rr k x % 2 * 2147483648 := by
  unfold rr
  obtain ⟨q, hq⟩ : ∃ q, q = x / 2 ^ k := ⟨_, rfl⟩
  have e1 : x / 2 ^ (k + 1) = q / 2 := by rw [Nat.pow_succ, ← Nat.div_div_eq_div_mul, hq]
  have e2 : x % 2 ^ (k + 1) = x % 2 ^ k + 2 ^ k * (q % 2) := by rw [Nat.pow_succ, Nat.mod_mul, hq]
  have e3 : 2 ^ (32 - k) = 2 * 2 ^ (32 - (k + 1)) := by
    rw [show 32 - k = (32 - (k + 1)) + 1 by omega, Nat.pow_succ, Nat.mul_comm]
  have e4 : 2 ^ k * 2 ^ (32 - (k + 1)) = 2147483648 := by
    rw [← Nat.pow_add, show k + (32 - (k + 1)) = 31 by omega]
  rw [e1, e2, e3, ← hq]
  generalize x % 2 ^ k = r
  generalize 2 ^ (32 - (k + 1)) = P at *
  have e5 : q + r * (2 * P) = q + 2 * (r * P) := by rw [Nat.mul_left_comm]
  have e6 : (r + 2 ^ k * (q % 2)) * P = r * P + q % 2 * 2147483648 := by
    rw [Nat.add_mul, Nat.mul_right_comm, e4, Nat.mul_comm 2147483648]
  rw [e5, e6]
  generalize r * P = z
  omega

def s0 (x : Nat) : Nat := rr 7 x ^^^ rr 18 x ^^^ x / 8
def s1 (x : Nat) : Nat := rr 17 x ^^^ rr 19 x ^^^ x / 1024
def t0 (x : Nat) : Nat := rr 2 x ^^^ rr 13 x ^^^ rr 22 x
def t1 (x : Nat) : Nat := rr 6 x ^^^ rr 11 x ^^^ rr 25 x
def chN (e f g : Nat) : Nat := (e &&& f) ^^^ ((4294967295 - e) &&& g)
def maN (a b c : Nat) : Nat := (a &&& b) ^^^ (a &&& c) ^^^ (b &&& c)

theorem and_lt32 {a b : Nat} (ha : a < 4294967296) : a &&& b < 4294967296 := Nat.lt_of_le_of_lt Nat.and_le_left ha
theorem s0_lt {x : Nat} (h : x < 4294967296) : s0 x < 4294967296 :=
  xor_lt32 (xor_lt32 (rr_lt (by omega) h) (rr_lt (by omega) h)) (by omega)
theorem s1_lt {x : Nat} (h : x < 4294967296) : s1 x < 4294967296 :=
  xor_lt32 (xor_lt32 (rr_lt (by omega) h) (rr_lt (by omega) h)) (by omega)
theorem t0_lt {x : Nat} (h : x < 4294967296) : t0 x < 4294967296 :=
  xor_lt32 (xor_lt32 (rr_lt (by omega) h) (rr_lt (by omega) h)) (rr_lt (by omega) h)
theorem t1_lt {x : Nat} (h : x < 4294967296) : t1 x < 4294967296 :=
  xor_lt32 (xor_lt32 (rr_lt (by omega) h) (rr_lt (by omega) h)) (rr_lt (by omega) h)
theorem chN_lt {e f g : Nat} (he : e < 4294967296) : chN e f g < 4294967296 :=
  xor_lt32 (and_lt32 he) (and_lt32 (by omega))
theorem maN_lt {a b c : Nat} (ha : a < 4294967296) (hb : b < 4294967296) : maN a b c < 4294967296 :=
  xor_lt32 (xor_lt32 (and_lt32 ha) (and_lt32 ha)) (and_lt32 hb)

/-- a word of the block -/
def w4 (b : List Nat) (i : Nat) : Nat := b.getD (4 * i) 0 * 16777216 + b.getD (4 * i + 1) 0 * 65536 + b.getD (4 * i + 2) 0 * 256 + b.getD (4 * i + 3) 0
/-- a later word -/
def nw (l : List Nat) (k : Nat) : Nat := (l.getD (k - 16) 0 + s0 (l.getD (k - 15) 0) + l.getD (k - 7) 0 + s1 (l.getD (k - 2) 0)) % 4294967296
theorem nw_congr {l m : List Nat} {n : Nat} (e : ∀ j, j < 16 + n → l.getD j 0 = m.getD j 0) : nw l (16 + n) = nw m (16 + n) := by
  unfold nw
  rw [e (16 + n - 16) (by omega), e (16 + n - 15) (by omega), e (16 + n - 7) (by omega), e (16 + n - 2) (by omega)]
/-- a list that grows -/
def gl (nx : List Nat → Nat → Nat) (l : List Nat) : Nat → List Nat
  | 0 => l
  | n + 1 => gl nx l n ++ [nx (gl nx l n) (16 + n)]
section
variable (nx : List Nat → Nat → Nat) (l : List Nat) (hl : l.length = 16)
include hl
theorem gl_length : ∀ n, (gl nx l n).length = 16 + n
  | 0 => by simp [gl, hl]
  | n + 1 => by simp [gl, gl_length n]; omega
theorem gl_getD (n m j : Nat) (h : j < 16 + n) : (gl nx l (n + m)).getD j 0 = (gl nx l n).getD j 0 := by
  induction m with
  | zero => rfl
  | succ m ih =>
    rw [← Nat.add_assoc]
    show (gl nx l (n + m) ++ _).getD j 0 = _
    rw [List.getD, List.getElem?_append_left (by rw [gl_length nx l hl]; omega)]
    exact ih
theorem gl_high (m n : Nat) (h2 : n < m) : ∃ k, (gl nx l m).getD (16 + n) 0 = nx k (16 + n) ∧ ∀ j, j < 16 + n → k.getD j 0 = (gl nx l m).getD j 0 := by
  obtain ⟨r, rfl⟩ : ∃ r, m = n + 1 + r := ⟨m - (n + 1), by omega⟩
  refine ⟨gl nx l n, ?_, fun j hj => ?_⟩
  · rw [gl_getD nx l hl (n + 1) r _ (by omega)]
    show (gl nx l n ++ [nx (gl nx l n) (16 + n)]).getD (16 + n) 0 = _
    rw [List.getD, List.getElem?_append_right (by rw [gl_length nx l hl]; exact Nat.le_refl _), gl_length nx l hl, Nat.sub_self]
    rfl
  · rw [Nat.add_assoc, gl_getD nx l hl n _ j hj]
end
def sched (b : List Nat) : List Nat := gl nw ((List.range 16).map (w4 b)) 48
theorem sched_eq (b : List Nat) : ∃ m, m = 48 ∧ sched b = gl nw ((List.range 16).map (w4 b)) m := ⟨48, rfl, rfl⟩
theorem w4_length (b : List Nat) : ((List.range 16).map (w4 b)).length = 16 := by simp
theorem sched_length (b : List Nat) : (sched b).length = 64 := by
  obtain ⟨m, hm, e⟩ := sched_eq b
  rw [e, gl_length _ _ (w4_length b), hm]
theorem sched_low (b : List Nat) (k : Nat) (h : k < 16) : (sched b).getD k 0 = w4 b k := by
  obtain ⟨m, hm, e⟩ := sched_eq b
  have e2 := gl_getD nw _ (w4_length b) 0 m k (by omega)
  rw [Nat.zero_add] at e2
  rw [e, e2]
  show ((List.range 16).map (w4 b)).getD k 0 = _
  rw [List.getD, List.getElem?_map, List.getElem?_range h]
  simp
theorem sched_high (b : List Nat) (k : Nat) (h : 16 ≤ k) (h2 : k < 64) : (sched b).getD k 0 = nw (sched b) k := by
  obtain ⟨m, hm, e⟩ := sched_eq b
  obtain ⟨n, rfl⟩ : ∃ n, k = 16 + n := ⟨k - 16, by omega⟩
  rw [e]
  obtain ⟨l, e1, e2⟩ := gl_high nw _ (w4_length b) m n (by omega)
  rw [e1]
  exact nw_congr e2

theorem w4_lt {b : List Nat} (hb : ∀ d ∈ b, d < 256) (k : Nat) : w4 b k < 4294967296 := by
  have h : ∀ j, b.getD j 0 < 256 := fun j => by
    by_cases hj : j < b.length
    · have : b.getD j 0 = b[j] := by simp [List.getD, hj]
      rw [this]; exact hb _ (List.getElem_mem hj)
    · simp [List.getD, hj]
  have h1 := h (4 * k)
  have h2 := h (4 * k + 1)
  have h3 := h (4 * k + 2)
  have h4 := h (4 * k + 3)
  unfold w4
  omega
theorem sched_lt {b : List Nat} (hb : ∀ d ∈ b, d < 256) (k : Nat) : (sched b).getD k 0 < 4294967296 := by
  by_cases h : k < 64
  · by_cases h2 : k < 16
    · rw [sched_low b k h2]; exact w4_lt hb k
    · rw [sched_high b k (by omega) h]; unfold nw; omega
  · simp [List.getD, sched_length, h]

/-- eight words -/
structure V8 where
  a : Nat
  b : Nat
  c : Nat
  d : Nat
  e : Nat
  f : Nat
  g : Nat
  h : Nat

def V8.l (v : V8) : List Nat := [v.a, v.b, v.c, v.d, v.e, v.f, v.g, v.h]
structure V8.ok (v : V8) : Prop where
  a : v.a < 4294967296
  b : v.b < 4294967296
  c : v.c < 4294967296
  d : v.d < 4294967296
  e : v.e < 4294967296
  f : v.f < 4294967296
  g : v.g < 4294967296
  h : v.h < 4294967296

def rT (K W : Nat) (v : V8) : Nat := (v.h + t1 v.e + chN v.e v.f v.g + K + W) % 4294967296
def rU (v : V8) : Nat := (t0 v.a + maN v.a v.b v.c) % 4294967296
def rnd (K W : Nat) (v : V8) : V8 := ⟨(rT K W v + rU v) % 4294967296, v.a, v.b, v.c, (v.d + rT K W v) % 4294967296, v.e, v.f, v.g⟩
def rds (K W : List Nat) (v : V8) : Nat → V8
  | 0 => v
  | k + 1 => rnd (K.getD k 0) (W.getD k 0) (rds K W v k)
def add8 (v u : V8) : V8 := ⟨(v.a + u.a) % 4294967296, (v.b + u.b) % 4294967296, (v.c + u.c) % 4294967296, (v.d + u.d) % 4294967296, (v.e + u.e) % 4294967296, (v.f + u.f) % 4294967296, (v.g + u.g) % 4294967296, (v.h + u.h) % 4294967296⟩
def kN : List Nat := [1116352408, 1899447441, 3049323471, 3921009573, 961987163, 1508970993, 2453635748, 2870763221, 3624381080, 310598401, 607225278, 1426881987, 1925078388, 2162078206, 2614888103, 3248222580, 3835390401, 4022224774, 264347078, 604807628, 770255983, 1249150122, 1555081692, 1996064986, 2554220882, 2821834349, 2952996808, 3210313671, 3336571891, 3584528711, 113926993, 338241895, 666307205, 773529912, 1294757372, 1396182291, 1695183700, 1986661051, 2177026350, 2456956037, 2730485921, 2820302411, 3259730800, 3345764771, 3516065817, 3600352804, 4094571909, 275423344, 430227734, 506948616, 659060556, 883997877, 958139571, 1322822218, 1537002063, 1747873779, 1955562222, 2024104815, 2227730452, 2361852424, 2428436474, 2756734187, 3204031479, 3329325298]
def iV : V8 := ⟨1779033703, 3144134277, 1013904242, 2773480762, 1359893119, 2600822924, 528734635, 1541459225⟩
def mixV (st : V8) (b : List Nat) : V8 := add8 (rds kN (sched b) st 64) st

theorem rnd_ok {K W : Nat} {v : V8} (h : v.ok) : (rnd K W v).ok := ⟨by unfold rnd; simp only; omega, h.a, h.b, h.c, by unfold rnd; simp only; omega, h.e, h.f, h.g⟩
theorem rds_ok {K W : List Nat} {v : V8} (h : v.ok) : ∀ k, (rds K W v k).ok
  | 0 => h
  | k + 1 => rnd_ok (rds_ok h k)
theorem add8_ok (v u : V8) : (add8 v u).ok := by
  constructor <;> (unfold add8; simp only; omega)
theorem mixV_ok (v : V8) (b : List Nat) : (mixV v b).ok := add8_ok _ _
theorem iV_ok : iV.ok := by constructor <;> decide
theorem kN_lt : ∀ k, k < 64 → kN.getD k 0 < 4294967296 := by decide
theorem kN_length : kN.length = 64 := by decide

/-- the state behind the first k blocks -/
def stt (m : List Nat) : Nat → V8
  | 0 => iV
  | k + 1 => mixV (stt m k) ((m.drop (64 * k)).take 64)
theorem stt_ok (m : List Nat) : ∀ k, (stt m k).ok
  | 0 => iV_ok
  | _ + 1 => mixV_ok _ _
theorem stt_append (m n : List Nat) : ∀ k, 64 * k ≤ m.length → stt (m ++ n) k = stt m k
  | 0, _ => rfl
  | k + 1, h => by
    show mixV (stt (m ++ n) k) _ = mixV (stt m k) _
    rw [stt_append m n k (by omega), List.drop_append_of_le_length (by omega), List.take_append_of_le_length (by simp; omega)]

/-- four bytes of a word, the highest first -/
def be4 (x : Nat) : List Nat := [x / 16777216, x / 65536 % 256, x / 256 % 256, x % 256]
def digV (v : V8) : List Nat := be4 v.a ++ be4 v.b ++ be4 v.c ++ be4 v.d ++ be4 v.e ++ be4 v.f ++ be4 v.g ++ be4 v.h
theorem digV_length (v : V8) : (digV v).length = 32 := by simp [digV, be4]
theorem digV_lt {v : V8} (h : v.ok) : ∀ d ∈ digV v, d < 2 ^ 8 := by
  have h1 := h.a; have h2 := h.b; have h3 := h.c; have h4 := h.d
  have h5 := h.e; have h6 := h.f; have h7 := h.g; have h8 := h.h
  intro d hd
  simp only [digV, be4, List.mem_append, List.mem_cons, List.not_mem_nil, or_false] at hd
  omega

/-- eight bytes of a number, the highest first -/
def be8 (x : Nat) : List Nat := [x / 72057594037927936 % 256, x / 281474976710656 % 256, x / 1099511627776 % 256, x / 4294967296 % 256, x / 16777216 % 256, x / 65536 % 256, x / 256 % 256, x % 256]
/-- what follows a message of n bytes -/
def padN (n : Nat) : List Nat := 128 :: (List.replicate ((64 - (n + 9) % 64) % 64) 0 ++ be8 (8 * n))
theorem padN_length (n : Nat) : (padN n).length = 9 + (64 - (n + 9) % 64) % 64 := by simp [padN, be8]; omega
theorem padN_full (n : Nat) : (n + (padN n).length) % 64 = 0 := by rw [padN_length]; omega
theorem padN_lt (n : Nat) : ∀ d ∈ padN n, d < 2 ^ 8 := by
  intro d hd
  simp only [padN, be8, List.mem_append, List.mem_cons, List.mem_replicate, List.not_mem_nil, or_false] at hd
  omega
/-- the digest of a message -/
def shaN (m : List Nat) : List Nat := digV (stt (m ++ padN m.length) ((m.length + (padN m.length).length) / 64))
theorem shaN_length (m : List Nat) : (shaN m).length = 32 := digV_length _
theorem shaN_lt (m : List Nat) : ∀ d ∈ shaN m, d < 2 ^ 8 := digV_lt (stt_ok _ _)

theorem sha_abc : shaN [97, 98, 99] = [186, 120, 22, 191, 143, 1, 207, 234, 65, 65, 64, 222, 93, 174, 34, 35, 176, 3, 97, 163, 150, 23, 122, 156, 180, 16, 255, 97, 242, 0, 21, 173] := by decide +kernel
end Go.Proofs.YtdhbeeeofaheeaaDoor.M
