/- ShaM, ShaA, ShaB, in one text. -/
import Derived.Test.YtacfdnjdjgdbcaaDoorHa
import Derived.Test.YtacfdnjdjgdbcaaDoorHk
import Derived.Deep.MidRow
import Derived.Test.YtacfdnjdjgdbcaaDoorHd
namespace Go.Proofs.YtacfdnjdjgdbcaaDoor.M
set_option maxRecDepth 100000

/-- a word of 32 bits turned right by n -/
def rr (n x : Nat) : Nat := x / 2 ^ n + x % 2 ^ n * 2 ^ (32 - n)

theorem rr_lt {n x : Nat} (hn : n ≤ 32) (hx : x < 4294967296) : rr n x < 4294967296 := by
  unfold rr
  have e : (4294967296 : Nat) = 2 ^ n * 2 ^ (32 - n) := by
    rw [← Nat.pow_add, show n + (32 - n) = 32 by omega]
  have h1 : x / 2 ^ n < 2 ^ (32 - n) := by
    rw [Nat.div_lt_iff_lt_mul (Nat.pow_pos (by decide)), Nat.mul_comm, ← e]; exact hx
  have h2 : x % 2 ^ n < 2 ^ n := Nat.mod_lt _ (Nat.pow_pos (by decide))
  have h3 : (x % 2 ^ n + 1) * 2 ^ (32 - n) ≤ 2 ^ n * 2 ^ (32 - n) := Nat.mul_le_mul_right _ h2
  rw [Nat.add_mul] at h3
  omega

theorem rr_or {n x : Nat} (hn : n ≤ 32) (hx : x < 4294967296) : x * 2 ^ (32 - n) % 4294967296 ||| x / 2 ^ n = rr n x := by
  have e : (4294967296 : Nat) = 2 ^ n * 2 ^ (32 - n) := by
    rw [← Nat.pow_add, show n + (32 - n) = 32 by omega]
  have h1 : x / 2 ^ n < 2 ^ (32 - n) := by
    rw [Nat.div_lt_iff_lt_mul (Nat.pow_pos (by decide)), Nat.mul_comm, ← e]; exact hx
  rw [e, Nat.mul_mod_mul_right, Nat.mul_comm, ← Nat.two_pow_add_eq_or_of_lt h1]
  unfold rr
  rw [Nat.mul_comm (x % 2 ^ n), Nat.add_comm]

theorem rr_zero (x : Nat) : rr 0 x = x := by unfold rr; simp [Nat.mod_one]

theorem rr_succ {k x : Nat} (hk : k < 32) : rr (k + 1) x = rr k x / 2 + rr k x % 2 * 2147483648 := by
  unfold rr
  obtain ⟨q, hq⟩ : ∃ q, q = x / 2 ^ k := ⟨_, rfl⟩
  have e1 : x / 2 ^ (k + 1) = q / 2 := by rw [Nat.pow_succ, ← Nat.div_div_eq_div_mul, hq]
  have e2 : x % 2 ^ (k + 1) = x % 2 ^ k + 2 ^ k * (q % 2) := by rw [Nat.pow_succ, Nat.mod_mul, hq]
  have e3 : 2 ^ (32 - k) = 2 * 2 ^ (32 - (k + 1)) := by
    rw [show 32 - k = (32 - (k + 1)) + 1 by omega, Nat.pow_succ, Nat.mul_comm]
  have e4 : 2 ^ k * 2 ^ (32 - (k + 1)) = 2147483648 := by
    rw [← Nat.pow_add, show k + (32 - (k + 1)) = 31 by omega]
  rw [e1, e2, e3, ← hq]
  generalize x % 2 ^ k = r
  generalize 2 ^ (32 - (k + 1)) = P at *
  have e5 : q + r * (2 * P) = q + 2 * (r * P) := by rw [Nat.mul_left_comm]
  have e6 : (r + 2 ^ k * (q % 2)) * P = r * P + q % 2 * 2147483648 := by
    rw [Nat.add_mul, Nat.mul_right_comm, e4, Nat.mul_comm 2147483648]
  rw [e5, e6]
  generalize r * P = z
  omega

def s0 (x : Nat) : Nat := rr 7 x ^^^ rr 18 x ^^^ x / 8
def s1 (x : Nat) : Nat := rr 17 x ^^^ rr 19 x ^^^ x / 1024
def t0 (x : Nat) : Nat := rr 2 x ^^^ rr 13 x ^^^ rr 22 x
def t1 (x : Nat) : Nat := rr 6 x ^^^ rr 11 x ^^^ rr 25 x
def chN (e f g : Nat) : Nat := (e &&& f) ^^^ ((4294967295 - e) &&& g)
def maN (a b c : Nat) : Nat := (a &&& b) ^^^ (a &&& c) ^^^ (b &&& c)

theorem and_lt32 {a b : Nat} (ha : a < 4294967296) : a &&& b < 4294967296 := Nat.lt_of_le_of_lt Nat.and_le_left ha
theorem s0_lt {x : Nat} (h : x < 4294967296) : s0 x < 4294967296 :=
  xor_lt32 (xor_lt32 (rr_lt (by omega) h) (rr_lt (by omega) h)) (by omega)
theorem s1_lt {x : Nat} (h : x < 4294967296) : s1 x < 4294967296 :=
  xor_lt32 (xor_lt32 (rr_lt (by omega) h) (rr_lt (by omega) h)) (by omega)
theorem t0_lt {x : Nat} (h : x < 4294967296) : t0 x < 4294967296 :=
  xor_lt32 (xor_lt32 (rr_lt (by omega) h) (rr_lt (by omega) h)) (rr_lt (by omega) h)
theorem t1_lt {x : Nat} (h : x < 4294967296) : t1 x < 4294967296 :=
  xor_lt32 (xor_lt32 (rr_lt (by omega) h) (rr_lt (by omega) h)) (rr_lt (by omega) h)
theorem chN_lt {e f g : Nat} (he : e < 4294967296) : chN e f g < 4294967296 :=
  xor_lt32 (and_lt32 he) (and_lt32 (by omega))
theorem maN_lt {a b c : Nat} (ha : a < 4294967296) (hb : b < 4294967296) : maN a b c < 4294967296 :=
  xor_lt32 (xor_lt32 (and_lt32 ha) (and_lt32 ha)) (and_lt32 hb)

/-- a word of the block -/
def w4 (b : List Nat) (i : Nat) : Nat := b.getD (4 * i) 0 * 16777216 + b.getD (4 * i + 1) 0 * 65536 + b.getD (4 * i + 2) 0 * 256 + b.getD (4 * i + 3) 0
/-- a later word -/
def nw (l : List Nat) (k : Nat) : Nat := (l.getD (k - 16) 0 + s0 (l.getD (k - 15) 0) + l.getD (k - 7) 0 + s1 (l.getD (k - 2) 0)) % 4294967296
theorem nw_congr {l m : List Nat} {n : Nat} (e : ∀ j, j < 16 + n → l.getD j 0 = m.getD j 0) : nw l (16 + n) = nw m (16 + n) := by
  unfold nw
  rw [e (16 + n - 16) (by omega), e (16 + n - 15) (by omega), e (16 + n - 7) (by omega), e (16 + n - 2) (by omega)]
/-- a list that grows -/
def gl (nx : List Nat → Nat → Nat) (l : List Nat) : Nat → List Nat
  | 0 => l
  | n + 1 => gl nx l n ++ [nx (gl nx l n) (16 + n)]
section
variable (nx : List Nat → Nat → Nat) (l : List Nat) (hl : l.length = 16)
include hl
theorem gl_length : ∀ n, (gl nx l n).length = 16 + n
  | 0 => by simp [gl, hl]
  | n + 1 => by simp [gl, gl_length n]; omega
theorem gl_getD (n m j : Nat) (h : j < 16 + n) : (gl nx l (n + m)).getD j 0 = (gl nx l n).getD j 0 := by
  induction m with
  | zero => rfl
  | succ m ih =>
    rw [← Nat.add_assoc]
    show (gl nx l (n + m) ++ _).getD j 0 = _
    rw [List.getD, List.getElem?_append_left (by rw [gl_length nx l hl]; omega)]
    exact ih
theorem gl_high (m n : Nat) (h2 : n < m) : ∃ k, (gl nx l m).getD (16 + n) 0 = nx k (16 + n) ∧ ∀ j, j < 16 + n → k.getD j 0 = (gl nx l m).getD j 0 := by
  obtain ⟨r, rfl⟩ : ∃ r, m = n + 1 + r := ⟨m - (n + 1), by omega⟩
  refine ⟨gl nx l n, ?_, fun j hj => ?_⟩
  · rw [gl_getD nx l hl (n + 1) r _ (by omega)]
    show (gl nx l n ++ [nx (gl nx l n) (16 + n)]).getD (16 + n) 0 = _
    rw [List.getD, List.getElem?_append_right (by rw [gl_length nx l hl]; exact Nat.le_refl _), gl_length nx l hl, Nat.sub_self]
    rfl
  · rw [Nat.add_assoc, gl_getD nx l hl n _ j hj]
end
def sched (b : List Nat) : List Nat := gl nw ((List.range 16).map (w4 b)) 48
theorem sched_eq (b : List Nat) : ∃ m, m = 48 ∧ sched b = gl nw ((List.range 16).map (w4 b)) m := ⟨48, rfl, rfl⟩
theorem w4_length (b : List Nat) : ((List.range 16).map (w4 b)).length = 16 := by simp
theorem sched_length (b : List Nat) : (sched b).length = 64 := by
  obtain ⟨m, hm, e⟩ := sched_eq b
  rw [e, gl_length _ _ (w4_length b), hm]
theorem sched_low (b : List Nat) (k : Nat) (h : k < 16) : (sched b).getD k 0 = w4 b k := by
  obtain ⟨m, hm, e⟩ := sched_eq b
  have e2 := gl_getD nw _ (w4_length b) 0 m k (by omega)
  rw [Nat.zero_add] at e2
  rw [e, e2]
  show ((List.range 16).map (w4 b)).getD k 0 = _
  rw [List.getD, List.getElem?_map, List.getElem?_range h]
  simp
theorem sched_high (b : List Nat) (k : Nat) (h : 16 ≤ k) (h2 : k < 64) : (sched b).getD k 0 = nw (sched b) k := by
  obtain ⟨m, hm, e⟩ := sched_eq b
  obtain ⟨n, rfl⟩ : ∃ n, k = 16 + n := ⟨k - 16, by omega⟩
  rw [e]
  obtain ⟨l, e1, e2⟩ := gl_high nw _ (w4_length b) m n (by omega)
  rw [e1]
  exact nw_congr e2

theorem w4_lt {b : List Nat} (hb : ∀ d ∈ b, d < 256) (k : Nat) : w4 b k < 4294967296 := by
  have h : ∀ j, b.getD j 0 < 256 := fun j => by
    by_cases hj : j < b.length
    · have : b.getD j 0 = b[j] := by simp [List.getD, hj]
      rw [this]; exact hb _ (List.getElem_mem hj)
    · simp [List.getD, hj]
  have h1 := h (4 * k)
  have h2 := h (4 * k + 1)
  have h3 := h (4 * k + 2)
  have h4 := h (4 * k + 3)
  unfold w4
  omega
theorem sched_lt {b : List Nat} (hb : ∀ d ∈ b, d < 256) (k : Nat) : (sched b).getD k 0 < 4294967296 := by
  by_cases h : k < 64
  · by_cases h2 : k < 16
    · rw [sched_low b k h2]; exact w4_lt hb k
    · rw [sched_high b k (by omega) h]; unfold nw; omega
  · simp [List.getD, sched_length, h]

/-- eight words -/
structure V8 where
  a : Nat
  b : Nat
  c : Nat
  d : Nat
  e : Nat
  f : Nat
  g : Nat
  h : Nat

def V8.l (v : V8) : List Nat := [v.a, v.b, v.c, v.d, v.e, v.f, v.g, v.h]
structure V8.ok (v : V8) : Prop where
  a : v.a < 4294967296
  b : v.b < 4294967296
  c : v.c < 4294967296
  d : v.d < 4294967296
  e : v.e < 4294967296
  f : v.f < 4294967296
  g : v.g < 4294967296
  h : v.h < 4294967296

def rT (K W : Nat) (v : V8) : Nat := (v.h + t1 v.e + chN v.e v.f v.g + K + W) % 4294967296
def rU (v : V8) : Nat := (t0 v.a + maN v.a v.b v.c) % 4294967296
def rnd (K W : Nat) (v : V8) : V8 := ⟨(rT K W v + rU v) % 4294967296, v.a, v.b, v.c, (v.d + rT K W v) % 4294967296, v.e, v.f, v.g⟩
def rds (K W : List Nat) (v : V8) : Nat → V8
  | 0 => v
  | k + 1 => rnd (K.getD k 0) (W.getD k 0) (rds K W v k)
def add8 (v u : V8) : V8 := ⟨(v.a + u.a) % 4294967296, (v.b + u.b) % 4294967296, (v.c + u.c) % 4294967296, (v.d + u.d) % 4294967296, (v.e + u.e) % 4294967296, (v.f + u.f) % 4294967296, (v.g + u.g) % 4294967296, (v.h + u.h) % 4294967296⟩
def kN : List Nat := [1116352408, 1899447441, 3049323471, 3921009573, 961987163, 1508970993, 2453635748, 2870763221, 3624381080, 310598401, 607225278, 1426881987, 1925078388, 2162078206, 2614888103, 3248222580, 3835390401, 4022224774, 264347078, 604807628, 770255983, 1249150122, 1555081692, 1996064986, 2554220882, 2821834349, 2952996808, 3210313671, 3336571891, 3584528711, 113926993, 338241895, 666307205, 773529912, 1294757372, 1396182291, 1695183700, 1986661051, 2177026350, 2456956037, 2730485921, 2820302411, 3259730800, 3345764771, 3516065817, 3600352804, 4094571909, 275423344, 430227734, 506948616, 659060556, 883997877, 958139571, 1322822218, 1537002063, 1747873779, 1955562222, 2024104815, 2227730452, 2361852424, 2428436474, 2756734187, 3204031479, 3329325298]
def iV : V8 := ⟨1779033703, 3144134277, 1013904242, 2773480762, 1359893119, 2600822924, 528734635, 1541459225⟩
def mixV (st : V8) (b : List Nat) : V8 := add8 (rds kN (sched b) st 64) st

theorem rnd_ok {K W : Nat} {v : V8} (h : v.ok) : (rnd K W v).ok := ⟨by unfold rnd; simp only; omega, h.a, h.b, h.c, by unfold rnd; simp only; omega, h.e, h.f, h.g⟩
theorem rds_ok {K W : List Nat} {v : V8} (h : v.ok) : ∀ k, (rds K W v k).ok
  | 0 => h
  | k + 1 => rnd_ok (rds_ok h k)
theorem add8_ok (v u : V8) : (add8 v u).ok := by
  constructor <;> (unfold add8; simp only; omega)
theorem mixV_ok (v : V8) (b : List Nat) : (mixV v b).ok := add8_ok _ _
theorem iV_ok : iV.ok := by constructor <;> decide
theorem kN_lt : ∀ k, k < 64 → kN.getD k 0 < 4294967296 := by decide
theorem kN_length : kN.length = 64 := by decide

/-- the state behind the first k blocks -/
def stt (m : List Nat) : Nat → V8
  | 0 => iV
  | k + 1 => mixV (stt m k) ((m.drop (64 * k)).take 64)
theorem stt_ok (m : List Nat) : ∀ k, (stt m k).ok
  | 0 => iV_ok
  | _ + 1 => mixV_ok _ _
theorem stt_append (m n : List Nat) : ∀ k, 64 * k ≤ m.length → stt (m ++ n) k = stt m k
  | 0, _ => rfl
  | k + 1, h => by
    show mixV (stt (m ++ n) k) _ = mixV (stt m k) _
    rw [stt_append m n k (by omega), List.drop_append_of_le_length (by omega), List.take_append_of_le_length (by simp; omega)]

/-- four bytes of a word, the highest first -/
def be4 (x : Nat) : List Nat := [x / 16777216, x / 65536 % 256, x / 256 % 256, x % 256]
def digV (v : V8) : List Nat := be4 v.a ++ be4 v.b ++ be4 v.c ++ be4 v.d ++ be4 v.e ++ be4 v.f ++ be4 v.g ++ be4 v.h
theorem digV_length (v : V8) : (digV v).length = 32 := by simp [digV, be4]
theorem digV_lt {v : V8} (h : v.ok) : ∀ d ∈ digV v, d < 2 ^ 8 := by
  have h1 := h.a; have h2 := h.b; have h3 := h.c; have h4 := h.d
  have h5 := h.e; have h6 := h.f; have h7 := h.g; have h8 := h.h
  intro d hd
  simp only [digV, be4, List.mem_append, List.mem_cons, List.not_mem_nil, or_false] at hd
  omega

/-- eight bytes of a number, the highest first -/
def be8 (x : Nat) : List Nat := [x / 72057594037927936 % 256, x / 281474976710656 % 256, x / 1099511627776 % 256, x / 4294967296 % 256, x / 16777216 % 256, x / 65536 % 256, x / 256 % 256, x % 256]
/-- what follows a message of n bytes -/
def padN (n : Nat) : List Nat := 128 :: (List.replicate ((64 - (n + 9) % 64) % 64) 0 ++ be8 (8 * n))
theorem padN_length (n : Nat) : (padN n).length = 9 + (64 - (n + 9) % 64) % 64 := by simp [padN, be8]; omega
theorem padN_full (n : Nat) : (n + (padN n).length) % 64 = 0 := by rw [padN_length]; omega
theorem padN_lt (n : Nat) : ∀ d ∈ padN n, d < 2 ^ 8 := by
  intro d hd
  simp only [padN, be8, List.mem_append, List.mem_cons, List.mem_replicate, List.not_mem_nil, or_false] at hd
  omega
/-- the digest of a message -/
def shaN (m : List Nat) : List Nat := digV (stt (m ++ padN m.length) ((m.length + (padN m.length).length) / 64))
theorem shaN_length (m : List Nat) : (shaN m).length = 32 := digV_length _
theorem shaN_lt (m : List Nat) : ∀ d ∈ shaN m, d < 2 ^ 8 := digV_lt (stt_ok _ _)

theorem sha_abc : shaN [97, 98, 99] = [186, 120, 22, 191, 143, 1, 207, 234, 65, 65, 64, 222, 93, 174, 34, 35, 176, 3, 97, 163, 150, 23, 122, 156, 180, 16, 255, 97, 242, 0, 21, 173] := by decide +kernel
end Go.Proofs.YtacfdnjdjgdbcaaDoor.M
namespace Go.Proofs.YtacfdnjdjgdbcaaDoor
set_option maxRecDepth 100000
open Go.RowKit M

theorem hf4_any (v : Nat) (w : World) : Calls Tryd.prog 39 #[.int .u64 v, .int .i64 4] w fun e w' => e = .returned (.string (bs (fx 4 v))) ∧ Below w.heap.size w w' := by
  obtain ⟨x, hx⟩ : ∃ x, x = v * 2 ^ (64 - 8 * 4) % 18446744073709551616 := ⟨_, rfl⟩
  have hlt : x < 18446744073709551616 := by omega
  have r1 : IntKind.u64.wrap ((v : Int) * 4294967296) = (x : Int) := by
    rw [hx, show (v : Int) * 4294967296 = ((v * 4294967296 : Nat) : Int) by omega, u64w]
  have e := bytes_swap (n := 4) (v := v) (by omega) (by omega)
  rw [← hx] at e
  have E := Box.mk e; clear e hx
  go_enter Tryd.func39, Tryd.ntmps39
  go_wp2_with (first
    | (go_at_call 56; refine (wordSwap_any x hlt _).mono ?_; rintro e w' ⟨rfl, rfl⟩)
    | (go_at_call 55; refine (wordBytes_any (revN 8 x) 4 _).mono ?_; rintro e w1 ⟨rfl, b1⟩))
  go_ret
  exact ⟨by rw [← E.out]; rfl, b1⟩

theorem hf8_any (v : Nat) (hv : v < 18446744073709551616) (w : World) : Calls Tryd.prog 39 #[.int .u64 v, .int .i64 8] w fun e w' => e = .returned (.string (bs (fx 8 v))) ∧ Below w.heap.size w w' := by
  have e := bytes_swap (n := 8) (v := v) (by omega) (by omega)
  rw [show 64 - 8 * 8 = 0 by rfl, Nat.pow_zero, Nat.mul_one, Nat.mod_eq_of_lt hv] at e
  have E := Box.mk e; clear e
  go_enter Tryd.func39, Tryd.ntmps39
  go_wp2_with (first
    | (go_at_call 56; refine (wordSwap_any v hv _).mono ?_; rintro e w' ⟨rfl, rfl⟩)
    | (go_at_call 55; refine (wordBytes_any (revN 8 v) 8 _).mono ?_; rintro e w1 ⟨rfl, b1⟩))
  go_ret
  exact ⟨by rw [← E.out]; rfl, b1⟩

/-- the value of a digit -/
def dgV (c : Nat) : Nat := if 48 ≤ c ∧ c ≤ 57 then c - 48 else if 97 ≤ c ∧ c ≤ 102 then c - 87 else 0
/-- is it a digit? -/
def dgB (c : Nat) : Bool := decide ((48 ≤ c ∧ c ≤ 57) ∨ (97 ≤ c ∧ c ≤ 102))

end Go.Proofs.YtacfdnjdjgdbcaaDoor
namespace Go.Proofs.YtacfdnjdjgdbcaaDoor
set_option maxRecDepth 100000
open Go.RowKit M

/-- the cells of a list of words -/
def w32 (l : List Nat) : List Value := l.map fun n => .int .u32 ((n : Nat) : Int)
theorem w32_length (l : List Nat) : (w32 l).length = l.length := by simp [w32]
theorem w32_get {l : List Nat} {k : Nat} (h : k < l.length) : (w32 l)[k]? = some (.int .u32 ((l.getD k 0 : Nat) : Int)) := by
  simp [w32, h, List.getD]
theorem w32_one (l : List Nat) : ∀ u ∈ w32 l, u.oneCell' = true := by
  intro u hu; simp [w32] at hu; obtain ⟨n, _, rfl⟩ := hu; rfl
/-- the constants of the rounds lie in their cells -/
def KTab (w : World) : Prop := ∀ t, t < 64 → w.cell? ⟨0, t, none⟩ = some (.int .u32 ((kN.getD t 0 : Nat) : Int))
theorem ktab_below {w w' : World} (h : KTab w) (hb : Below w.heap.size w w') : KTab w' := fun t ht => by
  have hc := h t ht
  rw [hb.cell (World.block_lt_of_cell? w _ hc)]; exact hc

theorem turn_rr {x : Nat} (hx : x < 4294967296) (n : Nat) (m : Int) (hm : m = -(n : Int)) (h1 : 1 ≤ n) (h2 : n ≤ 31) (w : World) :
    Calls Tryd.prog 68 #[.int .u32 x, .int .i64 m] w fun e w' => e = .returned (.int .u32 (rr n x : Nat)) ∧ w = w' := by
  subst hm
  have h := wordTurn32_any x (-(n : Int)) hx w
  have e : ((-(n : Int)) % 32).toNat = 32 - n := by omega
  rw [e] at h
  have e2 : rotN32 x (32 - n) = rr n x := by
    unfold rotN32
    rw [show 32 - (32 - n) = n by omega]
    exact rr_or (by omega) hx
  rw [e2] at h
  exact h

theorem and32 {a b : Nat} (ha : a < 4294967296) (hb : b < 4294967296) : bits BinOp.and IntKind.u32 (a : Int) (b : Int) = ((a &&& b : Nat) : Int) := u32_and_nat a b ha hb

theorem below_setCells {B b : Nat} (hb : B ≤ b) : ∀ (vs : List Value) (o : Nat) (w0 w : World), Below B w0 w → Below B w0 (w.setCells b o vs)
  | [], _, _, _, h => h
  | v :: r, o, w0, w, h => by
    rw [World.setCells]
    exact below_setCells hb r (o + 1) w0 _ (h.setCell (p := ⟨b, o, none⟩) hb v)
theorem below_drewN {B : Nat} {w0 w : World} (h : Below B w0 w) (n : Nat) : Below B w0 (w.drewN n) := ⟨h.os, h.tape, h.output, h.size, h.block⟩

/-- a row of cells is stored: it reads back, and nothing else has changed -/
theorem store_arr {w : World} {b o : Nat} {T : TypeId} {cs : List Value} {d : TypeDesc} (ht : w.there b o cs.length) (hi : (Tryd.prog.info? T).map (·.size) = some cs.length) (h1 : ∀ v ∈ cs, v.oneCell' = true) (hu : Tryd.prog.underlying T = some d) (hd : d.isRow = true) :
    (Instr.storeAt T (.pointer (some ⟨b, o, none⟩)) (.agg cs.toArray)).run Tryd.prog w = .ok () (w.setCells b o cs) ∧ (loadVar T ⟨b, o, none⟩).run Tryd.prog (w.setCells b o cs) = .ok (.agg cs.toArray) (w.setCells b o cs) :=
  ⟨run_storeAt_mid w b o T cs.toArray (by simpa using ht) (by simpa using hi) (all_oneCell_toArray h1),
   run_loadVar_mid _ b o T cs d (World.rangeAt_setCells_same w b o cs ht) hu hd hi⟩

theorem at_store {P : Program} {ops : Array Oper} {Q : Exit → Act → World → Prop} {rest : List Oper} {a : Act} {w : World} (T : TypeId) (x y : Operand) {dst : Option Tmp} {ty : TypeId} {pos : String} {after : Array Edge} {guard : Option (Nat × Bool)}
    (h : wpList P ops Q (⟨dst, .store T x y, ty, pos, after, guard⟩ :: rest) a w) : wpList P ops Q (⟨dst, .store T x y, ty, pos, after, guard⟩ :: rest) a w := h
theorem results_one {P : Program} {fn : Func} {p : Tmp} {ty : TypeId} {tmps : Array Value} {w : World} {a : Addr} {v : Value} (h : fn.results = #[.cell p ty]) (ht : tmps.getD p undef = .pointer (some a)) (hl : (loadVar ty a).run P w = .ok v w) :
    (results fn tmps).run P w = .ok v w := by
  have ht' : tmps[p]?.getD undef = .pointer (some a) := by rw [← Array.getD_eq_getD_getElem?]; exact ht
  simp only [results, h]
  simp [ht', hl, asAddr]
theorem at_load {P : Program} {ops : Array Oper} {Q : Exit → Act → World → Prop} {rest : List Oper} {a : Act} {w : World} (T : TypeId) (x : Operand) {dst : Option Tmp} {ty : TypeId} {pos : String} {after : Array Edge} {guard : Option (Nat × Bool)}
    (h : wpList P ops Q (⟨dst, .load T x, ty, pos, after, guard⟩ :: rest) a w) : wpList P ops Q (⟨dst, .load T x, ty, pos, after, guard⟩ :: rest) a w := h
theorem there_new (w : World) (T : TypeId) (cs : List Value) (b o : Nat) (n : Nat) (hb : b = w.heap.size) (h : o + n ≤ cs.length) : (w.alloc (.cells cs.toArray T)).there b o n := fun j hj => by
  subst hb
  have e : (w.alloc (.cells cs.toArray T)).heap[w.heap.size]? = some (.cells cs.toArray T (0, 0)) := heap_alloc_new w _
  refine ⟨?_, by simp⟩
  rw [cell_of_row _ _ _ _ _ _ e]
  simp; omega
theorem range_new (w : World) (T : TypeId) (cs : List Value) (b : Nat) (hb : b = w.heap.size) : (w.alloc (.cells cs.toArray T)).rangeAt b 0 cs := fun j v hv => by
  subst hb
  have e : (w.alloc (.cells cs.toArray T)).heap[w.heap.size]? = some (.cells cs.toArray T (0, 0)) := heap_alloc_new w _
  rw [cell_of_row _ _ _ _ _ _ e, Nat.zero_add]
  simpa using hv

theorem fin1 {a b c d e f g h K X T0 T1 ch ma : Nat} (r3 : bits BinOp.xor IntKind.u32 (bits BinOp.and IntKind.u32 (e : Int) (f : Int)) (bits BinOp.and IntKind.u32 (bits BinOp.xor IntKind.u32 IntKind.u32.max (e : Int)) (g : Int)) = (ch : Int))
    (hT1 : T1 = t1 e) (hT0 : T0 = t0 a) (hch : ch = chN e f g) (hma : ma = maN a b c) :
    ((((h : Int) + T1 + bits BinOp.xor IntKind.u32 (bits BinOp.and IntKind.u32 (e : Int) (f : Int)) (bits BinOp.and IntKind.u32 (bits BinOp.xor IntKind.u32 (if IntKind.u32.signed = true then -1 else IntKind.u32.max) (e : Int)) (g : Int)) + K + X) % 4294967296 + ((T0 : Int) + ma) % 4294967296) % 4294967296) = (((rnd K X ⟨a, b, c, d, e, f, g, h⟩).a : Nat) : Int) := by
  have r3' : bits BinOp.xor IntKind.u32 (bits BinOp.and IntKind.u32 (e : Int) (f : Int)) (bits BinOp.and IntKind.u32 (bits BinOp.xor IntKind.u32 (if IntKind.u32.signed = true then -1 else IntKind.u32.max) (e : Int)) (g : Int)) = (ch : Int) := r3
  rw [r3']
  simp only [rnd, rT, rU, ← hT1, ← hT0, ← hch, ← hma]
  omega
theorem fin2 {a b c d e f g h K X T1 ch : Nat} (r3 : bits BinOp.xor IntKind.u32 (bits BinOp.and IntKind.u32 (e : Int) (f : Int)) (bits BinOp.and IntKind.u32 (bits BinOp.xor IntKind.u32 IntKind.u32.max (e : Int)) (g : Int)) = (ch : Int))
    (hT1 : T1 = t1 e) (hch : ch = chN e f g) :
    (((d : Int) + ((h : Int) + T1 + bits BinOp.xor IntKind.u32 (bits BinOp.and IntKind.u32 (e : Int) (f : Int)) (bits BinOp.and IntKind.u32 (bits BinOp.xor IntKind.u32 (if IntKind.u32.signed = true then -1 else IntKind.u32.max) (e : Int)) (g : Int)) + K + X) % 4294967296) % 4294967296) = (((rnd K X ⟨a, b, c, d, e, f, g, h⟩).e : Nat) : Int) := by
  have r3' : bits BinOp.xor IntKind.u32 (bits BinOp.and IntKind.u32 (e : Int) (f : Int)) (bits BinOp.and IntKind.u32 (bits BinOp.xor IntKind.u32 (if IntKind.u32.signed = true then -1 else IntKind.u32.max) (e : Int)) (g : Int)) = (ch : Int) := r3
  rw [r3']
  simp only [rnd, rT, ← hT1, ← hch]
  omega
set_option maxRecDepth 100000 in
set_option maxHeartbeats 600000 in
theorem rounds_any (v : V8) (hv : v.ok) (W : List Nat) (hW : W.length = 64) (hWl : ∀ k, W.getD k 0 < 4294967296) (w : World) (hK : KTab w) :
    Calls Tryd.prog 52 #[.agg #[.int .u32 v.a, .int .u32 v.b, .int .u32 v.c, .int .u32 v.d, .int .u32 v.e, .int .u32 v.f, .int .u32 v.g, .int .u32 v.h], .agg (w32 W).toArray] w fun e w' => e = .returned (.agg #[.int .u32 (rds kN W v 64).a, .int .u32 (rds kN W v 64).b, .int .u32 (rds kN W v 64).c, .int .u32 (rds kN W v 64).d, .int .u32 (rds kN W v 64).e, .int .u32 (rds kN W v 64).f, .int .u32 (rds kN W v 64).g, .int .u32 (rds kN W v 64).h]) ∧ Below w.heap.size w w' := by
  have HK := Box.mk hK; clear hK
  have HW := Box.mk hW; clear hW
  have HWL := Box.mk hWl; clear hWl
  have HV := Box.mk hv; clear hv
  obtain ⟨a0, b0, c0, d0, e0, f0, g0, h0⟩ := v
  go_enter Tryd.func52, Tryd.ntmps52
  go_wp2_with fail
  go_quiet (fail)
  go_wp2_with fail
  go_loopw [5, 6, 7, 8, 9, 10, 11, 12, 13, 14, 15, 16, 17, 34] (fun xa xb xc xd xe xf xg xh _ _ _ _ _ i wr => ∃ (k : Nat) (u : V8), k ≤ 64 ∧ i = .int .i64 k ∧ Box (u = rds kN W ⟨a0, b0, c0, d0, e0, f0, g0, h0⟩ k) ∧ Box u.ok ∧ xa = .int .u32 u.a ∧ xb = .int .u32 u.b ∧ xc = .int .u32 u.c ∧ xd = .int .u32 u.d ∧ xe = .int .u32 u.e ∧ xf = .int .u32 u.f ∧ xg = .int .u32 u.g ∧ xh = .int .u32 u.h ∧ Box (wr.rangeAt (w.heap.size + 1) 0 (w32 W)) ∧ Box (KTab wr) ∧ Box (wr.there (w.heap.size + 1 + 1) 0 8) ∧ Box (Below w.heap.size w wr))
    (fun _ _ _ _ _ _ _ _ _ _ _ _ _ i _ => 64 - (intOf i).toNat)
  case atStart =>
    refine ⟨0, ⟨a0, b0, c0, d0, e0, f0, g0, h0⟩, by omega, rfl, ⟨rfl⟩, HV, rfl, rfl, rfl, rfl, rfl, rfl, rfl, rfl, ⟨?_⟩, ⟨?_⟩, ⟨?_⟩, ⟨?_⟩⟩
    · exact World.rangeAt_alloc (range_new _ _ _ _ (by simp)) _
    · exact ktab_below HK.out (below_drewN ((((Below.refl _ _).alloc (Nat.le_refl _) _).alloc (by simp) _).alloc (by simp; omega) _) _)
    · exact there_new _ 65 [.int .u32 0, .int .u32 0, .int .u32 0, .int .u32 0, .int .u32 0, .int .u32 0, .int .u32 0, .int .u32 0] _ _ _ (by simp) (by simp)
    · exact below_drewN ((((Below.refl _ _).alloc (Nat.le_refl _) _).alloc (by simp) _).alloc (by simp; omega) _) _
  case round =>
    obtain ⟨k, ⟨a, b, c, d, e, f, g, h⟩, hk, rfl, hu, hok, rfl, rfl, rfl, rfl, rfl, rfl, rfl, rfl, hR, hKT, hT, hb⟩ := hrel
    by_cases hlt : k < 64
    · have oa := hok.out.a; have ob := hok.out.b; have oc := hok.out.c; have od := hok.out.d
      have oe := hok.out.e; have of := hok.out.f; have og := hok.out.g; have oh := hok.out.h
      simp only at oa ob oc od oe of og oh
      have c1 := fun w => turn_rr oe 6 (-6) (by decide) (by omega) (by omega) w
      have c2 := fun w => turn_rr oe 11 (-11) (by decide) (by omega) (by omega) w
      have c3 := fun w => turn_rr oe 25 (-25) (by decide) (by omega) (by omega) w
      have c4 := fun w => turn_rr oa 2 (-2) (by decide) (by omega) (by omega) w
      have c5 := fun w => turn_rr oa 13 (-13) (by decide) (by omega) (by omega) w
      have c6 := fun w => turn_rr oa 22 (-22) (by decide) (by omega) (by omega) w
      obtain ⟨p1, hp1⟩ : ∃ p, p = rr 6 e := ⟨_, rfl⟩
      obtain ⟨p2, hp2⟩ : ∃ p, p = rr 11 e := ⟨_, rfl⟩
      obtain ⟨p3, hp3⟩ : ∃ p, p = rr 25 e := ⟨_, rfl⟩
      obtain ⟨p4, hp4⟩ : ∃ p, p = rr 2 a := ⟨_, rfl⟩
      obtain ⟨p5, hp5⟩ : ∃ p, p = rr 13 a := ⟨_, rfl⟩
      obtain ⟨p6, hp6⟩ : ∃ p, p = rr 22 a := ⟨_, rfl⟩
      have l1 : p1 < 4294967296 := by rw [hp1]; exact rr_lt (by omega) oe
      have l2 : p2 < 4294967296 := by rw [hp2]; exact rr_lt (by omega) oe
      have l3 : p3 < 4294967296 := by rw [hp3]; exact rr_lt (by omega) oe
      have l4 : p4 < 4294967296 := by rw [hp4]; exact rr_lt (by omega) oa
      have l5 : p5 < 4294967296 := by rw [hp5]; exact rr_lt (by omega) oa
      have l6 : p6 < 4294967296 := by rw [hp6]; exact rr_lt (by omega) oa
      rw [← hp1] at c1; rw [← hp2] at c2; rw [← hp3] at c3
      rw [← hp4] at c4; rw [← hp5] at c5; rw [← hp6] at c6
      have C1 := Box.mk c1; have C2 := Box.mk c2; have C3 := Box.mk c3
      have C4 := Box.mk c4; have C5 := Box.mk c5; have C6 := Box.mk c6
      clear c1 c2 c3 c4 c5 c6
      obtain ⟨T1, hT1⟩ : ∃ p, p = t1 e := ⟨_, rfl⟩
      obtain ⟨T0, hT0⟩ : ∃ p, p = t0 a := ⟨_, rfl⟩
      obtain ⟨ch, hch⟩ : ∃ p, p = chN e f g := ⟨_, rfl⟩
      obtain ⟨ma, hma⟩ : ∃ p, p = maN a b c := ⟨_, rfl⟩
      have r1 : bits BinOp.xor IntKind.u32 (bits BinOp.xor IntKind.u32 (p1 : Int) (p2 : Int)) (p3 : Int) = (T1 : Int) := by
        rw [xor32 l1 l2, xor32 (xor_lt32 l1 l2) l3, hT1, hp1, hp2, hp3]; rfl
      have r2 : bits BinOp.xor IntKind.u32 (bits BinOp.xor IntKind.u32 (p4 : Int) (p5 : Int)) (p6 : Int) = (T0 : Int) := by
        rw [xor32 l4 l5, xor32 (xor_lt32 l4 l5) l6, hT0, hp4, hp5, hp6]; rfl
      have r3 : bits BinOp.xor IntKind.u32 (bits BinOp.and IntKind.u32 (e : Int) (f : Int)) (bits BinOp.and IntKind.u32 (bits BinOp.xor IntKind.u32 IntKind.u32.max (e : Int)) (g : Int)) = (ch : Int) := by
        rw [not32 oe, and32 oe of, and32 (by omega) og, xor32 (and_lt32 oe) (and_lt32 (by omega)), hch]; rfl
      have r4 : bits BinOp.xor IntKind.u32 (bits BinOp.xor IntKind.u32 (bits BinOp.and IntKind.u32 (a : Int) (b : Int)) (bits BinOp.and IntKind.u32 (a : Int) (c : Int))) (bits BinOp.and IntKind.u32 (b : Int) (c : Int)) = (ma : Int) := by
        rw [and32 oa ob, and32 oa oc, and32 ob oc, xor32 (and_lt32 oa) (and_lt32 oa), xor32 (xor_lt32 (and_lt32 oa) (and_lt32 oa)) (and_lt32 ob), hma]; rfl
      have LT1 : T1 < 4294967296 := by rw [hT1]; exact t1_lt oe
      have LT0 : T0 < 4294967296 := by rw [hT0]; exact t0_lt oa
      have Lch : ch < 4294967296 := by rw [hch]; exact chN_lt oe
      have Lma : ma < 4294967296 := by rw [hma]; exact maN_lt oa ob
      have P1 := Box.mk hp1; have P2 := Box.mk hp2; have P3 := Box.mk hp3; have P4 := Box.mk hp4; have P5 := Box.mk hp5; have P6 := Box.mk hp6
      have HT1 := Box.mk hT1; have HT0 := Box.mk hT0; have HCH := Box.mk hch; have HMA := Box.mk hma
      clear hp1 hp2 hp3 hp4 hp5 hp6 hT1 hT0 hch hma
      have g1 : wr.cell? ⟨0, k, none⟩ = some (.int .u32 ((kN.getD k 0 : Nat) : Int)) := hKT.out k hlt
      have g2 : wr.cell? ⟨w.heap.size + 1, k, none⟩ = some (.int .u32 ((W.getD k 0 : Nat) : Int)) := by
        have h := hR.out k _ (w32_get (l := W) (k := k) (by rw [HW.out]; exact hlt))
        rw [Nat.zero_add] at h; exact h
      have lk := kN_lt k hlt
      have lw := HWL.out k
      obtain ⟨K, hKk⟩ : ∃ p, p = kN.getD k 0 := ⟨_, rfl⟩
      obtain ⟨X, hX⟩ : ∃ p, p = W.getD k 0 := ⟨_, rfl⟩
      rw [← hKk] at g1 lk; rw [← hX] at g2 lw
      have HKk := Box.mk hKk; have HX := Box.mk hX
      clear hKk hX
      go_wp2_with (first
        | (go_at_call 68; ((with_reducible refine (C1.out _).mono ?_); rintro e w' ⟨rfl, rfl⟩))
        | (go_at_call 68; ((with_reducible refine (C2.out _).mono ?_); rintro e w' ⟨rfl, rfl⟩))
        | (go_at_call 68; ((with_reducible refine (C3.out _).mono ?_); rintro e w' ⟨rfl, rfl⟩)))
      go_quiet (fail)
      go_wp2_with (first
        | (go_at_call 68; ((with_reducible refine (C4.out _).mono ?_); rintro e w' ⟨rfl, rfl⟩))
        | (go_at_call 68; ((with_reducible refine (C5.out _).mono ?_); rintro e w' ⟨rfl, rfl⟩))
        | (go_at_call 68; ((with_reducible refine (C6.out _).mono ?_); rintro e w' ⟨rfl, rfl⟩)))
      go_roundw
      case rel =>
        refine ⟨k + 1, rnd K X ⟨a, b, c, d, e, f, g, h⟩, by omega, by go_num, ?_, ?_, ?_, ?_, ?_, ?_, ?_, ?_, ?_, ?_, ?_, ?_, ?_, ?_⟩
        any_goals exact rfl
        · exact ⟨by rw [HKk.out, HX.out, hu.out]; rfl⟩
        · exact ⟨rnd_ok hok.out⟩
        · exact congrArg (Value.int .u32) (fin1 r3 HT1.out HT0.out HCH.out HMA.out)
        · exact congrArg (Value.int .u32) (fin2 r3 HT1.out HCH.out)
        · exact ⟨hR.out⟩
        · exact ⟨hKT.out⟩
        · exact ⟨hT.out⟩
        · exact ⟨below_drewN hb.out _⟩
      case measure => simp [intOf]; omega
    · obtain rfl : 64 = k := by omega
      obtain ⟨s1, s2⟩ := store_arr (T := 65) (cs := [.int .u32 a, .int .u32 b, .int .u32 c, .int .u32 d, .int .u32 e, .int .u32 f, .int .u32 g, .int .u32 h]) hT.out (by kernel_rfl) (by simp [Value.oneCell']) Tryd.underlying65 rfl
      have hb2 := below_setCells (b := w.heap.size + 1 + 1) (by omega) [.int .u32 a, .int .u32 b, .int .u32 c, .int .u32 d, .int .u32 e, .int .u32 f, .int .u32 g, .int .u32 h] 0 w wr hb.out
      have hfin := hu.out
      have HF := Box.mk hfin; clear hfin
      clear s1
      go_wp2_with ((with_reducible refine at_store 65 (.tmp 4) (.tmp 107) ?_); refine wpList_store_mid rfl 65 (.tmp 4) (.tmp 107) rfl (w.heap.size + 1 + 1) 0 #[.int .u32 a, .int .u32 b, .int .u32 c, .int .u32 d, .int .u32 e, .int .u32 f, .int .u32 g, .int .u32 h] rfl rfl hT.out (by kernel_rfl) (by simp [Value.oneCell']) ?_)
      refine bodyPost_ret (v := .agg #[.int .u32 a, .int .u32 b, .int .u32 c, .int .u32 d, .int .u32 e, .int .u32 f, .int .u32 g, .int .u32 h]) (results_one rfl rfl s2) rfl ⟨?_, hb2⟩
      rw [← HF.out]
end Go.Proofs.YtacfdnjdjgdbcaaDoor
