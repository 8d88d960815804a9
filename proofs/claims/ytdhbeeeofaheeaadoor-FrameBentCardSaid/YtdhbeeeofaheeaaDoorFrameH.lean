/- FrameBent: the mathematics. -/
import Derived.Test.YtdhbeeeofaheeaaDoorFrameF
namespace Go.Proofs.YtdhbeeeofaheeaaDoor
set_option maxRecDepth 100000
open M

theorem num_inj8 {l m : List Nat} (hlen : l.length = m.length) (hl : ∀ d ∈ l, d < 2 ^ 8) (hm : ∀ d ∈ m, d < 2 ^ 8) (h : num 8 l = num 8 m) : l = m := by
  rw [← bytesN_num hl, ← bytesN_num hm, hlen, h]
/-- a change in the middle -/
theorem num_mid {P C C' R : List Nat} {y : Nat} (hP : ∀ d ∈ P, d < 2 ^ 8) (hC : ∀ d ∈ C, d < 2 ^ 8) (hC' : ∀ d ∈ C', d < 2 ^ 8) (hlen : C'.length = C.length) (h : num 8 C' = num 8 C ^^^ y) :
    num 8 (P ++ (C' ++ R)) = num 8 (P ++ (C ++ R)) ^^^ 2 ^ (8 * P.length) * y := by
  rw [num_join 8 P _ hP, num_join 8 P _ hP, num_join 8 C' _ hC', num_join 8 C _ hC, h, hlen]
  simp only [mul_pow_xor]
  apply Nat.eq_of_testBit_eq
  intro i
  simp only [Nat.testBit_xor]
  generalize (num 8 P).testBit i = a
  generalize (2 ^ (8 * P.length) * num 8 C).testBit i = b
  generalize (2 ^ (8 * P.length) * y).testBit i = c
  generalize (2 ^ (8 * P.length) * (2 ^ (8 * C.length) * num 8 R)).testBit i = d
  cases a <;> cases b <;> cases c <;> cases d <;> rfl
theorem bent_split {P C R b : List Nat} {y : Nat} (hP : ∀ d ∈ P, d < 2 ^ 8) (hC : ∀ d ∈ C, d < 2 ^ 8) (hR : ∀ d ∈ R, d < 2 ^ 8) (hb : ∀ d ∈ b, d < 2 ^ 8) (hlen : b.length = (P ++ (C ++ R)).length)
    (hy : y < 2 ^ (8 * C.length)) (h : num 8 b = num 8 (P ++ (C ++ R)) ^^^ 2 ^ (8 * P.length) * y) :
    ∃ C', C'.length = C.length ∧ (∀ d ∈ C', d < 2 ^ 8) ∧ num 8 C' = num 8 C ^^^ y ∧ b = P ++ (C' ++ R) := by
  have hlt : num 8 C ^^^ y < 2 ^ (8 * C.length) := Nat.xor_lt_two_pow (num_lt 8 C hC) hy
  have hn : num 8 (bytesN C.length (num 8 C ^^^ y)) = num 8 C ^^^ y := by rw [num_bytesN, Nat.mod_eq_of_lt hlt]
  have hl : (bytesN C.length (num 8 C ^^^ y)).length = C.length := bytesN_length _ _
  have hd : ∀ d ∈ bytesN C.length (num 8 C ^^^ y), d < 2 ^ 8 := bytesN_lt _ _
  refine ⟨bytesN C.length (num 8 C ^^^ y), hl, hd, hn, ?_⟩
  refine num_inj8 (by rw [hlen]; simp [hl]) hb (fun d h => ?_) ?_
  · rcases List.mem_append.1 h with h | h
    · exact hP d h
    · rcases List.mem_append.1 h with h | h
      · exact hd d h
      · exact hR d h
  · rw [h, num_mid hP hC hd hl hn]

theorem shift_ne {a x : Nat} (h : x ≠ 0) (n : Nat) : n ^^^ 2 ^ a * x ≠ n := fun e => by
  have e2 := congrArg (fun z => n ^^^ z) e
  simp only [← Nat.xor_assoc, Nat.xor_self, Nat.zero_xor] at e2
  have : 0 < 2 ^ a * x := Nat.mul_pos (Nat.pow_pos (by decide)) (Nat.pos_of_ne_zero h)
  omega
theorem app3_lt {a b c : List Nat} (ha : ∀ d ∈ a, d < 2 ^ 8) (hb : ∀ d ∈ b, d < 2 ^ 8) (hc : ∀ d ∈ c, d < 2 ^ 8) : ∀ d ∈ a ++ (b ++ c), d < 2 ^ 8 := fun d h => by
  rcases List.mem_append.1 h with h | h
  · exact ha d h
  · rcases List.mem_append.1 h with h | h
    · exact hb d h
    · exact hc d h
theorem app2_lt {a b : List Nat} (ha : ∀ d ∈ a, d < 2 ^ 8) (hb : ∀ d ∈ b, d < 2 ^ 8) : ∀ d ∈ a ++ b, d < 2 ^ 8 := fun d h => by
  rcases List.mem_append.1 h with h | h
  · exact ha d h
  · exact hb d h
theorem cons2_lt {a : List Nat} (ha : ∀ d ∈ a, d < 2 ^ 8) : ∀ d ∈ 79 :: 74 :: a, d < 2 ^ 8 := fun d h => by
  simp only [List.mem_cons] at h
  rcases h with rfl | rfl | h
  · decide
  · decide
  · exact ha d h

/-- a burst in the number -/
theorem bent_number {Q at' x : Nat} {r t b' : List Nat} (hr : r.length ≤ 4194304) (hrb : ∀ d ∈ r, d < 2 ^ 8) (hl : b'.length = 8) (hb : ∀ d ∈ b', d < 2 ^ 8) (hat : at' < 64) (hx : x < 4294967296) (hx0 : x ≠ 0)
    (h : num 8 b' = num 8 (fx 8 Q) ^^^ 2 ^ at' * x) : rdX (79 :: 74 :: (fx 4 r.length ++ (b' ++ (fx 4 (smN Q r) ++ (r ++ t))))) ≠ 0 := by
  have u := un_fx4 (v := r.length) (by omega)
  obtain ⟨_, _, _, h4⟩ := rdX_parts (t := t) (fx_length 4 r.length) hl (fx_length 4 (smN Q r)) (d := r) u.symm (by rw [u]; exact hr)
  rw [h4, un_fx4 (smN_lt Q r)]
  have hfx : fx 8 (un b') = b' := by have e := fx_un hb; rw [hl] at e; exact e
  have e1 : smN (un b') r = ofN (fx 4 r.length ++ (b' ++ r)) := by unfold smN hdN; rw [hfx, List.append_assoc]
  have e2 : smN Q r = ofN (fx 4 r.length ++ (fx 8 Q ++ r)) := by unfold smN hdN; rw [List.append_assoc]
  have hm := num_mid (P := fx 4 r.length) (R := r) (fx_lt _ _) (fx_lt 8 Q) hb (by rw [hl, fx_length]) h
  rw [fx_length, ← Nat.mul_assoc, ← Nat.pow_add] at hm
  have ht := burst_told (l := fx 4 r.length ++ (fx 8 Q ++ r)) (by simp [hl, fx_length]) (app3_lt (fx_lt _ _) (fx_lt _ _) hrb) (app3_lt (fx_lt _ _) hb hrb) (by simp [fx_length]; omega) hx hm
  rw [e1, e2, if_neg (ht.2 hx0)]
  decide
/-- a burst in the sum -/
theorem bent_sum {Q at' x : Nat} {r t c' : List Nat} (hq : Q < 18446744073709551616) (hr : r.length ≤ 4194304) (hl : c'.length = 4) (hb : ∀ d ∈ c', d < 2 ^ 8) (hx0 : x ≠ 0)
    (h : num 8 c' = num 8 (fx 4 (smN Q r)) ^^^ 2 ^ at' * x) : rdX (79 :: 74 :: (fx 4 r.length ++ (fx 8 Q ++ (c' ++ (r ++ t))))) ≠ 0 := by
  have u := un_fx4 (v := r.length) (by omega)
  obtain ⟨_, _, _, h4⟩ := rdX_parts (t := t) (fx_length 4 r.length) (fx_length 8 Q) hl (d := r) u.symm (by rw [u]; exact hr)
  rw [h4, un_fx8 hq]
  have hne : ¬ smN Q r = un c' := fun e => by
    have hfx : fx 4 (un c') = c' := by have e := fx_un hb; rw [hl] at e; exact e
    rw [e, hfx] at h
    exact shift_ne hx0 _ h.symm
  rw [if_neg hne]
  decide
/-- a burst in the record -/
theorem bent_record {Q at' x : Nat} {r r' t : List Nat} (hq : Q < 18446744073709551616) (hr : r.length ≤ 4194304) (hrb : ∀ d ∈ r, d < 2 ^ 8) (hl : r'.length = r.length) (hb : ∀ d ∈ r', d < 2 ^ 8) (hat : at' < 8 * r.length) (hx : x < 4294967296) (hx0 : x ≠ 0)
    (h : num 8 r' = num 8 r ^^^ 2 ^ at' * x) : rdX (79 :: 74 :: (fx 4 r.length ++ (fx 8 Q ++ (fx 4 (smN Q r) ++ (r' ++ t))))) ≠ 0 := by
  have u := un_fx4 (v := r.length) (by omega)
  obtain ⟨_, _, _, h4⟩ := rdX_parts (t := t) (fx_length 4 r.length) (fx_length 8 Q) (fx_length 4 (smN Q r)) (d := r') (by rw [u]; exact hl) (by rw [u]; exact hr)
  rw [h4, un_fx8 hq, un_fx4 (smN_lt Q r)]
  have e1 : smN Q r' = ofN (hdN Q r.length ++ (r' ++ [])) := by unfold smN; rw [hl, List.append_nil]
  have e2 : smN Q r = ofN (hdN Q r.length ++ (r ++ [])) := by unfold smN; rw [List.append_nil]
  have hm := num_mid (P := hdN Q r.length) (R := []) (hdN_lt _ _) hrb hb hl h
  rw [hdN_length, ← Nat.mul_assoc, ← Nat.pow_add] at hm
  have ht := burst_told (l := hdN Q r.length ++ (r ++ [])) (by simp [hl]) (app3_lt (hdN_lt _ _) hrb (by simp)) (app3_lt (hdN_lt _ _) hb (by simp)) (by simp [hdN_length]; omega) hx hm
  rw [e1, e2, if_neg (ht.2 hx0)]
  decide

theorem scan_bent {q : Nat} (hq : q < 18446744073709551616) {f : Nat → List Nat} (hf : ∀ i, (f i).length ≤ 60) (hfb : ∀ i, ∀ d ∈ f i, d < 2 ^ 8) {K j F Wd at' x : Nat} {l : List Nat} (hj : j < K)
    (hpart : (F = (lay q f j).length + 6 ∧ Wd = 8) ∨ (F = (lay q f j).length + 14 ∧ Wd = 4) ∨ (F = (lay q f j).length + 18 ∧ Wd = (f j).length))
    (hat : at' < 8 * Wd) (hx : x < 4294967296) (hx2 : 2 ^ at' * x < 2 ^ (8 * Wd)) (hx0 : x ≠ 0) (hl : ∀ d ∈ l, d < 2 ^ 8) (hlen : l.length = (lay q f K).length)
    (h : num 8 l = num 8 (lay q f K) ^^^ 2 ^ (8 * F + at') * x) : scanN l q = ((List.range j).map f, (lay q f j).length) := by
  obtain ⟨t, ht⟩ := lay_prefix K (show j + 1 ≤ K from hj) (q := q) (f := f)
  have htb : ∀ d ∈ t, d < 2 ^ 8 := fun d hd => lay_lt hfb K d (by rw [ht]; exact List.mem_append_right _ hd)
  obtain ⟨Q, hQ⟩ : ∃ Q, Q = (q + j) % 18446744073709551616 := ⟨_, rfl⟩
  have hQl : Q < 18446744073709551616 := by omega
  have hLb := lay_lt (q := q) hfb j
  have hrl : (f j).length ≤ 4194304 := by have := hf j; omega
  have hrb := hfb j
  have hl0 : lay q f K = lay q f j ++ 79 :: 74 :: (fx 4 (f j).length ++ (fx 8 Q ++ (fx 4 (smN Q (f j)) ++ (f j ++ t)))) := by
    rw [ht, lay, ← hQ, List.append_assoc, frN_parts]
  have stop : ∀ B : List Nat, rdX B ≠ 0 → l = lay q f j ++ B → scanN l q = ((List.range j).map f, (lay q f j).length) := fun B hB e => by
    rw [e, scan_lay hq hf, scan_stop (fun hh => hB hh.1)]; simp
  rw [Nat.pow_add, Nat.mul_assoc] at h
  rcases hpart with ⟨hF, hW⟩ | ⟨hF, hW⟩ | ⟨hF, hW⟩
  · subst hW
    have e : lay q f K = (lay q f j ++ 79 :: 74 :: fx 4 (f j).length) ++ (fx 8 Q ++ (fx 4 (smN Q (f j)) ++ (f j ++ t))) := by rw [hl0]; simp [List.append_assoc]
    have hPl : (lay q f j ++ 79 :: 74 :: fx 4 (f j).length).length = F := by simp [fx_length, hF]
    rw [e] at h hlen
    rw [← hPl] at h
    obtain ⟨C', h1, h2, h3, h4⟩ := bent_split (app2_lt hLb (cons2_lt (fx_lt _ _))) (fx_lt 8 Q) (app3_lt (fx_lt _ _) hrb htb) hl hlen (by rw [fx_length]; exact hx2) h
    rw [fx_length] at h1
    refine stop _ (bent_number (Q := Q) (r := f j) (t := t) hrl hrb h1 h2 (by omega) hx hx0 h3) ?_
    rw [h4]; simp [List.append_assoc]
  · subst hW
    have e : lay q f K = (lay q f j ++ 79 :: 74 :: (fx 4 (f j).length ++ fx 8 Q)) ++ (fx 4 (smN Q (f j)) ++ (f j ++ t)) := by rw [hl0]; simp [List.append_assoc]
    have hPl : (lay q f j ++ 79 :: 74 :: (fx 4 (f j).length ++ fx 8 Q)).length = F := by simp [fx_length, hF]
    rw [e] at h hlen
    rw [← hPl] at h
    obtain ⟨C', h1, h2, h3, h4⟩ := bent_split (app2_lt hLb (cons2_lt (app2_lt (fx_lt _ _) (fx_lt _ _)))) (fx_lt 4 (smN Q (f j))) (app2_lt hrb htb) hl hlen (by rw [fx_length]; exact hx2) h
    rw [fx_length] at h1
    refine stop _ (bent_sum (Q := Q) (r := f j) (t := t) hQl hrl h1 h2 hx0 h3) ?_
    rw [h4]; simp [List.append_assoc]
  · have e : lay q f K = (lay q f j ++ 79 :: 74 :: (fx 4 (f j).length ++ (fx 8 Q ++ fx 4 (smN Q (f j))))) ++ (f j ++ t) := by rw [hl0]; simp [List.append_assoc]
    have hPl : (lay q f j ++ 79 :: 74 :: (fx 4 (f j).length ++ (fx 8 Q ++ fx 4 (smN Q (f j))))).length = F := by simp [fx_length, hF]
    rw [e] at h hlen
    rw [← hPl] at h
    obtain ⟨C', h1, h2, h3, h4⟩ := bent_split (app2_lt hLb (cons2_lt (app3_lt (fx_lt _ _) (fx_lt _ _) (fx_lt _ _)))) hrb htb hl hlen (by rw [← hW]; exact hx2) h
    refine stop _ (bent_record (Q := Q) (r := f j) (t := t) hQl hrl hrb h1 h2 (by rw [← hW]; exact hat) hx hx0 h3) ?_
    rw [h4]; simp [List.append_assoc]
end Go.Proofs.YtdhbeeeofaheeaaDoor
