/- Plain mathematics of layer 6. -/
import Derived.Test.YtdhbeeeofaheeaaDoorPackL
import Derived.Test.YtdhbeeeofaheeaaDoorCrcE
namespace Go.Proofs.YtdhbeeeofaheeaaDoor
set_option maxRecDepth 100000
open M

/-- the length and the number of a record -/
def hdN (q n : Nat) : List Nat := fx 4 n ++ fx 8 q
/-- its checksum -/
def smN (q : Nat) (r : List Nat) : Nat := ofN (hdN q r.length ++ r)
/-- its frame -/
def frN (q : Nat) (r : List Nat) : List Nat := 79 :: 74 :: (hdN q r.length ++ (fx 4 (smN q r) ++ r))

theorem hdN_length (q n : Nat) : (hdN q n).length = 12 := by simp [hdN, fx_length]
theorem hdN_lt (q n : Nat) : ∀ d ∈ hdN q n, d < 2 ^ 8 := fun d hd => by
  rcases List.mem_append.1 hd with h | h
  · exact fx_lt _ _ d h
  · exact fx_lt _ _ d h
theorem smN_lt (q : Nat) (r : List Nat) : smN q r < 4294967296 := more_lt _ _
theorem frN_length (q : Nat) (r : List Nat) : (frN q r).length = 18 + r.length := by simp [frN, hdN_length, fx_length]; omega
theorem frN_lt {q : Nat} {r : List Nat} (hr : ∀ d ∈ r, d < 2 ^ 8) : ∀ d ∈ frN q r, d < 2 ^ 8 := fun d hd => by
  simp only [frN, List.mem_cons, List.mem_append] at hd
  rcases hd with rfl | rfl | h | h | h
  · decide
  · decide
  · exact hdN_lt _ _ d h
  · exact fx_lt _ _ d h
  · exact hr d h

/-- what a frame says: the length, the number, the sum, the record -/
def pN (l : List Nat) : Nat := un ((l.drop 2).take 4)
def pQ (l : List Nat) : Nat := un ((l.drop 6).take 8)
def pW (l : List Nat) : Nat := un ((l.drop 14).take 4)
def pR (l : List Nat) : List Nat := (l.drop 18).take (pN l)
/-- the error -/
def rdX (l : List Nat) : Nat :=
  if l.length < 2 then 2 else if l.take 2 ≠ [79, 74] then 3 else if l.length < 18 then 2 else if 4194304 < pN l then 12 else if l.length < 18 + pN l then 2
  else if smN (pQ l) (pR l) ≠ pW l then 4 else 0

theorem rdX_zero {l : List Nat} (h : rdX l = 0) : 18 + pN l ≤ l.length ∧ pN l ≤ 4194304 ∧ l.take 2 = [79, 74] ∧ smN (pQ l) (pR l) = pW l := by
  unfold rdX at h
  split at h; · cases h
  split at h; · cases h
  split at h; · cases h
  split at h; · cases h
  split at h; · cases h
  split at h; · cases h
  rename_i h1 h2 h3 h4 h5 h6
  exact ⟨by omega, by omega, by simpa using h2, by simpa using h6⟩

/-- a frame by its parts -/
theorem rdX_parts {a b c d t : List Nat} (ha : a.length = 4) (hb : b.length = 8) (hc : c.length = 4) (hd : d.length = un a) (hm : un a ≤ 4194304) :
    pN (79 :: 74 :: (a ++ (b ++ (c ++ (d ++ t))))) = un a ∧ pQ (79 :: 74 :: (a ++ (b ++ (c ++ (d ++ t))))) = un b ∧ pR (79 :: 74 :: (a ++ (b ++ (c ++ (d ++ t))))) = d ∧
      rdX (79 :: 74 :: (a ++ (b ++ (c ++ (d ++ t))))) = if smN (un b) d = un c then 0 else 4 := by
  obtain ⟨l, hl⟩ : ∃ l, l = 79 :: 74 :: (a ++ (b ++ (c ++ (d ++ t)))) := ⟨_, rfl⟩
  have e2 : l.drop 2 = a ++ (b ++ (c ++ (d ++ t))) := by rw [hl]; rfl
  have e6 : l.drop 6 = b ++ (c ++ (d ++ t)) := by rw [show (6 : Nat) = 2 + 4 by rfl, ← List.drop_drop, e2, ← ha, List.drop_left]
  have e14 : l.drop 14 = c ++ (d ++ t) := by rw [show (14 : Nat) = 6 + 8 by rfl, ← List.drop_drop, e6, ← hb, List.drop_left]
  have e18 : l.drop 18 = d ++ t := by rw [show (18 : Nat) = 14 + 4 by rfl, ← List.drop_drop, e14, ← hc, List.drop_left]
  have f1 : pN l = un a := by unfold pN; rw [e2, ← ha, List.take_left]
  have f2 : pQ l = un b := by unfold pQ; rw [e6, ← hb, List.take_left]
  have f3 : pW l = un c := by unfold pW; rw [e14, ← hc, List.take_left]
  have f4 : pR l = d := by unfold pR; rw [e18, f1, ← hd, List.take_left]
  have hlen : l.length = 18 + d.length + t.length := by rw [hl]; simp only [List.length_cons, List.length_append]; omega
  have ht : l.take 2 = [79, 74] := by rw [hl]; rfl
  rw [← hl]
  refine ⟨f1, f2, f4, ?_⟩
  unfold rdX
  rw [if_neg (by omega), if_neg (by rw [ht]; exact fun h => h rfl), if_neg (by omega), f1, if_neg (by omega), if_neg (by omega), f2, f4, f3]
  by_cases h : smN (un b) d = un c
  · rw [if_neg (fun hh => hh h), if_pos h]
  · rw [if_pos h, if_neg h]

theorem un_fx4 {v : Nat} (h : v < 4294967296) : un (fx 4 v) = v := by rw [un_fx]; exact Nat.mod_eq_of_lt h
theorem un_fx8 {v : Nat} (h : v < 18446744073709551616) : un (fx 8 v) = v := by rw [un_fx]; exact Nat.mod_eq_of_lt h
theorem frN_parts (q : Nat) (r t : List Nat) : frN q r ++ t = 79 :: 74 :: (fx 4 r.length ++ (fx 8 q ++ (fx 4 (smN q r) ++ (r ++ t)))) := by
  simp [frN, hdN, List.append_assoc]

/-- a frame is read -/
theorem rdX_frame {q : Nat} {r t : List Nat} (hq : q < 18446744073709551616) (hr : r.length ≤ 4194304) :
    rdX (frN q r ++ t) = 0 ∧ pQ (frN q r ++ t) = q ∧ pR (frN q r ++ t) = r ∧ pN (frN q r ++ t) = r.length := by
  rw [frN_parts]
  have u := un_fx4 (v := r.length) (by omega)
  obtain ⟨h1, h2, h3, h4⟩ := rdX_parts (t := t) (fx_length 4 r.length) (fx_length 8 q) (fx_length 4 (smN q r)) (d := r) u.symm (by rw [u]; exact hr)
  rw [un_fx8 hq, un_fx4 (smN_lt q r), if_pos rfl] at h4
  exact ⟨h4, by rw [h2, un_fx8 hq], h3, by rw [h1, u]⟩

/-- a frame that is cut off -/
theorem rdX_cut {q : Nat} {r : List Nat} (hr : r.length ≤ 4194304) {k : Nat} (hk : k < 18 + r.length) : rdX ((frN q r).take k) = 2 := by
  have hlen : ((frN q r).take k).length = k := by rw [List.length_take, frN_length]; omega
  unfold rdX
  rw [hlen]
  by_cases h1 : k < 2
  · rw [if_pos h1]
  rw [if_neg h1]
  have ht : ((frN q r).take k).take 2 = [79, 74] := by
    rw [List.take_take, Nat.min_eq_left (by omega)]; rfl
  rw [if_neg (by rw [ht]; exact fun h => h rfl)]
  by_cases h2 : k < 18
  · rw [if_pos h2]
  rw [if_neg h2]
  have hn : pN ((frN q r).take k) = r.length := by
    unfold pN
    rw [List.drop_take, List.take_take, Nat.min_eq_left (by omega)]
    have e : (frN q r).drop 2 = fx 4 r.length ++ (fx 8 q ++ (fx 4 (smN q r) ++ r)) := by simp [frN, hdN, List.append_assoc]
    rw [e, List.take_left' (fx_length 4 r.length), un_fx4 (by omega)]
  rw [hn, if_neg (by omega), if_pos hk]

/-- what does not begin with the mark -/
theorem take_head {l : List Nat} (h3 : l.take 2 = [79, 74]) : l.head? = some 79 := by
  cases l with
  | nil => cases h3
  | cons a m => rw [List.take_succ_cons] at h3; rw [List.head?_cons, (List.cons.inj h3).1]
theorem rdX_other {l : List Nat} (h : l.head? ≠ some 79) : rdX l ≠ 0 := fun h0 => h (take_head (rdX_zero h0).2.2.1)

/-- the records of the frames, and their bytes -/
def scL : Nat → List Nat → Nat → List (List Nat) × Nat
  | 0, _, _ => ([], 0)
  | f + 1, l, q => if rdX l = 0 ∧ pQ l = q then (pR l :: (scL f (l.drop (18 + pN l)) ((q + 1) % 18446744073709551616)).1, 18 + pN l + (scL f (l.drop (18 + pN l)) ((q + 1) % 18446744073709551616)).2) else ([], 0)
theorem rdX_nil : rdX [] = 2 := rfl
theorem scL_fuel : ∀ (f g : Nat) (l : List Nat) (q : Nat), l.length ≤ f → l.length ≤ g → scL f l q = scL g l q
  | 0, 0, _, _, _, _ => rfl
  | 0, g + 1, l, q, hf, _ => by
    obtain rfl : l = [] := List.length_eq_zero_iff.1 (by omega)
    unfold scL
    rw [if_neg (fun h => by have := h.1; rw [rdX_nil] at this; cases this)]
  | f + 1, 0, l, q, _, hg => by
    obtain rfl : l = [] := List.length_eq_zero_iff.1 (by omega)
    unfold scL
    rw [if_neg (fun h => by have := h.1; rw [rdX_nil] at this; cases this)]
  | f + 1, g + 1, l, q, hf, hg => by
    unfold scL
    have hd : (l.drop (18 + pN l)).length = l.length - (18 + pN l) := List.length_drop ..
    rw [scL_fuel f g _ _ (by omega) (by omega)]
def scanN (l : List Nat) (q : Nat) : List (List Nat) × Nat := scL l.length l q
theorem scan_stop {l : List Nat} {q : Nat} (h : ¬ (rdX l = 0 ∧ pQ l = q)) : scanN l q = ([], 0) := by
  unfold scanN
  cases l.length with
  | zero => rfl
  | succ f => unfold scL; rw [if_neg h]
theorem scan_step {l : List Nat} {q : Nat} (h : rdX l = 0 ∧ pQ l = q) :
    scanN l q = (pR l :: (scanN (l.drop (18 + pN l)) ((q + 1) % 18446744073709551616)).1, 18 + pN l + (scanN (l.drop (18 + pN l)) ((q + 1) % 18446744073709551616)).2) := by
  have hz := rdX_zero h.1
  obtain ⟨f, hf⟩ : ∃ f, l.length = f + 1 := ⟨l.length - 1, by omega⟩
  unfold scanN
  rw [hf, scL, if_pos h]
  have hd : (l.drop (18 + pN l)).length = l.length - (18 + pN l) := List.length_drop ..
  rw [scL_fuel f (l.drop (18 + pN l)).length _ _ (by omega) (Nat.le_refl _)]
/-- a frame with the number asked for goes ahead -/
theorem scan_frame {q : Nat} {r t : List Nat} (hq : q < 18446744073709551616) (hr : r.length ≤ 4194304) :
    scanN (frN q r ++ t) q = (r :: (scanN t ((q + 1) % 18446744073709551616)).1, 18 + r.length + (scanN t ((q + 1) % 18446744073709551616)).2) := by
  obtain ⟨h1, h2, h3, h4⟩ := rdX_frame (t := t) hq hr
  rw [scan_step ⟨h1, h2⟩, h3, h4]
  have e : (frN q r ++ t).drop (18 + r.length) = t := by rw [← frN_length q r, List.drop_left]
  rw [e]
theorem scan_le : ∀ (f : Nat) (l : List Nat) (q : Nat), (scL f l q).2 ≤ l.length ∧ (scL f l q).1.length ≤ l.length
  | 0, _, _ => by simp [scL]
  | f + 1, l, q => by
    unfold scL
    split
    · rename_i h
      have hz := rdX_zero h.1
      have hd : (l.drop (18 + pN l)).length = l.length - (18 + pN l) := List.length_drop ..
      have ih := scan_le f (l.drop (18 + pN l)) ((q + 1) % 18446744073709551616)
      simp only [List.length_cons]
      omega
    · simp
end Go.Proofs.YtdhbeeeofaheeaaDoor
