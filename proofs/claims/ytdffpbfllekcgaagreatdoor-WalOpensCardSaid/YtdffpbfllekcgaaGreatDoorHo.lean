/- CrcE, FrameM, WalA, WalN, in one text. -/
import Derived.Test.YtdffpbfllekcgaaGreatDoorHd
import Derived.Test.YtdffpbfllekcgaaGreatDoorHn
namespace Go.Proofs.YtdffpbfllekcgaaGreatDoor
set_option maxRecDepth 100000
open Go.RowKit M

theorem bit_math32 {v k : Nat} (hv : v < 4294967296) : (bits BinOp.and IntKind.u32 ((v : Int) / 2 ^ k) 1 == 1) = decide (v / 2 ^ k % 2 = 1) := by
  rw [ipow, ← Int.natCast_ediv, and32_1 (Nat.lt_of_le_of_lt (Nat.div_le_self _ _) hv), Bool.eq_iff_iff]
  simp only [beq_iff_eq, decide_eq_true_eq]; omega

end Go.Proofs.YtdffpbfllekcgaaGreatDoor
namespace Go.Proofs.YtdffpbfllekcgaaGreatDoor
set_option maxRecDepth 100000
open M

/-- the length and the number of a record -/
def hdN (q n : Nat) : List Nat := fx 4 n ++ fx 8 q
/-- its checksum -/
def smN (q : Nat) (r : List Nat) : Nat := ofN (hdN q r.length ++ r)
/-- its frame -/
def frN (q : Nat) (r : List Nat) : List Nat := 79 :: 74 :: (hdN q r.length ++ (fx 4 (smN q r) ++ r))

theorem hdN_length (q n : Nat) : (hdN q n).length = 12 := by simp [hdN, fx_length]
theorem hdN_lt (q n : Nat) : ∀ d ∈ hdN q n, d < 2 ^ 8 := fun d hd => by
  rcases List.mem_append.1 hd with h | h
  · exact fx_lt _ _ d h
  · exact fx_lt _ _ d h
theorem smN_lt (q : Nat) (r : List Nat) : smN q r < 4294967296 := more_lt _ _
theorem frN_length (q : Nat) (r : List Nat) : (frN q r).length = 18 + r.length := by simp [frN, hdN_length, fx_length]; omega
theorem frN_lt {q : Nat} {r : List Nat} (hr : ∀ d ∈ r, d < 2 ^ 8) : ∀ d ∈ frN q r, d < 2 ^ 8 := fun d hd => by
  simp only [frN, List.mem_cons, List.mem_append] at hd
  rcases hd with rfl | rfl | h | h | h
  · decide
  · decide
  · exact hdN_lt _ _ d h
  · exact fx_lt _ _ d h
  · exact hr d h

/-- what a frame says: the length, the number, the sum, the record -/
def pN (l : List Nat) : Nat := un ((l.drop 2).take 4)
def pQ (l : List Nat) : Nat := un ((l.drop 6).take 8)
def pW (l : List Nat) : Nat := un ((l.drop 14).take 4)
def pR (l : List Nat) : List Nat := (l.drop 18).take (pN l)
/-- the error -/
def rdX (l : List Nat) : Nat :=
  if l.length < 2 then 2 else if l.take 2 ≠ [79, 74] then 3 else if l.length < 18 then 2 else if 4194304 < pN l then 12 else if l.length < 18 + pN l then 2
  else if smN (pQ l) (pR l) ≠ pW l then 4 else 0

theorem rdX_zero {l : List Nat} (h : rdX l = 0) : 18 + pN l ≤ l.length ∧ pN l ≤ 4194304 ∧ l.take 2 = [79, 74] ∧ smN (pQ l) (pR l) = pW l := by
  unfold rdX at h
  split at h; · cases h
  split at h; · cases h
  split at h; · cases h
  split at h; · cases h
  split at h; · cases h
  split at h; · cases h
  rename_i h1 h2 h3 h4 h5 h6
  exact ⟨by omega, by omega, by simpa using h2, by simpa using h6⟩

/-- a frame by its parts -/
theorem rdX_parts {a b c d t : List Nat} (ha : a.length = 4) (hb : b.length = 8) (hc : c.length = 4) (hd : d.length = un a) (hm : un a ≤ 4194304) :
    pN (79 :: 74 :: (a ++ (b ++ (c ++ (d ++ t))))) = un a ∧ pQ (79 :: 74 :: (a ++ (b ++ (c ++ (d ++ t))))) = un b ∧ pR (79 :: 74 :: (a ++ (b ++ (c ++ (d ++ t))))) = d ∧
      rdX (79 :: 74 :: (a ++ (b ++ (c ++ (d ++ t))))) = if smN (un b) d = un c then 0 else 4 := by
  obtain ⟨l, hl⟩ : ∃ l, l = 79 :: 74 :: (a ++ (b ++ (c ++ (d ++ t)))) := ⟨_, rfl⟩
  have e2 : l.drop 2 = a ++ (b ++ (c ++ (d ++ t))) := by rw [hl]; rfl
  have e6 : l.drop 6 = b ++ (c ++ (d ++ t)) := by rw [show (6 : Nat) = 2 + 4 by rfl, ← List.drop_drop, e2, ← ha, List.drop_left]
  have e14 : l.drop 14 = c ++ (d ++ t) := by rw [show (14 : Nat) = 6 + 8 by rfl, ← List.drop_drop, e6, ← hb, List.drop_left]
  have e18 : l.drop 18 = d ++ t := by rw [show (18 : Nat) = 14 + 4 by rfl, ← List.drop_drop, e14, ← hc, List.drop_left]
  have f1 : pN l = un a := by unfold pN; rw [e2, ← ha, List.take_left]
  have f2 : pQ l = un b := by unfold pQ; rw [e6, ← hb, List.take_left]
  have f3 : pW l = un c := by unfold pW; rw [e14, ← hc, List.take_left]
  have f4 : pR l = d := by unfold pR; rw [e18, f1, ← hd, List.take_left]
  have hlen : l.length = 18 + d.length + t.length := by rw [hl]; simp only [List.length_cons, List.length_append]; omega
  have ht : l.take 2 = [79, 74] := by rw [hl]; rfl
  rw [← hl]
  refine ⟨f1, f2, f4, ?_⟩
  unfold rdX
  rw [if_neg (by omega), if_neg (by rw [ht]; exact fun h => h rfl), if_neg (by omega), f1, if_neg (by omega), if_neg (by omega), f2, f4, f3]
  by_cases h : smN (un b) d = un c
  · rw [if_neg (fun hh => hh h), if_pos h]
  · rw [if_pos h, if_neg h]

theorem un_fx4 {v : Nat} (h : v < 4294967296) : un (fx 4 v) = v := by rw [un_fx]; exact Nat.mod_eq_of_lt h
theorem un_fx8 {v : Nat} (h : v < 18446744073709551616) : un (fx 8 v) = v := by rw [un_fx]; exact Nat.mod_eq_of_lt h
theorem frN_parts (q : Nat) (r t : List Nat) : frN q r ++ t = 79 :: 74 :: (fx 4 r.length ++ (fx 8 q ++ (fx 4 (smN q r) ++ (r ++ t)))) := by
  simp [frN, hdN, List.append_assoc]

/-- a frame is read -/
theorem rdX_frame {q : Nat} {r t : List Nat} (hq : q < 18446744073709551616) (hr : r.length ≤ 4194304) :
    rdX (frN q r ++ t) = 0 ∧ pQ (frN q r ++ t) = q ∧ pR (frN q r ++ t) = r ∧ pN (frN q r ++ t) = r.length := by
  rw [frN_parts]
  have u := un_fx4 (v := r.length) (by omega)
  obtain ⟨h1, h2, h3, h4⟩ := rdX_parts (t := t) (fx_length 4 r.length) (fx_length 8 q) (fx_length 4 (smN q r)) (d := r) u.symm (by rw [u]; exact hr)
  rw [un_fx8 hq, un_fx4 (smN_lt q r), if_pos rfl] at h4
  exact ⟨h4, by rw [h2, un_fx8 hq], h3, by rw [h1, u]⟩

/-- a frame that is cut off -/
theorem rdX_cut {q : Nat} {r : List Nat} (hr : r.length ≤ 4194304) {k : Nat} (hk : k < 18 + r.length) : rdX ((frN q r).take k) = 2 := by
  have hlen : ((frN q r).take k).length = k := by rw [List.length_take, frN_length]; omega
  unfold rdX
  rw [hlen]
  by_cases h1 : k < 2
  · rw [if_pos h1]
  rw [if_neg h1]
  have ht : ((frN q r).take k).take 2 = [79, 74] := by
    rw [List.take_take, Nat.min_eq_left (by omega)]; rfl
  rw [if_neg (by rw [ht]; exact fun h => h rfl)]
  by_cases h2 : k < 18
  · rw [if_pos h2]
  rw [if_neg h2]
  have hn : pN ((frN q r).take k) = r.length := by
    unfold pN
    rw [List.drop_take, List.take_take, Nat.min_eq_left (by omega)]
    have e : (frN q r).drop 2 = fx 4 r.length ++ (fx 8 q ++ (fx 4 (smN q r) ++ r)) := by simp [frN, hdN, List.append_assoc]
    rw [e, List.take_left' (fx_length 4 r.length), un_fx4 (by omega)]
  rw [hn, if_neg (by omega), if_pos hk]

/-- what does not begin with the mark -/
theorem take_head {l : List Nat} (h3 : l.take 2 = [79, 74]) : l.head? = some 79 := by
  cases l with
  | nil => cases h3
  | cons a m => rw [List.take_succ_cons] at h3; rw [List.head?_cons, (List.cons.inj h3).1]
theorem rdX_other {l : List Nat} (h : l.head? ≠ some 79) : rdX l ≠ 0 := fun h0 => h (take_head (rdX_zero h0).2.2.1)

/-- the records of the frames, and their bytes -/
def scL : Nat → List Nat → Nat → List (List Nat) × Nat
  | 0, _, _ => ([], 0)
  | f + 1, l, q => if rdX l = 0 ∧ pQ l = q then (pR l :: (scL f (l.drop (18 + pN l)) ((q + 1) % 18446744073709551616)).1, 18 + pN l + (scL f (l.drop (18 + pN l)) ((q + 1) % 18446744073709551616)).2) else ([], 0)
theorem rdX_nil : rdX [] = 2 := rfl
theorem scL_fuel : ∀ (f g : Nat) (l : List Nat) (q : Nat), l.length ≤ f → l.length ≤ g → scL f l q = scL g l q
  | 0, 0, _, _, _, _ => rfl
  | 0, g + 1, l, q, hf, _ => by
    obtain rfl : l = [] := List.length_eq_zero_iff.1 (by omega)
    unfold scL
    rw [if_neg (fun h => by have := h.1; rw [rdX_nil] at this; cases this)]
  | f + 1, 0, l, q, _, hg => by
    obtain rfl : l = [] := List.length_eq_zero_iff.1 (by omega)
    unfold scL
    rw [if_neg (fun h => by have := h.1; rw [rdX_nil] at this; cases this)]
  | f + 1, g + 1, l, q, hf, hg => by
    unfold scL
    have hd : (l.drop (18 + pN l)).length = l.length - (18 + pN l) := List.length_drop ..
    rw [scL_fuel f g _ _ (by omega) (by omega)]
def scanN (l : List Nat) (q : Nat) : List (List Nat) × Nat := scL l.length l q
theorem scan_stop {l : List Nat} {q : Nat} (h : ¬ (rdX l = 0 ∧ pQ l = q)) : scanN l q = ([], 0) := by
  unfold scanN
  cases l.length with
  | zero => rfl
  | succ f => unfold scL; rw [if_neg h]
theorem scan_step {l : List Nat} {q : Nat} (h : rdX l = 0 ∧ pQ l = q) :
    scanN l q = (pR l :: (scanN (l.drop (18 + pN l)) ((q + 1) % 18446744073709551616)).1, 18 + pN l + (scanN (l.drop (18 + pN l)) ((q + 1) % 18446744073709551616)).2) := by
  have hz := rdX_zero h.1
  obtain ⟨f, hf⟩ : ∃ f, l.length = f + 1 := ⟨l.length - 1, by omega⟩
  unfold scanN
  rw [hf, scL, if_pos h]
  have hd : (l.drop (18 + pN l)).length = l.length - (18 + pN l) := List.length_drop ..
  rw [scL_fuel f (l.drop (18 + pN l)).length _ _ (by omega) (Nat.le_refl _)]
/-- a frame with the number asked for goes ahead -/
theorem scan_frame {q : Nat} {r t : List Nat} (hq : q < 18446744073709551616) (hr : r.length ≤ 4194304) :
    scanN (frN q r ++ t) q = (r :: (scanN t ((q + 1) % 18446744073709551616)).1, 18 + r.length + (scanN t ((q + 1) % 18446744073709551616)).2) := by
  obtain ⟨h1, h2, h3, h4⟩ := rdX_frame (t := t) hq hr
  rw [scan_step ⟨h1, h2⟩, h3, h4]
  have e : (frN q r ++ t).drop (18 + r.length) = t := by rw [← frN_length q r, List.drop_left]
  rw [e]
theorem scan_le : ∀ (f : Nat) (l : List Nat) (q : Nat), (scL f l q).2 ≤ l.length ∧ (scL f l q).1.length ≤ l.length
  | 0, _, _ => by simp [scL]
  | f + 1, l, q => by
    unfold scL
    split
    · rename_i h
      have hz := rdX_zero h.1
      have hd : (l.drop (18 + pN l)).length = l.length - (18 + pN l) := List.length_drop ..
      have ih := scan_le f (l.drop (18 + pN l)) ((q + 1) % 18446744073709551616)
      simp only [List.length_cons]
      omega
    · simp
end Go.Proofs.YtdffpbfllekcgaaGreatDoor
namespace Go.Proofs.YtdffpbfllekcgaaGreatDoor
set_option maxRecDepth 100000
open M

def frs : Nat → List (List Nat) → List Nat
  | _, [] => []
  | q, r :: rs => frN q r ++ frs (q + 1) rs
theorem frs_cons (q : Nat) (r : List Nat) (rs : List (List Nat)) : frs q (r :: rs) = frN q r ++ frs (q + 1) rs := rfl
theorem frs_nil (q : Nat) : frs q [] = [] := rfl
/-- records as the laws make them -/
def Small (rs : List (List Nat)) : Prop := ∀ r ∈ rs, r.length ≤ 60 ∧ ∀ d ∈ r, d < 2 ^ 8
def bigQ : Nat := 1000000000

theorem Small.nil : Small [] := fun _ h => nomatch h
theorem Small.take {rs : List (List Nat)} (h : Small rs) (k : Nat) : Small (rs.take k) := fun r hr => h r (List.mem_of_mem_take hr)
theorem Small.drop {rs : List (List Nat)} (h : Small rs) (k : Nat) : Small (rs.drop k) := fun r hr => h r (List.mem_of_mem_drop hr)
theorem Small.append {a b : List (List Nat)} (h : Small a) (k : Small b) : Small (a ++ b) := fun r hr => by
  rcases List.mem_append.1 hr with hr | hr
  · exact h r hr
  · exact k r hr
theorem Small.left {a b : List (List Nat)} (h : Small (a ++ b)) : Small a := fun r hr => h r (List.mem_append.2 (.inl hr))
theorem Small.right {a b : List (List Nat)} (h : Small (a ++ b)) : Small b := fun r hr => h r (List.mem_append.2 (.inr hr))
theorem Small.one {r : List Nat} (h : r.length ≤ 60 ∧ ∀ d ∈ r, d < 2 ^ 8) : Small [r] := fun x hx => by
  rw [List.mem_singleton] at hx; rw [hx]; exact h

theorem frs_append (a : List (List Nat)) : ∀ (q : Nat) (b : List (List Nat)), frs q (a ++ b) = frs q a ++ frs (q + a.length) b := by
  induction a with
  | nil => intro q b; simp [frs]
  | cons r a ih =>
    intro q b
    rw [List.cons_append, frs_cons, frs_cons, ih, List.append_assoc, List.length_cons, show q + 1 + a.length = q + (a.length + 1) by omega]
theorem frs_le (rs : List (List Nat)) : ∀ (q : Nat), Small rs → (frs q rs).length ≤ 78 * rs.length := by
  induction rs with
  | nil => intro q _; simp [frs]
  | cons r rs ih =>
    intro q h
    have a := (h r List.mem_cons_self).1
    have b := ih (q + 1) (fun x hx => h x (List.mem_cons_of_mem _ hx))
    rw [frs_cons, List.length_append, frN_length, List.length_cons]
    omega
theorem frs_lt (rs : List (List Nat)) : ∀ (q : Nat), Small rs → ∀ d ∈ frs q rs, d < 2 ^ 8 := by
  induction rs with
  | nil => intro q _ d hd; exact nomatch hd
  | cons r rs ih =>
    intro q h d hd
    rw [frs_cons] at hd
    rcases List.mem_append.1 hd with hd | hd
    · exact frN_lt (h r List.mem_cons_self).2 d hd
    · exact ih (q + 1) (fun x hx => h x (List.mem_cons_of_mem _ hx)) d hd
theorem frs_snoc (q : Nat) (rs : List (List Nat)) (r : List Nat) : frs q (rs ++ [r]) = frs q rs ++ frN (q + rs.length) r := by
  rw [frs_append]; simp [frs]
theorem frs_take_le (rs : List (List Nat)) (q i j : Nat) (h : i ≤ j) : (frs q (rs.take i)).length ≤ (frs q (rs.take j)).length := by
  have e : rs.take j = rs.take i ++ (rs.take j).drop i := by
    have := (List.take_append_drop i (rs.take j)).symm
    rw [List.take_take, Nat.min_eq_left h] at this
    exact this
  rw [e, frs_append, List.length_append]
  omega

/-- nothing is read of it, nor of a beginning of it -/
def Stop (t : List Nat) (q : Nat) : Prop := ∀ k, (scanN (t.take k) q).1 = []
theorem Stop.nil (q : Nat) : Stop [] q := fun k => by
  rw [List.take_nil, scan_stop (fun h => by have := h.1; rw [rdX_nil] at this; cases this)]
theorem Stop.take {t : List Nat} {q : Nat} (h : Stop t q) (k : Nat) : Stop (t.take k) q := fun i => by
  rw [List.take_take]; exact h _
theorem Stop.scan {t : List Nat} {q : Nat} (h : Stop t q) : (scanN t q).1 = [] := by
  have := h t.length
  rwa [List.take_length] at this
theorem Stop.torn {q : Nat} {r : List Nat} (hr : r.length ≤ 60) {k : Nat} (hk : k < 18 + r.length) (q' : Nat) : Stop ((frN q r).take k) q' := fun i => by
  rw [List.take_take, scan_stop]
  intro h
  have := h.1
  rw [rdX_cut (by omega) (by omega)] at this
  cases this

/-- a file that begins with these records, and nothing else -/
def HoldsR (d : List Nat) (q : Nat) (rs : List (List Nat)) : Prop := ∃ t, d = frs q rs ++ t ∧ Stop t (q + rs.length) ∧ ∀ x ∈ t, x < 2 ^ 8
theorem HoldsR.lt {d : List Nat} {q : Nat} {rs : List (List Nat)} (h : HoldsR d q rs) (hs : Small rs) : ∀ x ∈ d, x < 2 ^ 8 := by
  obtain ⟨t, rfl, _, ht⟩ := h
  intro x hx
  rcases List.mem_append.1 hx with hx | hx
  · exact frs_lt rs q hs x hx
  · exact ht x hx
theorem scan_frs (rs : List (List Nat)) : ∀ (q : Nat) (t : List Nat), Small rs → q + rs.length ≤ bigQ → (scanN (frs q rs ++ t) q).1 = rs ++ (scanN t (q + rs.length)).1 := by
  induction rs with
  | nil => intro q t _ _; simp [frs]
  | cons r rs ih =>
    intro q t h hq
    have a := (h r List.mem_cons_self).1
    rw [List.length_cons] at hq
    unfold bigQ at hq ih
    rw [frs_cons, List.append_assoc, scan_frame (by omega) (by omega)]
    show r :: (scanN (frs (q + 1) rs ++ t) ((q + 1) % 18446744073709551616)).1 = _
    rw [Nat.mod_eq_of_lt (by omega), ih (q + 1) t (fun x hx => h x (List.mem_cons_of_mem _ hx)) (by omega), List.length_cons, show q + 1 + rs.length = q + (rs.length + 1) by omega]
    rfl
theorem HoldsR.scan {d : List Nat} {q : Nat} {rs : List (List Nat)} (h : HoldsR d q rs) (hs : Small rs) (hq : q + rs.length ≤ bigQ) : (scanN d q).1 = rs := by
  obtain ⟨t, rfl, st, _⟩ := h
  rw [scan_frs rs q t hs hq, st.scan, List.append_nil]
theorem HoldsR.exact' {d : List Nat} {q : Nat} {rs : List (List Nat)} (h : d = frs q rs) : HoldsR d q rs := ⟨[], by rw [h, List.append_nil], Stop.nil _, fun _ hx => nomatch hx⟩
/-- what a crash leaves of it: a beginning of the records, with those that were safe -/
theorem HoldsR.take (rs : List (List Nat)) : ∀ (d : List Nat) (q k : Nat), HoldsR d q rs → Small rs → ∃ j, j ≤ rs.length ∧ HoldsR (d.take k) q (rs.take j) ∧ ∀ s, s ≤ rs.length → (frs q (rs.take s)).length ≤ k → s ≤ j := by
  induction rs with
  | nil =>
    intro d q k h _
    obtain ⟨t, rfl, st, ht⟩ := h
    exact ⟨0, Nat.le_refl _, ⟨d.take k, by rw [List.take_nil, frs_nil, List.nil_append], by rw [List.take_nil]; exact st.take k, fun x hx => ht x (List.mem_of_mem_take hx)⟩, fun s hs _ => hs⟩
  | cons r rs ih =>
    intro d q k h hs
    obtain ⟨t, rfl, st, ht⟩ := h
    have hr := hs r List.mem_cons_self
    have hs' : Small rs := fun x hx => hs x (List.mem_cons_of_mem _ hx)
    have hd : frs q (r :: rs) ++ t = frN q r ++ (frs (q + 1) rs ++ t) := by rw [frs_cons, List.append_assoc]
    have hl : (frN q r).length = 18 + r.length := frN_length q r
    rw [hd]
    rcases Nat.lt_or_ge k (18 + r.length) with hk | hk
    · refine ⟨0, Nat.zero_le _, ⟨(frN q r).take k, ?_, ?_, fun x hx => frN_lt hr.2 x (List.mem_of_mem_take hx)⟩, fun s _ hf => ?_⟩
      · rw [List.take_append_of_le_length (by omega)]; simp [frs]
      · exact Stop.torn hr.1 hk _
      · cases s with
        | zero => exact Nat.le_refl _
        | succ s =>
          rw [List.take_succ_cons] at hf
          rw [frs_cons, List.length_append, hl] at hf
          omega
    · have h' : HoldsR (frs (q + 1) rs ++ t) (q + 1) rs := ⟨t, rfl, by rw [List.length_cons] at st; rwa [show q + 1 + rs.length = q + (rs.length + 1) by omega], ht⟩
      obtain ⟨j, hj, ⟨t', e', st', ht'⟩, hm⟩ := ih (frs (q + 1) rs ++ t) (q + 1) (k - (18 + r.length)) h' hs'
      refine ⟨j + 1, by rw [List.length_cons]; omega, ⟨t', ?_, ?_, ht'⟩, fun s hsl hf => ?_⟩
      · rw [List.take_append, List.take_of_length_le (by omega), hl, e', List.take_succ_cons, frs_cons, List.append_assoc]
      · have e : (List.take (j + 1) (r :: rs)).length = (rs.take j).length + 1 := by rw [List.take_succ_cons, List.length_cons]
        rw [e, show q + ((rs.take j).length + 1) = q + 1 + (rs.take j).length by omega]
        exact st'
      · cases s with
        | zero => exact Nat.zero_le _
        | succ s =>
          rw [List.take_succ_cons] at hf
          rw [frs_cons, List.length_append, hl] at hf
          rw [List.length_cons] at hsl
          have := hm s (by omega) (by omega)
          omega
end Go.Proofs.YtdffpbfllekcgaaGreatDoor
namespace Go.Proofs.YtdffpbfllekcgaaGreatDoor
set_option maxRecDepth 100000
open M

def wdig (d : Nat) : Nat := if d < 10 then 48 + d else 87 + d
def whex (q : Nat) : Nat → List Nat
  | 0 => []
  | k + 1 => wdig (q / 16 ^ k % 16) :: whex q k
def nameL (q : Nat) : List Nat := 119 :: 97 :: 108 :: 45 :: whex q 16
def nameM (q : Nat) : ByteArray := bs (nameL q)

theorem wdig_lt {d : Nat} (h : d < 16) : wdig d < 2 ^ 8 := by unfold wdig; split <;> omega
theorem wdig_rise {a b : Nat} (h : a < b) (hb : b < 16) : wdig a < wdig b := by unfold wdig; split <;> split <;> omega
theorem whex_length (q : Nat) : ∀ k, (whex q k).length = k
  | 0 => rfl
  | k + 1 => by unfold whex; rw [List.length_cons, whex_length q k]
theorem whex_lt (q : Nat) : ∀ k, ∀ d ∈ whex q k, d < 2 ^ 8
  | 0, d, h => nomatch h
  | k + 1, d, h => by
    unfold whex at h
    rcases List.mem_cons.1 h with rfl | h
    · exact wdig_lt (Nat.mod_lt _ (by decide))
    · exact whex_lt q k d h
theorem nameL_length (q : Nat) : (nameL q).length = 20 := by unfold nameL; simp [whex_length]
theorem nameL_lt (q : Nat) : ∀ d ∈ nameL q, d < 2 ^ 8 := fun d hd => by
  unfold nameL at hd
  simp only [List.mem_cons] at hd
  rcases hd with rfl | rfl | rfl | rfl | h
  · decide
  · decide
  · decide
  · decide
  · exact whex_lt q 16 d h
theorem nameM_size (q : Nat) : (nameM q).size = 20 := by unfold nameM; rw [bs_size, nameL_length]

/-- which of two lists is less, as strings are -/
def lexL : List Nat → List Nat → Bool
  | [], [] => false
  | [], _ :: _ => true
  | _ :: _, [] => false
  | a :: l, b :: m => decide (a < b) || (a == b && lexL l m)
theorem whex_mod (q : Nat) : ∀ k j, k ≤ j → whex (q % 16 ^ j) k = whex q k
  | 0, _, _ => rfl
  | k + 1, j, h => by
    unfold whex
    rw [whex_mod q k j (by omega)]
    congr 2
    obtain ⟨i, rfl⟩ : ∃ i, j = k + 1 + i := ⟨j - (k + 1), by omega⟩
    rw [show 16 ^ (k + 1 + i) = 16 ^ k * (16 * 16 ^ i) by rw [Nat.pow_add, Nat.pow_succ, Nat.mul_assoc], Nat.mod_mul_right_div_self, Nat.mod_mul_right_mod]
theorem whex_rise : ∀ (k q p : Nat), q < p → p < 16 ^ k → lexL (whex q k) (whex p k) = true
  | 0, q, p, h, hp => by simp at hp; omega
  | k + 1, q, p, h, hp => by
    unfold whex lexL
    have pos : 0 < 16 ^ k := Nat.pow_pos (by decide)
    have a1 := Nat.div_add_mod q (16 ^ k)
    have a2 := Nat.div_add_mod p (16 ^ k)
    have m1 := Nat.mod_lt q pos
    have m2 := Nat.mod_lt p pos
    have d2 : p / 16 ^ k < 16 := Nat.div_lt_of_lt_mul (by rw [Nat.pow_succ] at hp; exact hp)
    have le : q / 16 ^ k ≤ p / 16 ^ k := Nat.div_le_div_right (Nat.le_of_lt h)
    rw [Nat.mod_eq_of_lt d2, Nat.mod_eq_of_lt (Nat.lt_of_le_of_lt le d2)]
    rcases Nat.lt_or_ge (q / 16 ^ k) (p / 16 ^ k) with hl | hg
    · rw [decide_eq_true (wdig_rise hl d2)]; rfl
    · have e : q / 16 ^ k = p / 16 ^ k := Nat.le_antisymm le hg
      rw [e]
      have := whex_rise k (q % 16 ^ k) (p % 16 ^ k) (by rw [e] at a1; omega) m2
      rw [whex_mod q k k (Nat.le_refl _), whex_mod p k k (Nat.le_refl _)] at this
      rw [this]; simp
theorem lexL_irr : ∀ l, lexL l l = false
  | [] => rfl
  | a :: l => by unfold lexL; rw [lexL_irr l]; simp
theorem nameL_rise {q p : Nat} (h : q < p) (hp : p < 18446744073709551616) : lexL (nameL q) (nameL p) = true := by
  have := whex_rise 16 q p h (by rw [show (16 : Nat) ^ 16 = 18446744073709551616 by decide]; exact hp)
  unfold nameL
  simp only [lexL, this]
  decide
theorem nameM_inj {q p : Nat} (hq : q < 18446744073709551616) (hp : p < 18446744073709551616) (h : nameM q = nameM p) : q = p := by
  have e : nameL q = nameL p := by
    have := congrArg sb h
    unfold nameM at this
    rwa [sb_bs _ (nameL_lt q), sb_bs _ (nameL_lt p)] at this
  rcases Nat.lt_trichotomy q p with hl | he | hg
  · have := nameL_rise hl hp; rw [e, lexL_irr] at this; cases this
  · exact he
  · have := nameL_rise hg hq; rw [e, lexL_irr] at this; cases this
end Go.Proofs.YtdffpbfllekcgaaGreatDoor
