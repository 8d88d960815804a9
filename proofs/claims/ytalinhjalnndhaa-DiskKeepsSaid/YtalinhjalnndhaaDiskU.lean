/- What a disk holds, reckoned: for closed states. -/
import Derived.Test.YtalinhjalnndhaaDiskT
namespace Go.Proofs.Ytalinhjalnndhaa
set_option maxRecDepth 100000
open Go.RowKit M

def insN (x : Nat) : List Nat → List Nat
  | [] => [x]
  | y :: l => if x ≤ y then x :: y :: l else y :: insN x l
def isort : List Nat → List Nat
  | [] => []
  | x :: l => insN x (isort l)
theorem insN_perm (x : Nat) (l : List Nat) : (insN x l).Perm (x :: l) := by
  induction l with
  | nil => exact List.Perm.refl _
  | cons y l ih =>
    unfold insN
    split
    · exact List.Perm.refl _
    · exact (List.Perm.cons y ih).trans (List.Perm.swap x y l)
theorem isort_perm (l : List Nat) : (isort l).Perm l := by
  induction l with
  | nil => exact List.Perm.refl _
  | cons x l ih => exact (insN_perm x _).trans (List.Perm.cons x ih)
theorem insN_sorted (x : Nat) (l : List Nat) (h : l.Pairwise (fun a b => a ≤ b)) : (insN x l).Pairwise (fun a b => a ≤ b) := by
  induction l with
  | nil => simp [insN]
  | cons y l ih =>
    obtain ⟨h1, h2⟩ := List.pairwise_cons.1 h
    unfold insN
    split
    · rename_i hxy
      exact List.pairwise_cons.2 ⟨fun a ha => by
        rcases List.mem_cons.1 ha with rfl | ha
        · exact hxy
        · exact Nat.le_trans hxy (h1 a ha), h⟩
    · rename_i hxy
      refine List.pairwise_cons.2 ⟨fun a ha => ?_, ih h2⟩
      rcases List.mem_cons.1 ((insN_perm x l).mem_iff.1 ha) with rfl | ha
      · omega
      · exact h1 a ha
theorem isort_sorted (l : List Nat) : (isort l).Pairwise (fun a b => a ≤ b) := by
  induction l with
  | nil => exact List.Pairwise.nil
  | cons x l ih => exact insN_sorted x _ ih
theorem oldest_eq (l : KL) : oldest l = isort (l.map (·.2)) := by
  refine List.Perm.eq_of_pairwise (le := fun a b => a ≤ b) (fun a b _ _ h1 h2 => Nat.le_antisymm h1 h2) ?_ (isort_sorted _) ?_
  · have := List.pairwise_mergeSort (le := fun a b : Nat => decide (a ≤ b)) (fun a b c h1 h2 => by simp at *; omega) (fun a b => by simp; omega) (l.map (·.2))
    exact this.imp fun h => by simpa using h
  · exact (List.mergeSort_perm _ _).trans (isort_perm _).symm

def restartI (S : DS) (choice : List Int) : DS := { ((isort ((rest0 S choice).names.map (·.2))).foldl (cutStep choice) (1, rest0 S choice)).2 with crash := -1, fail := -1, dead := false }
theorem restartI_eq (S : DS) (choice : List Int) : restartS S choice = restartI S choice := by
  rw [restart_eq, oldest_eq]; rfl

def bigK : Nat := 1099511627776
def fineB (S : DS) : Bool :=
  decide (S.made ≤ bigK) && decide (0 ≤ S.room) && decide (S.room ≤ 9223372036854775807) && decide (0 ≤ S.used) && decide (S.used ≤ 1099511627776) &&
  decide (-1 ≤ S.crash) && decide (S.crash ≤ 9223372036854775807) && decide (-1 ≤ S.fail) && decide (S.fail ≤ 9223372036854775807) && decide (S.calls ≤ bigK) &&
  decide (S.chg.length ≤ bigK) && decide (S.names.length ≤ bigK) && decide (S.safe.length ≤ bigK) && ((List.range (S.made + 1)).all fun n => decide ((S.file n).data.length ≤ bigK)) &&
  (S.names.all fun p => decide (1 ≤ p.2) && decide (p.2 ≤ S.made)) && (S.safe.all fun p => decide (1 ≤ p.2) && decide (p.2 ≤ S.made)) &&
  (S.chg.all fun c => decide (1 ≤ c.file) && decide (c.file ≤ S.made) && (match c.over with | some g => decide (1 ≤ g) && decide (g ≤ S.made) | none => true) && decide (c.src.size ≤ bigK) && decide (c.dst.size ≤ bigK))
theorem Fine.of {S : DS} (h : fineB S = true) : Fine S := by
  unfold fineB at h
  simp only [Bool.and_eq_true, decide_eq_true_eq, List.all_eq_true] at h
  obtain ⟨⟨⟨⟨⟨⟨⟨⟨⟨⟨⟨⟨⟨⟨⟨⟨a1, a2⟩, a3⟩, a4⟩, a5⟩, a6⟩, a7⟩, a8⟩, a9⟩, a10⟩, a11⟩, a12⟩, a13⟩, a14⟩, a15⟩, a16⟩, a17⟩ := h
  refine ⟨a1, a2, a3, a4, a5, a6, a7, a8, a9, a10, a11, a12, a13, fun n _ h2 => a14 n (List.mem_range.2 (by omega)), a15, a16, fun c hc => ?_⟩
  obtain ⟨⟨⟨⟨b1, b2⟩, b3⟩, b4⟩, b5⟩ := a17 c hc
  refine ⟨⟨b1, b2⟩, fun g hg => ?_, Nat.le_trans b4 (by unfold bigK maxLen; omega), Nat.le_trans b5 (by unfold bigK maxLen; omega)⟩
  rw [hg] at b3
  simpa using b3

def relB (S : DS) (n : Nat) : Bool := decide (S.used ≤ 1099511627776) && decide (-1099511627776 ≤ S.used - (S.file n).data.length) && decide ((S.file n).data.length ≤ bigK)
theorem RelOk.of {S : DS} {n : Nat} (h : relB S n = true) : RelOk S n := by
  unfold relB at h
  simp only [Bool.and_eq_true, decide_eq_true_eq] at h
  exact ⟨h.1.1, h.1.2, h.2⟩
def relsB (S : DS) : Bool := (List.range S.chg.length).all fun k => match S.chg[k]? with
  | some c => relB (relAll (beginS S) (S.chg.take k)) c.file && (match c.over with | some g => relB (relF (relAll (beginS S) (S.chg.take k)) c.file) g | none => true)
  | none => true
theorem RelsOk.of {S : DS} (h : relsB S = true) : RelsOk S := by
  intro k c hc
  unfold relsB at h
  rw [List.all_eq_true] at h
  have a := h k (List.mem_range.2 (List.getElem?_eq_some_iff.1 hc).1)
  rw [hc] at a
  simp only [Bool.and_eq_true] at a
  refine ⟨RelOk.of a.1, fun n hn => ?_⟩
  have b := a.2
  rw [hn] at b
  exact RelOk.of b

def restB (S : DS) (choice : List Int) : Bool :=
  decide ((rest0 S choice).names.length ≤ bigK) && ((rest0 S choice).names.all fun p => decide (1 ≤ p.2) && decide (p.2 ≤ S.made)) &&
  ((List.range (rest0 S choice).names.length).all fun k => match (isort ((rest0 S choice).names.map (·.2)))[k]? with
    | some n =>
      let q := ((isort ((rest0 S choice).names.map (·.2))).take k).foldl (cutStep choice) (1, rest0 S choice)
      decide (0 ≤ q.2.used) && decide (q.2.used ≤ 1099511627776) && decide ((q.2.file n).data.length ≤ bigK) && decide ((q.2.file n).safe ≤ bigK)
    | none => true)
theorem isort_length (l : List Nat) : (isort l).length = l.length := (isort_perm l).length_eq
theorem RestOk.of {S : DS} {choice : List Int} (h : restB S choice = true) : RestOk S choice := by
  unfold restB at h
  simp only [Bool.and_eq_true, decide_eq_true_eq, List.all_eq_true] at h
  obtain ⟨⟨a, b⟩, c⟩ := h
  refine ⟨a, b, fun k n hn => ?_⟩
  rw [oldest_eq] at hn ⊢
  have hk : k < (rest0 S choice).names.length := by
    have := (List.getElem?_eq_some_iff.1 hn).1
    rwa [isort_length, List.length_map] at this
  have d := c k (List.mem_range.2 hk)
  rw [hn] at d
  simp only [Bool.and_eq_true, decide_eq_true_eq] at d
  exact ⟨d.1.1.1, d.1.1.2, d.1.2, d.2⟩

def nmA : ByteArray := ⟨#[97]⟩
def nmB : ByteArray := ⟨#[98]⟩
def w0S : DS := newS 100
def w1S : DS := createS w0S nmA
def w2S : DS := appendS w1S nmA [120, 121]
def w3S : DS := syncNamesS w2S
def w4S : DS := restartI w3S [0, 1]
def w5S : DS := createS w4S nmB
def w6S : DS := restartI w5S []
theorem awake_facts : (fineB w0S && fineB w1S && fineB w2S && relsB w2S && fineB w3S && restB w3S [0, 1] && fineB w4S && fineB w5S && restB w5S [] && fineB w6S) = true := by rfl
theorem awake_codes : createC w0S nmA = 0 ∧ appendC w1S nmA [120, 121] = 0 ∧ syncNamesC w2S = 0 ∧ findC w4S nmA = 0 ∧ readD w4S nmA = [120] ∧ createC w4S nmB = 0 ∧ findC w6S nmB = 5 := ⟨by rfl, by rfl, by rfl, by rfl, by rfl, by rfl, by rfl⟩

end Go.Proofs.Ytalinhjalnndhaa
