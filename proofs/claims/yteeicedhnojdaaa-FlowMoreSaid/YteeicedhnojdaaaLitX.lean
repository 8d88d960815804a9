/- A good test's parts are good: mathematics. -/
import Derived.Test.YteeicedhnojdaaaLitR
namespace Go.Proofs.Yteeicedhnojdaaa
set_option maxRecDepth 100000
open Go.RowKit

theorem first0 (l : List Int) : firstNZ l = 0 ↔ ∀ x ∈ l, x = 0 := by
  induction l with
  | nil => simp [firstNZ]
  | cons x r ih =>
    rw [firstNZ]
    by_cases h : x = 0
    · rw [if_pos h, ih]; simp [h]
    · rw [if_neg h]; simp [h]
theorem chk0 (t : TestM) : chkTest t = 0 ↔ chkSizes t = 0 ∧ chkLocs none t.locs = 0 ∧ chkThr t.locs.length t.thr = 0 ∧ chkAsks t none t.asks = 0 := by
  unfold chkTest
  rw [first0]
  simp only [List.mem_cons, List.not_mem_nil, or_false, forall_eq_or_imp, forall_eq]
  omega
theorem thr0 (locs : Int) (t : List (List Ins)) : chkThr locs t = 0 ↔ ∀ l ∈ t, chkLine locs l = 0 := by
  induction t with
  | nil => simp [chkThr]
  | cons x r ih =>
    rw [chkThr]
    by_cases h : chkLine locs x = 0
    · rw [if_pos h, ih]; simp [h]
    · rw [if_neg h]; simp [h]
theorem line0 (locs : Int) (l : List Ins) : chkLine locs l = 0 ↔ ∀ (i : Nat) (x : Ins), l[i]? = some x → chkM x locs ((l.length : Int) - 1 - i) = 0 := by
  induction l with
  | nil => simp [chkLine]
  | cons y r ih =>
    rw [chkLine]
    have e0 : (((y :: r).length : Int) - 1 - ((0 : Nat) : Int)) = (r.length : Int) := by simp
    by_cases h : chkM y locs r.length = 0
    · rw [if_pos h, ih]
      constructor
      · intro hh i x hx
        cases i with
        | zero => simp at hx; subst hx; rw [e0]; exact h
        | succ i =>
          have := hh i x (by simpa using hx)
          rw [show ((y :: r).length : Int) - 1 - ((i + 1 : Nat) : Int) = (r.length : Int) - 1 - (i : Int) by simp; omega]
          exact this
      · intro hh i x hx
        have := hh (i + 1) x (by simpa using hx)
        rw [show ((y :: r).length : Int) - 1 - ((i + 1 : Nat) : Int) = (r.length : Int) - 1 - (i : Int) by simp; omega] at this
        exact this
    · rw [if_neg h]
      constructor
      · intro hh; exact absurd hh h
      · intro hh
        have := hh 0 y rfl
        rwa [e0] at this
theorem chkM0 (x : Ins) (locs foll foll' : Int) (h : chkM x locs foll = 0) (hs : x.skip ≤ foll') : chkM x locs foll' = 0 := by
  unfold chkM at h ⊢
  by_cases h1 : known x.op = false ∨ x ≠ needM x
  · rw [if_pos h1] at h; omega
  rw [if_neg h1] at h ⊢
  by_cases h2 : namesM x locs = false
  · rw [if_pos h2] at h; omega
  rw [if_neg h2] at h ⊢
  by_cases h3 : fitsM x = false
  · rw [if_pos h3] at h; omega
  rw [if_neg h3] at h ⊢
  by_cases h4 : x.skip < 0 ∨ foll < x.skip
  · rw [if_pos h4] at h; omega
  · rw [if_neg (by omega)]
theorem chkM_skip (x : Ins) (locs foll : Int) (h : chkM x locs foll = 0) : 0 ≤ x.skip ∧ x.skip ≤ foll := by
  unfold chkM at h
  by_cases h1 : known x.op = false ∨ x ≠ needM x
  · rw [if_pos h1] at h; omega
  rw [if_neg h1] at h
  by_cases h2 : namesM x locs = false
  · rw [if_pos h2] at h; omega
  rw [if_neg h2] at h
  by_cases h3 : fitsM x = false
  · rw [if_pos h3] at h; omega
  rw [if_neg h3] at h
  by_cases h4 : x.skip < 0 ∨ foll < x.skip
  · rw [if_pos h4] at h; omega
  · omega

def noAsks (t : TestM) : TestM := { t with asks := [] }
def lessM (t : TestM) : TestM := { noAsks t with thr := t.thr.take (t.thr.length - 1) }
def shortM (t : TestM) (k : Nat) (l : List Ins) : TestM := { noAsks t with thr := t.thr.set k (l.take (l.length - 1)) }
theorem sizes0 (t : TestM) : chkSizes t = 0 ↔ t.thr.length ≠ 0 ∧ t.thr.length ≤ 4 ∧ t.locs.length ≤ 8 ∧ t.asks.length ≤ 40 ∧ (∀ l ∈ t.thr, l.length ≤ 8) ∧ evM t.thr ≤ 8 := by
  unfold chkSizes
  by_cases h1 : t.thr.length = 0
  · rw [if_pos h1]; simp [h1]
  rw [if_neg h1]
  by_cases h2 : 4 < t.thr.length ∨ 8 < t.locs.length ∨ 40 < t.asks.length
  · rw [if_pos h2]
    constructor
    · intro h; omega
    · rintro ⟨_, a, b, c, _⟩; omega
  rw [if_neg h2]
  have e : (t.thr.any (fun l => decide (8 < l.length))) = true ↔ ¬ ∀ l ∈ t.thr, l.length ≤ 8 := by
    rw [List.any_eq_true]
    constructor
    · rintro ⟨l, hl, hd⟩ hh
      have := hh l hl
      have := of_decide_eq_true hd
      omega
    · intro hh
      apply Classical.byContradiction
      intro hn
      apply hh
      intro l hl
      apply Classical.byContradiction
      intro hc
      exact hn ⟨l, hl, decide_eq_true (by omega)⟩
  by_cases h3 : ∀ l ∈ t.thr, l.length ≤ 8
  · by_cases h4 : 8 < evM t.thr
    · rw [if_pos (.inr h4)]
      constructor
      · intro h; omega
      · rintro ⟨_, _, _, _, _, h5⟩; omega
    · rw [if_neg (by
        rintro (h | h)
        · exact e.1 h h3
        · exact h4 h)]
      exact ⟨fun _ => ⟨h1, by omega, by omega, by omega, h3, by omega⟩, fun _ => rfl⟩
  · rw [if_pos (.inl (e.2 h3))]
    constructor
    · intro h; omega
    · rintro ⟨_, _, _, _, h5, _⟩; exact absurd h5 h3
theorem evM_take_le (t : List (List Ins)) : ∀ k, evM (t.take k) ≤ evM t := by
  induction t with
  | nil => intro k; simp
  | cons x r ih =>
    intro k
    cases k with
    | zero => simp [evM]
    | succ k =>
      have := ih k
      unfold evM at *
      simp only [List.take_succ_cons, List.map_cons, List.sum_cons]
      omega
theorem evL_take_le (l : List Ins) : ∀ k, evL (l.take k) ≤ evL l := by
  induction l with
  | nil => intro k; simp
  | cons x r ih =>
    intro k
    cases k with
    | zero => simp [evL]
    | succ k =>
      have := ih k
      unfold evL at *
      simp only [List.take_succ_cons, List.map_cons, List.sum_cons]
      omega
theorem evM_set_le (t : List (List Ins)) : ∀ (k : Nat) (l l' : List Ins), t[k]? = some l → evL l' ≤ evL l → evM (t.set k l') ≤ evM t := by
  induction t with
  | nil => intro k l l' h _; simp at h
  | cons x r ih =>
    intro k l l' h hl
    cases k with
    | zero =>
      simp at h; subst h
      unfold evM
      simp only [List.set_cons_zero, List.map_cons, List.sum_cons]
      omega
    | succ k =>
      have := ih k l l' (by simpa using h) hl
      unfold evM at *
      simp only [List.set_cons_succ, List.map_cons, List.sum_cons]
      omega
theorem plain_good (t : TestM) (h : chkTest t = 0) : chkTest (noAsks t) = 0 := by
  rw [chk0] at h ⊢
  obtain ⟨h1, h2, h3, _⟩ := h
  rw [sizes0] at h1
  refine ⟨(sizes0 _).2 ⟨h1.1, h1.2.1, h1.2.2.1, by simp [noAsks], h1.2.2.2.2⟩, h2, h3, rfl⟩
theorem less_good (t : TestM) (h : chkTest t = 0) (h1 : 1 < t.thr.length) : chkTest (lessM t) = 0 := by
  have hp := plain_good t h
  rw [chk0] at hp ⊢
  obtain ⟨g1, g2, g3, _⟩ := hp
  rw [sizes0] at g1
  obtain ⟨a1, a2, a3, a4, a5, a6⟩ := g1
  have hl : (lessM t).thr.length = t.thr.length - 1 := by simp [lessM]
  refine ⟨(sizes0 _).2 ⟨by omega, by have : (noAsks t).thr.length = t.thr.length := rfl; omega, a3, a4, fun l hl => a5 l (List.mem_of_mem_take hl), Nat.le_trans (evM_take_le t.thr _) a6⟩, g2, ?_, rfl⟩
  rw [thr0] at g3 ⊢
  exact fun l hl => g3 l (List.mem_of_mem_take hl)
theorem mem_set {α : Type} {l : List α} {k : Nat} {a x : α} (h : x ∈ l.set k a) : x ∈ l ∨ x = a := List.mem_or_eq_of_mem_set h
theorem short_good (t : TestM) (h : chkTest t = 0) (k : Nat) (l : List Ins) (hk : t.thr[k]? = some l)
    (hb : ∀ (i : Nat) (x : Ins), l[i]? = some x → ¬ (x.skip = (l.length : Int) - 1 - i ∧ 0 < x.skip)) : chkTest (shortM t k l) = 0 ∧ evM (shortM t k l).thr ≤ evM t.thr := by
  have hp := plain_good t h
  rw [chk0] at hp ⊢
  obtain ⟨g1, g2, g3, _⟩ := hp
  rw [sizes0] at g1
  obtain ⟨a1, a2, a3, a4, a5, a6⟩ := g1
  have hm := List.mem_of_getElem? hk
  have hll : l.length ≤ 8 := a5 l hm
  have hlen : (shortM t k l).thr.length = t.thr.length := by simp [shortM]
  have hev : evM (shortM t k l).thr ≤ evM t.thr := evM_set_le t.thr k l _ hk (evL_take_le l _)
  refine ⟨⟨(sizes0 _).2 ⟨by rw [hlen]; exact a1, by rw [hlen]; exact a2, a3, a4, fun x hx => ?_, Nat.le_trans hev a6⟩, g2, ?_, rfl⟩, hev⟩
  · rcases mem_set hx with hx | rfl
    · exact a5 x hx
    · rw [List.length_take]; omega
  · rw [thr0] at g3 ⊢
    intro x hx
    rcases mem_set hx with hx | rfl
    · exact g3 x hx
    · have hg := g3 l hm
      rw [line0] at hg ⊢
      intro i y hy
      have hy' : l[i]? = some y := by
        rw [List.getElem?_take] at hy
        split at hy
        · exact hy
        · cases hy
      have hi : i < l.length - 1 := by
        have := (List.getElem?_eq_some_iff.1 hy).1
        rw [List.length_take] at this; omega
      have q := hg i y hy'
      have s := chkM_skip _ _ _ q
      have nb := hb i y hy'
      refine chkM0 _ _ _ _ q ?_
      rw [List.length_take]
      omega
end Go.Proofs.Yteeicedhnojdaaa
