/- ShaSums. -/
import Derived.Test.YtacfdnjdjgdbcaaDoorRefH
import Derived.Test.YtacfdnjdjgdbcaaDoorJd
namespace Go.Proofs.YtacfdnjdjgdbcaaDoor
set_option maxRecDepth 100000
open Go.RowKit

theorem sliceOf {w : World} {B e z n : Nat} {v : Value} {xs : List Value} (hn : 0 < n) (h : w.ownsRow B e z v n xs) : ∃ g c, v = .slice (some ⟨g, 0, none⟩) n c ∧ B ≤ g := by
  rcases h.2 with ⟨_, h0⟩ | ⟨g, cap, cur, hv, _⟩
  · exfalso; simp_all
  · exact ⟨g, cap, hv, (h.lt g (by rw [hv]; rfl)).1⟩
theorem rowsS : rootsM (M.primesM 8) 2 8 = v8l M.iV := by
  have e : (M.primesM 8).take 8 = M.primesM 8 := List.take_of_length_le (by rw [M.primes8]; decide)
  unfold rootsM; rw [e]; exact M.roots2
theorem rowsK : rootsM (M.primesM 64) 3 64 = M.kN := by
  have e : (M.primesM 64).take 64 = M.primesM 64 := List.take_of_length_le (by rw [M.primes64]; decide)
  unfold rootsM; rw [e]; exact M.roots3
/-- the constants that Made makes -/
theorem made_rows (w : World) :
    Calls Tryd.prog 16 #[] w fun e w' => (∃ gs cs gk ck, e = .returned (.agg #[.slice (some ⟨gs, 0, none⟩) 8 cs, .slice (some ⟨gk, 0, none⟩) 64 ck]) ∧ Row32 w' gs 8 (v8l M.iV) ∧ Row32 w' gk 64 M.kN ∧ w.heap.size ≤ gs ∧ w.heap.size ≤ gk) ∧ Below w.heap.size w w' := by
  refine (made_any w).mono ?_
  rintro e w' ⟨⟨S, T, rfl, h1, h2⟩, hb⟩
  rw [rowsS] at h1; rw [rowsK] at h2
  obtain ⟨gs, cs, rfl, l1⟩ := sliceOf (by decide) h1
  obtain ⟨gk, ck, rfl, l2⟩ := sliceOf (by decide) h2
  exact ⟨⟨gs, cs, gk, ck, rfl, Row32.of rfl h1, Row32.of (by decide +kernel) h2, l1, l2⟩, hb⟩
/-- what stands about the sum that grows -/
structure ShK (W : World) (hb gs cs gk ck tb vb : Nat) (a b n : Int) : Prop where
  s : Row32 W gs 8 (v8l M.iV)
  k : Row32 W gk 64 M.kN
  t0 : W.cell? ⟨tb, 0, none⟩ = some (.slice (some ⟨gs, 0, none⟩) 8 cs)
  t1 : W.cell? ⟨tb, 1, none⟩ = some (.slice (some ⟨gk, 0, none⟩) 64 ck)
  v0 : W.cell? ⟨vb, 0, none⟩ = some (.int .i64 a)
  v1 : W.cell? ⟨vb, 1, none⟩ = some (.int .i64 b)
  v2 : W.cell? ⟨vb, 2, none⟩ = some (.int .i64 n)
  n1 : gs ≠ hb
  n2 : gk ≠ hb
  n3 : tb ≠ hb
  n4 : vb ≠ hb
theorem ShK.chg {W X : World} {hb gs cs gk ck tb vb : Nat} {a b n : Int} (h : ShK W hb gs cs gk ck tb vb a b n) (c : ShaChg hb W X) : ShK X hb gs cs gk ck tb vb a b n :=
  ⟨h.s.keep (c.block _ (h.s.lt (by decide)) h.n1), h.k.keep (c.block _ (h.k.lt (by decide)) h.n2), c.cell h.t0 h.n3, c.cell h.t1 h.n3, c.cell h.v0 h.n4, c.cell h.v1 h.n4, c.cell h.v2 h.n4, h.n1, h.n2, h.n3, h.n4⟩
theorem ShK.below {W X : World} {hb gs cs gk ck tb vb : Nat} {a b n : Int} (h : ShK W hb gs cs gk ck tb vb a b n) (c : Below W.heap.size W X) : ShK X hb gs cs gk ck tb vb a b n := h.chg (ShaChg.of_below c)
theorem ShK.v {W : World} {hb gs cs gk ck tb vb : Nat} {a b n : Int} (h : ShK W hb gs cs gk ck tb vb a b n) (k : Nat) (hk : k < 3) : ∃ x, W.cell? ⟨vb, k, none⟩ = some (.int .i64 x) := by
  rcases (by omega : k = 0 ∨ k = 1 ∨ k = 2) with rfl | rfl | rfl
  · exact ⟨_, h.v0⟩
  · exact ⟨_, h.v1⟩
  · exact ⟨_, h.v2⟩
theorem fillS (w : World) (T : TypeId) (Z : Array Value) (cs : List Value) (h : Z.size = cs.length) : (w.alloc (.cells Z T)).setCells w.heap.size 0 cs = w.alloc (.cells cs.toArray T) := by
  have go : ∀ (cs : List Value) (p z : List Value), z.length = cs.length → (w.alloc (.cells (p ++ z).toArray T)).setCells w.heap.size p.length cs = w.alloc (.cells (p ++ cs).toArray T) := by
    intro cs
    induction cs with
    | nil => intro p z hz; rw [List.eq_nil_of_length_eq_zero hz]; rfl
    | cons c cs ih =>
      intro p z hz
      cases z with
      | nil => simp at hz
      | cons y z =>
        rw [World.setCells, World.setCell_alloc_new]
        have e : (p ++ y :: z).toArray.set! p.length c = ((p ++ [c]) ++ z).toArray := by simp
        have e2 := ih (p ++ [c]) z (by simpa using hz)
        rw [List.length_append] at e2
        simp only [List.append_assoc, List.singleton_append, List.length_singleton] at e2
        simp_all
  have := go cs [] Z.toList (by simpa using h)
  simpa using this

theorem conv_hashS {w : World} {g n cap : Nat} {l : List Nat} (hl : l.length = n) (h : w.rangeAt g 0 (byts l)) :
    (convert 40 9 (.slice (some ⟨g, 0, none⟩) n cap)).run Tryd.prog w = .ok (.string (bs l)) w := by
  refine run_convert_bytes_arg (P := Tryd.prog) w 40 5 Tryd.underlying40 Tryd.underlying5 g 0 n cap (l.map fun n => ((n : Nat) : Int)) (by simp [hl]) (fun i hi => ?_) 9 Tryd.underlying9
  have hi' : i < l.length := by omega
  have hg : (byts l)[i]? = some (.int .u8 ((l.getD i 0 : Nat) : Int)) := by simp [byts, List.getD, hi']
  have hc := h i _ hg
  rw [Nat.zero_add] at hc
  rw [Nat.zero_add, hc]
  simp [List.getD, hi']
theorem info_hashS : (Tryd.prog.info? 24).map (·.size) = some 32 := by kernel_rfl

end Go.Proofs.YtacfdnjdjgdbcaaDoor
