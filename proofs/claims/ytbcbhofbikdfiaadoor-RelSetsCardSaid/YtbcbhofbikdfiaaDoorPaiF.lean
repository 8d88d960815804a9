/- The reference's relations: Or, Then, Closed, Around, Same. -/
import Derived.Test.YtbcbhofbikdfiaaDoorPaiE
namespace Go.Proofs.YtbcbhofbikdfiaaDoor
set_option maxRecDepth 100000
open Go.RowKit M

/-- pairs of things, each once -/
structure PQ (l : List (Nat × Nat)) : Prop where
  nd : l.Nodup
  lt : ∀ p ∈ l, p.1 < 16 ∧ p.2 < 16
theorem nodup_le : ∀ (n : Nat) (l : List Nat), l.Nodup → (∀ x ∈ l, x < n) → l.length ≤ n
  | 0, l, _, h => by
    cases l with
    | nil => exact Nat.le_refl _
    | cons a l => exact absurd (h a (by simp)) (by omega)
  | n + 1, l, hd, h => by
    have h1 := nodup_le n (l.erase n) (hd.erase n) (fun x hx => by
      have h2 := h x (List.mem_of_mem_erase hx)
      have h3 : x ≠ n := fun e => by
        subst e
        exact (hd.not_mem_erase) hx
      omega)
    have h2 := List.length_erase (a := n) (l := l)
    split at h2 <;> omega
theorem PQ.len {l : List (Nat × Nat)} (h : PQ l) : l.length ≤ 256 := by
  have h1 := nodup_le 256 (l.map fun p => p.1 * 16 + p.2) (by
    rw [List.nodup_iff_pairwise_ne, List.pairwise_map]
    refine (List.nodup_iff_pairwise_ne.1 h.nd).imp_of_mem (fun {a b} ha hb hne => ?_)
    intro e
    have h1 := h.lt a ha
    have h2 := h.lt b hb
    exact hne (Prod.ext (by omega) (by omega))) (fun x hx => by
    obtain ⟨p, hp, rfl⟩ := List.mem_map.1 hx
    have := h.lt p hp
    omega)
  simpa using h1
theorem PQ.nil : PQ [] := ⟨List.nodup_nil, fun p h => by cases h⟩
theorem hasQ_iff {l : List (Nat × Nat)} {a b : Nat} : hasQ l (a : Int) (b : Int) = true ↔ (a, b) ∈ l := by
  unfold hasQ
  rw [List.any_eq_true]
  constructor
  · rintro ⟨⟨x, y⟩, hp, h⟩
    simp at h
    obtain ⟨h1, h2⟩ := h
    have e1 : x = a := by omega
    have e2 : y = b := by omega
    subst e1 e2; exact hp
  · intro h; exact ⟨(a, b), h, by simp⟩
theorem mem_withQ {l : List (Nat × Nat)} {a b : Nat} {p : Nat × Nat} : p ∈ withQ l (a : Int) (b : Int) ↔ p ∈ l ∨ (p = (a, b) ∧ a < 16 ∧ b < 16) := by
  unfold withQ
  split
  · rename_i h
    obtain ⟨⟨_, h1⟩, ⟨_, h2⟩, _⟩ := h
    rw [List.mem_append]
    simp only [Int.toNat_natCast, List.mem_singleton]
    constructor
    · rintro (h | h)
      · exact .inl h
      · exact .inr ⟨h, by omega, by omega⟩
    · rintro (h | ⟨h, _⟩)
      · exact .inl h
      · exact .inr h
  · rename_i h
    refine ⟨.inl, ?_⟩
    rintro (h1 | ⟨rfl, h1, h2⟩)
    · exact h1
    · rw [← hasQ_iff]
      cases hq : hasQ l (a : Int) (b : Int) with
      | true => rfl
      | false => exact absurd ⟨⟨by omega, by omega⟩, ⟨by omega, by omega⟩, hq⟩ h
theorem PQ.with {l : List (Nat × Nat)} (h : PQ l) (a b : Int) : PQ (withQ l a b) := by
  unfold withQ
  split
  · rename_i hc
    obtain ⟨⟨h0, h1⟩, ⟨h2, h3⟩, h4⟩ := hc
    obtain ⟨x, rfl⟩ := Int.eq_ofNat_of_zero_le h0
    obtain ⟨y, rfl⟩ := Int.eq_ofNat_of_zero_le h2
    have hn : (x, y) ∉ l := fun k => by rw [hasQ_iff.2 k] at h4; cases h4
    refine ⟨?_, fun p hp => ?_⟩
    · rw [List.nodup_append]
      refine ⟨h.nd, by simp, fun a ha b hb => ?_⟩
      simp at hb
      subst hb
      exact fun e => hn (e ▸ ha)
    · rcases List.mem_append.1 hp with hp | hp
      · exact h.lt p hp
      · simp at hp; subst hp; exact ⟨by show x < 16; omega, by show y < 16; omega⟩
  · exact h
def orQ (l m : List (Nat × Nat)) : List (Nat × Nat) := m.foldl (fun l p => withQ l (p.1 : Int) (p.2 : Int)) l
theorem PQ.or {l : List (Nat × Nat)} (h : PQ l) : ∀ m, PQ (orQ l m) := fun m => by
  unfold orQ
  induction m generalizing l with
  | nil => exact h
  | cons p m ih => exact ih (h.with _ _)
def thenStep (p : Nat × Nat) (out : List (Nat × Nat)) (q : Nat × Nat) : List (Nat × Nat) := if p.2 = q.1 then withQ out (p.1 : Int) (q.2 : Int) else out
def thenRow (m out : List (Nat × Nat)) (p : Nat × Nat) : List (Nat × Nat) := m.foldl (thenStep p) out
def thenQ (l m : List (Nat × Nat)) : List (Nat × Nat) := l.foldl (thenRow m) []
theorem PQ.step {out : List (Nat × Nat)} (h : PQ out) (p q : Nat × Nat) : PQ (thenStep p out q) := by
  unfold thenStep; split
  · exact h.with _ _
  · exact h
theorem PQ.row {out : List (Nat × Nat)} (h : PQ out) (m : List (Nat × Nat)) (p : Nat × Nat) : PQ (thenRow m out p) := by
  unfold thenRow
  induction m generalizing out with
  | nil => exact h
  | cons q m ih => exact ih (h.step p q)
theorem PQ.rows {out : List (Nat × Nat)} (h : PQ out) (l m : List (Nat × Nat)) : PQ (l.foldl (thenRow m) out) := by
  induction l generalizing out with
  | nil => exact h
  | cons p l ih => exact ih (h.row m p)
theorem PQ.then (l m : List (Nat × Nat)) : PQ (thenQ l m) := PQ.nil.rows l m
theorem fold_take {α β : Type} (f : β → α → β) (z : β) (l : List α) {i : Nat} {x : α} (h : l[i]? = some x) : (l.take (i + 1)).foldl f z = f ((l.take i).foldl f z) x := by
  rw [List.take_add_one, h, List.foldl_append]; rfl

set_option maxRecDepth 100000 in
set_option maxHeartbeats 4000000 in
theorem orR_any (l m : List (Nat × Nat)) (hl : PQ l) (hm : m.length ≤ 100000) (v u : Value) (w : World) (h : PIn w v l) (k : PIn w u m) :
    Calls Tryd.prog 17 #[v, u] w fun e w' => ∃ v', e = .returned v' ∧ PIn w' v' (orQ l m) ∧ Below w.heap.size w w' := by
  obtain ⟨p1, c1, rfl⟩ := SlIn.slice k
  obtain ⟨mn, hmn⟩ : ∃ mn, mn = m.length := ⟨_, rfl⟩
  rw [← hmn] at k hm ⊢
  have KB := Box.mk k
  have HB := Box.mk h
  have HMN := Box.mk hmn
  clear hmn h k
  go_enter Tryd.func17, Tryd.ntmps17
  go_wp2_with fail
  go_loopw [0, 9] (fun o iv wr => ∃ (i : Nat) (F : List (Nat × Nat)), i ≤ mn ∧ iv = .int .i64 (i : Int) ∧ PQ F ∧ Box (F = orQ l (m.take i)) ∧ Box (PIn wr o F) ∧ Box (Below w.heap.size w wr)) (fun _ iv _ => mn - (intOf iv).toNat)
  case atStart => exact ⟨0, l, by omega, rfl, hl, ⟨rfl⟩, HB, ⟨Below.refl _ _⟩⟩
  case round =>
    clear HB
    obtain ⟨i, F, hi, rfl, hF, HF, ROW, BB⟩ := hrel
    by_cases hlt : i < mn
    · obtain ⟨⟨x, y⟩, hxy⟩ : ∃ p, m[i]? = some p := ⟨_, List.getElem?_eq_getElem (by rw [← HMN.out]; exact hlt)⟩
      obtain ⟨bk, off, cc, hv, hbl, k0, k1⟩ := (KB.out.below BB.out).at hxy
      rw [← HMN.out] at hv
      obtain ⟨rfl, _, rfl⟩ := Value.slice.inj hv
      have l0 := BB.out.size
      have hnx : orQ l (m.take (i + 1)) = withQ F (x : Int) (y : Int) := by rw [HF.out]; exact fold_take _ _ _ hxy
      have HNX := Box.mk hnx
      have WW := Box.mk (withR_any F (by have := hF.len; omega) u0 (x : Int) (y : Int) (wr.alloc (.cells #[.int .i64 (x : Int), .int .i64 (y : Int)] 36)) (ROW.out.below (aset wr _)))
      have B1 := Box.mk (bel' BB.out l0 (aset wr (.cells #[.int .i64 (x : Int), .int .i64 (y : Int)] 36)))
      have PF := Box.mk (hF.with (x : Int) (y : Int))
      clear hxy hv hnx BB ROW
      go_wp2_with (first
        | (go_at_call 15; ((with_reducible refine WW.out.mono ?_); rintro e w2 ⟨v2, rfl, hp2, b2⟩; have ROW2 := Box.mk hp2; have B2 := Box.mk (bel' B1.out (by simp; omega) b2); clear hp2 b2))
        | fail)
      go_roundw
      case rel => exact ⟨i + 1, withQ F (x : Int) (y : Int), by omega, by go_num, PF.out, ⟨HNX.out.symm⟩, ROW2, B2⟩
      case measure => simp [intOf]; omega
    · obtain rfl : i = mn := by omega
      have hfin : F = orQ l m := by rw [HF.out, HMN.out, List.take_length]
      have i5 : ((i : Int) < (i : Int)) = False := by simp
      clear hlt
      go_wp2_with fail
      go_ret
      exact ⟨_, rfl, by rw [← hfin]; exact ROW.out, BB.out⟩

set_option maxRecDepth 100000 in
set_option maxHeartbeats 4000000 in
theorem thenR_any (l m : List (Nat × Nat)) (hl : l.length ≤ 100000) (hm : m.length ≤ 100000) (v u : Value) (w : World) (h : PIn w v l) (k : PIn w u m) :
    Calls Tryd.prog 25 #[v, u] w fun e w' => ∃ v', e = .returned v' ∧ PIn w' v' (thenQ l m) ∧ Below w.heap.size w w' := by
  obtain ⟨p0, c0, rfl⟩ := SlIn.slice h
  obtain ⟨p1, c1, rfl⟩ := SlIn.slice k
  obtain ⟨ln, hln⟩ : ∃ ln, ln = l.length := ⟨_, rfl⟩
  obtain ⟨mn, hmn⟩ : ∃ mn, mn = m.length := ⟨_, rfl⟩
  rw [← hln] at h hl ⊢
  rw [← hmn] at k hm ⊢
  have KB := Box.mk k
  have HB := Box.mk h
  have HMN := Box.mk hmn
  have HLN := Box.mk hln
  have ES : Box (PIn (w.alloc (.cells #[] 36)) (.slice (some ⟨w.heap.size, 0, none⟩) 0 0) []) := ⟨rowSlIn (newRow w w.heap.size 36 2 (Nat.le_refl _))⟩
  have BB := Box.mk (aset w (.cells #[] 36))
  clear hmn hln h k
  go_enter Tryd.func25, Tryd.ntmps25
  go_wp2_with fail
  generalize (w.alloc (.cells #[] 36)) = W at *
  go_loopw [5, 13] (fun o iv wr => ∃ (i : Nat) (F : List (Nat × Nat)), i ≤ ln ∧ iv = .int .i64 (i : Int) ∧ PQ F ∧ Box (F = (l.take i).foldl (thenRow m) []) ∧ Box (PIn wr o F) ∧ Box (Below w.heap.size w wr)) (fun _ iv _ => ln - (intOf iv).toNat)
  case atStart => exact ⟨0, [], by omega, rfl, PQ.nil, ⟨rfl⟩, ES, BB⟩
  case round =>
    clear ES BB
    obtain ⟨i, F, hi, rfl, hF, HF, ROW, BB⟩ := hrel
    by_cases hlt : i < ln
    · obtain ⟨⟨x, y⟩, hxy⟩ : ∃ p, l[i]? = some p := ⟨_, List.getElem?_eq_getElem (by rw [← HLN.out]; exact hlt)⟩
      obtain ⟨bk, off, cc, hv, hbl, k0, k1⟩ := (HB.out.below BB.out).at hxy
      rw [← HLN.out] at hv
      obtain ⟨rfl, _, rfl⟩ := Value.slice.inj hv
      have l0 := BB.out.size
      have hnx : (l.take (i + 1)).foldl (thenRow m) [] = thenRow m F (x, y) := by rw [HF.out]; exact fold_take _ _ _ hxy
      have HNX := Box.mk hnx
      have B1 := Box.mk (bel' BB.out l0 (aset wr (.cells #[.int .i64 (x : Int), .int .i64 (y : Int)] 36)))
      have R1 := Box.mk (ROW.out.below (aset wr (.cells #[.int .i64 (x : Int), .int .i64 (y : Int)] 36)))
      have PX : Box ((wr.alloc (.cells #[.int .i64 (x : Int), .int .i64 (y : Int)] 36)).heap[wr.heap.size]? = some (.cells #[.int .i64 (x : Int), .int .i64 (y : Int)] 36 (0, 0))) := ⟨heap_alloc_new _ _⟩
      have i9 : (i : Int) < (ln : Int) := by omega
      clear hxy hv hnx BB ROW
      go_wp2_with fail
      generalize (wr.alloc (.cells #[.int .i64 (x : Int), .int .i64 (y : Int)] 36)) = Wx at *
      clear k0 k1 hbl
      generalize wr.heap.size = xb at *
      clear wr
      go_loopw [5, 19] (fun o jv wq => ∃ (j : Nat) (G : List (Nat × Nat)), j ≤ mn ∧ jv = .int .i64 (j : Int) ∧ PQ G ∧ Box (G = (m.take j).foldl (thenStep (x, y)) F) ∧ Box (PIn wq o G) ∧ Box (wq.heap[xb]? = some (.cells #[.int .i64 (x : Int), .int .i64 (y : Int)] 36 (0, 0))) ∧ Box (Below w.heap.size w wq)) (fun _ jv _ => mn - (intOf jv).toNat)
      case atStart => exact ⟨0, F, by omega, rfl, hF, ⟨rfl⟩, R1, PX, B1⟩
      case round =>
        clear R1 PX B1
        obtain ⟨j, G, hj, rfl, hG, HG, ROW, PX, BB⟩ := hrel
        by_cases hjt : j < mn
        · obtain ⟨⟨x2, y2⟩, hxy2⟩ : ∃ p, m[j]? = some p := ⟨_, List.getElem?_eq_getElem (by rw [← HMN.out]; exact hjt)⟩
          obtain ⟨bk2, off2, cc2, hv2, hbl2, k02, k12⟩ := (KB.out.below BB.out).at hxy2
          rw [← HMN.out] at hv2
          obtain ⟨rfl, _, rfl⟩ := Value.slice.inj hv2
          have l2 := BB.out.size
          have hnx2 : (m.take (j + 1)).foldl (thenStep (x, y)) F = thenStep (x, y) G (x2, y2) := by rw [HG.out]; exact fold_take _ _ _ hxy2
          have HNX2 := Box.mk hnx2
          have lx := (Array.getElem?_eq_some_iff.1 PX.out).1
          have PX2 : Box ((wr.alloc (.cells #[.int .i64 (x2 : Int), .int .i64 (y2 : Int)] 36)).heap[xb]? = some (.cells #[.int .i64 (x : Int), .int .i64 (y : Int)] 36 (0, 0))) := ⟨(Below.heap_alloc _ _ _ lx).trans PX.out⟩
          obtain ⟨q0, q1⟩ := pair_cells PX2.out
          have B2 := Box.mk (bel' BB.out l2 (aset wr (.cells #[.int .i64 (x2 : Int), .int .i64 (y2 : Int)] 36)))
          have R2 := Box.mk (ROW.out.below (aset wr (.cells #[.int .i64 (x2 : Int), .int .i64 (y2 : Int)] 36)))
          have PG := Box.mk (hG.step (x, y) (x2, y2))
          clear hxy2 hv2 hnx2 BB ROW PX lx
          by_cases heq : y = x2
          · have e : thenStep (x, y) G (x2, y2) = withQ G (x : Int) (y2 : Int) := by unfold thenStep; rw [if_pos heq]
            rw [e] at HNX2 PG
            have WW := Box.mk (withR_any G (by have := hG.len; omega) u5 (x : Int) (y2 : Int) (wr.alloc (.cells #[.int .i64 (x2 : Int), .int .i64 (y2 : Int)] 36)) R2.out)
            subst heq
            clear e
            go_wp2_with (first
              | (go_at_call 15; ((with_reducible refine WW.out.mono ?_); rintro e w2 ⟨v2, rfl, hp2, b2⟩; have ROW2 := Box.mk hp2; have B3 := Box.mk (bel' B2.out (by simp; omega) b2); have PX3 := Box.mk ((b2.block xb (Array.getElem?_eq_some_iff.1 PX2.out).1).trans PX2.out); clear hp2 b2))
              | fail)
            go_roundw
            case rel => exact ⟨j + 1, withQ G (x : Int) (y2 : Int), by omega, by go_num, PG.out, ⟨HNX2.out.symm⟩, ROW2, PX3, B3⟩
            case measure => simp [intOf]; omega
          · have e : thenStep (x, y) G (x2, y2) = G := by unfold thenStep; rw [if_neg heq]
            rw [e] at HNX2
            have i7 : ¬ ((y : Int) = (x2 : Int)) := by omega
            clear e heq
            go_wp2_with fail
            go_roundw
            case rel => exact ⟨j + 1, G, by omega, by go_num, hG, ⟨HNX2.out.symm⟩, R2, PX2, B2⟩
            case measure => simp [intOf]; omega
        · obtain rfl : j = mn := by omega
          have hfin : G = thenRow m F (x, y) := by rw [HG.out, HMN.out, List.take_length]; rfl
          have i5 : ((j : Int) < (j : Int)) = False := by simp
          clear hjt
          go_wp2_with fail
          go_roundw
          case rel => exact ⟨i + 1, G, by omega, by go_num, hG, ⟨by rw [HNX.out, ← hfin]⟩, ROW, BB⟩
          case measure => simp [intOf]; omega
    · obtain rfl : i = ln := by omega
      have hfin : F = thenQ l m := by rw [HF.out, HLN.out, List.take_length]; rfl
      have i5 : ((i : Int) < (i : Int)) = False := by simp
      clear hlt
      go_wp2_with fail
      go_ret
      exact ⟨_, rfl, by rw [← hfin]; exact ROW.out, BB.out⟩
end Go.Proofs.YtbcbhofbikdfiaaDoor
