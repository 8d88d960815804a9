/- The reference's relations: Closed, Around, Same; Told and Count. -/
import Derived.Test.YtbcbhofbikdfiaaDoorPaiF
namespace Go.Proofs.YtbcbhofbikdfiaaDoor
set_option maxRecDepth 100000
open Go.RowKit M

def closeS (l out : List (Nat × Nat)) (_ : Nat) : List (Nat × Nat) := orQ out (thenQ out l)
def closeT (l : List (Nat × Nat)) (n : Nat) : List (Nat × Nat) := (List.range n).foldl (closeS l) l
def closeQ (l : List (Nat × Nat)) : List (Nat × Nat) := closeT l 16
theorem closeT_succ (l : List (Nat × Nat)) (n : Nat) : closeT l (n + 1) = orQ (closeT l n) (thenQ (closeT l n) l) := by unfold closeT; rw [List.range_succ, List.foldl_append]; rfl
theorem PQ.close {l : List (Nat × Nat)} (h : PQ l) : ∀ n, PQ (closeT l n)
  | 0 => h
  | n + 1 => by rw [closeT_succ]; exact (PQ.close h n).or _

set_option maxRecDepth 100000 in
set_option maxHeartbeats 4000000 in
theorem closeR_any (l : List (Nat × Nat)) (hl : PQ l) (v : Value) (w : World) (h : PIn w v l) :
    Calls Tryd.prog 27 #[v] w fun e w' => ∃ v', e = .returned v' ∧ PIn w' v' (closeQ l) ∧ Below w.heap.size w w' := by
  have HB := Box.mk h
  have HL := Box.mk hl
  clear h
  go_enter Tryd.func27, Tryd.ntmps27
  go_wp2_with fail
  go_loopw [3, 4] (fun o iv wr => ∃ (n : Nat) (F : List (Nat × Nat)), n ≤ 16 ∧ iv = .int .i64 (n : Int) ∧ PQ F ∧ Box (F = closeT l n) ∧ Box (PIn wr o F) ∧ Box (Below w.heap.size w wr)) (fun _ iv _ => 16 - (intOf iv).toNat)
  case atStart => exact ⟨0, l, by omega, rfl, hl, ⟨rfl⟩, HB, ⟨Below.refl _ _⟩⟩
  case round =>
    obtain ⟨n, F, hn, rfl, hF, HF, ROW, BB⟩ := hrel
    by_cases hlt : n < 16
    · have TT := Box.mk (thenR_any F l (by have := hF.len; omega) (by have := hl.len; omega) u3 v wr ROW.out (HB.out.below BB.out))
      have OO := Box.mk (fun (w2 : World) (v2 : Value) (hb : Below wr.heap.size wr w2) (hp : PIn w2 v2 (thenQ F l)) => orR_any F (thenQ F l) hF (by have := (PQ.then F l).len; omega) u3 v2 w2 (ROW.out.below hb) hp)
      have PO := Box.mk (hF.or (thenQ F l))
      have HNX : Box (closeT l (n + 1) = orQ F (thenQ F l)) := ⟨by rw [closeT_succ, ← HF.out]⟩
      go_wp2_with (first
        | (go_at_call 25; ((with_reducible refine TT.out.mono ?_); rintro e w2 ⟨v2, rfl, hp2, b2⟩; have P2 := Box.mk hp2; have B2 := Box.mk b2; clear hp2 b2))
        | (go_at_call 17; ((with_reducible refine (OO.out w2 v2 B2.out P2.out).mono ?_); rintro e w3 ⟨v3, rfl, hp3, b3⟩; have P3 := Box.mk hp3; have B3 := Box.mk (bel (bel BB.out (B2.out.mono (Nat.le_refl _))) b3); clear hp3 b3))
        | fail)
      go_roundw
      case rel => exact ⟨n + 1, orQ F (thenQ F l), by omega, by go_num, PO.out, ⟨HNX.out.symm⟩, P3, B3⟩
      case measure => simp [intOf]; omega
    · obtain rfl : n = 16 := by omega
      have hfin : F = closeQ l := HF.out
      have i5 : ((16 : Int) < 16) = False := by simp
      go_wp2_with fail
      go_ret
      exact ⟨_, rfl, by rw [← hfin]; exact ROW.out, BB.out⟩

def roundQ (l : List (Nat × Nat)) : Bool := (closeQ l).any fun p => p.1 == p.2
set_option maxRecDepth 100000 in
set_option maxHeartbeats 4000000 in
theorem aroundR_any (l : List (Nat × Nat)) (hl : PQ l) (v : Value) (w : World) (h : PIn w v l) :
    Calls Tryd.prog 29 #[v] w fun e w' => e = .returned (.bool (roundQ l)) ∧ Below w.heap.size w w' := by
  obtain ⟨C, hC⟩ : ∃ C, C = closeQ l := ⟨_, rfl⟩
  have hCl : C.length ≤ 256 := by rw [hC]; exact (hl.close 16).len
  have hq : roundQ l = C.any fun p => p.1 == p.2 := by rw [hC]; rfl
  have CC := Box.mk (closeR_any l hl v w h)
  rw [← hC] at CC
  have HY : Box (∀ (i : Nat) p, C[i]? = some p → p.1 = p.2 → roundQ l = true) := ⟨fun i p h1 h2 => by rw [hq]; exact List.any_eq_true.2 ⟨p, List.mem_of_getElem? h1, by simp [h2]⟩⟩
  have HN : Box ((∀ (i : Nat) p, C[i]? = some p → p.1 ≠ p.2) → roundQ l = false) := ⟨fun h => by
    rw [hq]; apply List.any_eq_false.2; intro p hp; obtain ⟨i, hi⟩ := List.getElem?_of_mem hp; simpa using h i p hi⟩
  clear hq hC
  generalize roundQ l = q at *
  clear h hl
  go_enter Tryd.func29, Tryd.ntmps29
  go_wp2_with (first
    | (go_at_call 27; ((with_reducible refine CC.out.mono ?_); rintro e w2 ⟨v2, rfl, hp2, b2⟩; obtain ⟨p0, c0, rfl⟩ := SlIn.slice hp2; have P2 := Box.mk hp2; have B2 := Box.mk b2; clear hp2 b2))
    | fail)
  obtain ⟨cn, hcn⟩ : ∃ cn, cn = C.length := ⟨_, rfl⟩
  rw [← hcn] at P2 hCl ⊢
  have HCN := Box.mk hcn
  clear hcn
  go_loopw [8] (fun iv wr => ∃ i : Nat, i ≤ cn ∧ iv = .int .i64 (i : Int) ∧ Box (∀ (j : Nat) p, j < i → C[j]? = some p → p.1 ≠ p.2) ∧ Box (PIn wr (.slice p0 cn c0) C) ∧ Box (Below w.heap.size w wr)) (fun iv _ => cn - (intOf iv).toNat)
  case atStart => exact ⟨0, by omega, rfl, ⟨fun j p hj => by omega⟩, P2, B2⟩
  case round =>
    clear P2 B2
    obtain ⟨i, hi, rfl, NO, H, BB⟩ := hrel
    by_cases hlt : i < cn
    · obtain ⟨⟨x, y⟩, hxy⟩ : ∃ p, C[i]? = some p := ⟨_, List.getElem?_eq_getElem (by rw [← HCN.out]; exact hlt)⟩
      obtain ⟨bk, off, cc, hv, hbl, k0, k1⟩ := H.out.at hxy
      rw [← HCN.out] at hv
      obtain ⟨rfl, _, rfl⟩ := Value.slice.inj hv
      have l0 := BB.out.size
      have HX := Box.mk hxy
      have B1 := Box.mk (bel' BB.out l0 (aset wr (.cells #[.int .i64 (x : Int), .int .i64 (y : Int)] 36)))
      have H1 := Box.mk (H.out.below (aset wr (.cells #[.int .i64 (x : Int), .int .i64 (y : Int)] 36)))
      clear hxy hv BB H
      by_cases he : x = y
      · have e := HY.out i (x, y) HX.out he
        subst e
        subst he
        go_wp2_with fail
        go_ret
        exact ⟨rfl, B1.out⟩
      · have i7 : ¬ ((x : Int) = (y : Int)) := by omega
        have HE := Box.mk he
        clear he
        go_wp2_with fail
        go_roundw
        case rel =>
          refine ⟨i + 1, by omega, by go_num, ⟨fun j p hj hp => ?_⟩, H1, B1⟩
          rcases Nat.lt_or_ge j i with h1 | h1
          · exact NO.out j p h1 hp
          · obtain rfl : j = i := by omega
            rw [HX.out] at hp
            cases hp
            exact HE.out
        case measure => simp [intOf]; omega
    · obtain rfl : i = cn := by omega
      have e := HN.out fun j p hj => NO.out j p (by have := (List.getElem?_eq_some_iff.1 hj).1; rw [← HCN.out] at this; exact this) hj
      subst e
      have i5 : ((i : Int) < (i : Int)) = False := by simp
      clear hlt
      go_wp2_with fail
      go_ret
      exact ⟨rfl, BB.out⟩

def sameQ (l m : List (Nat × Nat)) : Bool := decide ((lessQ l m).length = 0) && decide ((lessQ m l).length = 0)
set_option maxRecDepth 100000 in
set_option maxHeartbeats 4000000 in
theorem sameR_any (l m : List (Nat × Nat)) (hl : l.length ≤ 100000) (hm : m.length ≤ 100000) (v u : Value) (w : World) (h : PIn w v l) (k : PIn w u m) :
    Calls Tryd.prog 9 #[v, u] w fun e w' => e = .returned (.bool (sameQ l m)) ∧ Below w.heap.size w w' := by
  have L1 := Box.mk (lessR_any l m hl hm v u w h k)
  have L2 := Box.mk (fun (w2 : World) (hb : Below w.heap.size w w2) => lessR_any m l hm hl u v w2 (k.below hb) (h.below hb))
  unfold sameQ
  clear h k
  by_cases h1 : (lessQ l m).length = 0
  · have e1 : decide ((lessQ l m).length = 0) = true := by simp [h1]
    by_cases h2 : (lessQ m l).length = 0
    · rw [decide_eq_true h1, decide_eq_true h2]
      clear e1
      go_enter Tryd.func9, Tryd.ntmps9
      go_wp2_with (first
        | (go_at_call 21; ((with_reducible refine L1.out.mono ?_); rintro e w2 ⟨v2, rfl, hp2, b2⟩; obtain ⟨p0, c0, rfl⟩ := SlIn.slice hp2; have B2 := Box.mk b2; clear hp2 b2))
        | (go_at_call 21; ((with_reducible refine (L2.out w2 B2.out).mono ?_); rintro e w3 ⟨v3, rfl, hp3, b3⟩; obtain ⟨p1, c1, rfl⟩ := SlIn.slice hp3; have B3 := Box.mk (bel B2.out b3); clear hp3 b3))
        | fail)
      go_ret
      exact ⟨rfl, B3.out⟩
    · rw [decide_eq_true h1, decide_eq_false h2]
      clear e1
      go_enter Tryd.func9, Tryd.ntmps9
      go_wp2_with (first
        | (go_at_call 21; ((with_reducible refine L1.out.mono ?_); rintro e w2 ⟨v2, rfl, hp2, b2⟩; obtain ⟨p0, c0, rfl⟩ := SlIn.slice hp2; have B2 := Box.mk b2; clear hp2 b2))
        | (go_at_call 21; ((with_reducible refine (L2.out w2 B2.out).mono ?_); rintro e w3 ⟨v3, rfl, hp3, b3⟩; obtain ⟨p1, c1, rfl⟩ := SlIn.slice hp3; have B3 := Box.mk (bel B2.out b3); clear hp3 b3))
        | fail)
      go_ret
      exact ⟨by simp; intro e; rw [e] at h2; exact h2 rfl, B3.out⟩
  · rw [decide_eq_false h1]
    go_enter Tryd.func9, Tryd.ntmps9
    go_wp2_with (first
      | (go_at_call 21; ((with_reducible refine L1.out.mono ?_); rintro e w2 ⟨v2, rfl, hp2, b2⟩; obtain ⟨p0, c0, rfl⟩ := SlIn.slice hp2; have B2 := Box.mk b2; clear hp2 b2))
      | fail)
    go_ret
    exact ⟨by simp, B2.out⟩
end Go.Proofs.YtbcbhofbikdfiaaDoor
