/- WalWhole: without a crash Open finds all records. -/
import Derived.Test.YtpmjmkgokaafaaaGreatDoorIb
namespace Go.Proofs.YtpmjmkgokaafaaaGreatDoor
set_option maxRecDepth 100000
open Go.ChangeShapes Go.WideShapes Go.RowKit M

theorem Calm.alive {S : DS} (h : Calm S) : S.dead = false := h.1
/-- the first records of a law -/
def rcs (ss : Nat → ByteArray) (j : Nat) : List (List Nat) := (List.range j).map (rcN ss)
theorem rcs_len (ss : Nat → ByteArray) (j : Nat) : (rcs ss j).length = j := by simp [rcs]
theorem rcs_succ (ss : Nat → ByteArray) (j : Nat) : rcs ss (j + 1) = rcs ss j ++ [rcN ss j] := by simp [rcs, List.range_succ]
theorem strs_len (X : List (List Nat)) : (strs X).length = X.length := by simp [strs]
theorem strs_app (X Y : List (List Nat)) : strs (X ++ Y) = strs X ++ strs Y := by simp [strs]
theorem strs_sb (s : ByteArray) : strs [sb s] = [.string s] := by unfold strs; rw [List.map_cons, bs_list]; rfl

theorem wbdr {B : Nat} {w0 w : World} (h : Below B w0 w) (n : Nat) : Below B w0 (w.drewN n) := ⟨h.os, h.tape, h.output, h.size, h.block⟩
theorem wown_drewN {w : World} {B e z : Nat} {v : Value} {n : Nat} {xs : List Value} (h : w.ownsRow B e z v n xs) (k : Nat) : (w.drewN k).ownsRow B e z v n xs := h
set_option maxHeartbeats 400000 in
theorem wsame_any (p1 p2 : Option Addr) (n k1 k2 B1 B2 : Nat) (L : List Value) (hn : n ≤ 1000000) (hL : ∀ j, j < n → ∃ s, L[j]? = some (.string s)) (w : World) (o1 : w.ownsRow B1 9 1 (.slice p1 n k1) n L) (o2 : w.ownsRow B2 9 1 (.slice p2 n k2) n L) :
    Calls Tryz.prog 33 #[.slice p1 n k1, .slice p2 n k2] w fun e w' => e = .returned (.int .i64 0) ∧ Below w.heap.size w w' := by
  have O1 := Box.mk o1; have O2 := Box.mk o2; have HL := Box.mk hL
  clear o1 o2 hL
  go_enter Tryz.func33, Tryz.ntmps33
  go_wp2_with fail
  go_loopw [5, 13] (fun _ i wr => ∃ k : Nat, k ≤ n ∧ i = .int .i64 (k : Int) ∧ Box (wr.ownsRow B1 9 1 (.slice p1 n k1) n L) ∧ Box (wr.ownsRow B2 9 1 (.slice p2 n k2) n L) ∧ Box (Below w.heap.size w wr))
    (fun _ i _ => n - (intOf i).toNat)
  case atStart => exact ⟨0, by omega, rfl, O1, O2, ⟨Below.refl _ _⟩⟩
  case round =>
    obtain ⟨k, hk, rfl, h1, h2, hb⟩ := hrel
    by_cases hlt : k < n
    · obtain ⟨g1, cap1, hv1⟩ := h1.out.form (by omega)
      obtain ⟨rfl, _, rfl⟩ := Value.slice.inj hv1.1
      obtain ⟨g2, cap2, hv2⟩ := h2.out.form (by omega)
      obtain ⟨rfl, _, rfl⟩ := Value.slice.inj hv2.1
      have hc1 := h1.out.cellAt k (by omega)
      have hc2 := h2.out.cellAt k (by omega)
      obtain ⟨S, hS⟩ := HL.out k hlt
      rw [hS] at hc1 hc2
      clear hv1 hv2 hS O1 O2
      go_wp2_with fail
      go_quiet (fail)
      go_wp2_with fail
      go_roundw
      case rel => exact ⟨k + 1, by omega, by go_num, ⟨wown_drewN h1.out _⟩, ⟨wown_drewN h2.out _⟩, ⟨wbdr hb.out _⟩⟩
      case measure => simp [intOf]; omega
    · obtain rfl : k = n := by omega
      go_wp2
      go_ret
      exact ⟨rfl, hb.out⟩

/-- a list of strings of the law's own beside a log -/
structure Mine (w0 w : World) (lb : Nat) (F D : Nat → Prop) (v : Value) (xs : List Value) : Prop where
  row : w.ownsRow w0.heap.size 9 1 v xs.length xs
  own : ∀ k, v.ownBlock = some k → F k ∧ k ≠ lb ∧ ¬ D k
  low : ∀ k, D k → k < w.heap.size
theorem Mine.keep {w0 w w' : World} {lb : Nat} {F D : Nat → Prop} {v : Value} {xs : List Value} (h : Mine w0 w lb F D v xs) (hk : KeepF (fun k => F k ∧ k ≠ lb) w w') : Mine w0 w' lb F D v xs :=
  ⟨row_keep h.row (fun k e => hk.block k ⟨(h.own k e).1, (h.own k e).2.1⟩ (h.row.lt k e).2), h.own, fun k hd => Nat.lt_of_lt_of_le (h.low k hd) hk.size⟩
/-- the law's list grows -/
theorem Run.grown {w0 w w' : World} {lb b : Nat} {F D : Nat → Prop} {S : DS} {L : LS} {X : List (List Nat)} {t s : Nat} {v : Value} {xs : List Value} (h : Run w0 w lb b F D S L X t s) (m : Mine w0 w lb F D v xs) (hg : w.grownBy w' v.ownBlock) :
    Run w0 w' lb b (fun k => F k ∨ (w.heap.size ≤ k ∧ k < w'.heap.size)) D S L X t s := by
  obtain ⟨dk, mn, lv, la, lo⟩ := h.log
  have hlb := dk.lt mn
  refine ⟨⟨dk.mine hg.size (fun k hk hn => hg.block k hk (fun e => hn (m.own k e.symm).1)) (fun _ hf => hf), .inl mn, lv, la.keep (hg.block lb hlb (fun e => (m.own lb e.symm).2.1 rfl)) (fun k e => hg.block k (dk.lt (lo k e).1) (fun e2 => (m.own k e2.symm).2.2 (lo k e).2.2)), fun k e => ⟨.inl (lo k e).1, (lo k e).2⟩⟩, h.st, fun k hk => .inl (h.old k hk), h.lbB, ?_⟩
  refine h.bel.grown hg h.bel.size (fun k e => (m.row.lt k e).1)
theorem Mine.grown {w0 w w' : World} {lb b : Nat} {F D : Nat → Prop} {S : DS} {L : LS} {X : List (List Nat)} {t s : Nat} {v v' : Value} {xs ys : List Value} (h : Run w0 w lb b F D S L X t s) (m : Mine w0 w lb F D v xs) (hg : w.grownBy w' v.ownBlock) (hr : w'.ownsRow w0.heap.size 9 1 v' (xs ++ ys).length (xs ++ ys)) (hv : ∀ k, v'.ownBlock = some k → v.ownBlock = some k ∨ w.heap.size ≤ k) :
    Mine w0 w' lb (fun k => F k ∨ (w.heap.size ≤ k ∧ k < w'.heap.size)) D v' (xs ++ ys) := by
  have hlb := h.log.disk.lt h.log.mine
  refine ⟨hr, fun k e => ?_, fun k hd => Nat.lt_of_lt_of_le (m.low k hd) hg.size⟩
  rcases hv k e with e2 | e2
  · exact ⟨.inl (m.own k e2).1, (m.own k e2).2⟩
  · exact ⟨.inr ⟨e2, (hr.lt k e).2⟩, by omega, fun hd => by have := m.low k hd; omega⟩
/-- blocks are new -/
theorem Run.below {w0 w w' : World} {lb b : Nat} {F D : Nat → Prop} {S : DS} {L : LS} {X : List (List Nat)} {t s : Nat} (h : Run w0 w lb b F D S L X t s) (hb : Below w.heap.size w w') : Run w0 w' lb b F D S L X t s :=
  ⟨h.log.below hb, h.st, h.old, h.lbB, h.bel.trans (hb.mono h.bel.size)⟩
theorem Mine.below {w0 w w' : World} {lb : Nat} {F D : Nat → Prop} {v : Value} {xs : List Value} (m : Mine w0 w lb F D v xs) (hb : Below w.heap.size w w') : Mine w0 w' lb F D v xs := m.keep (KeepF.of_below hb)
/-- the list beside a log that has just been opened -/
theorem Mine.opened {w0 w w' : World} {lb lb' b : Nat} {F D : Nat → Prop} {S : DS} {L : LS} {X : List (List Nat)} {t s : Nat} {v : Value} {xs : List Value} (_h : Run w0 w lb b F D S L X t s) (m : Mine w0 w lb F D v xs) (hb : Below w.heap.size w w') (hl : w.heap.size ≤ lb') :
    Mine w0 w' lb' (fun k => F k ∨ (w.heap.size ≤ k ∧ k < w'.heap.size)) (fun k => w.heap.size ≤ k ∧ k < w'.heap.size) v xs := by
  refine ⟨row_keep m.row (fun k e => hb.block k (m.row.lt k e).2), fun k e => ⟨.inl (m.own k e).1, ?_, ?_⟩, fun k hd => hd.2⟩
  · have := (m.row.lt k e).2; omega
  · intro hd; have := (m.row.lt k e).2; have := hd.1; omega

theorem own_grew {v : Value} {g k f f' n cap : Nat} (hat : v.ownBlock = some g ∨ g = f) (e : (Value.slice (some ⟨g, 0, none⟩) n cap).ownBlock = some k) (hf : f' ≤ f) : v.ownBlock = some k ∨ f' ≤ k := by
  have e2 : g = k := by simpa [Value.ownBlock] using e
  subst e2
  rcases hat with h | h
  · exact .inl h
  · exact .inr (by omega)
/-- the log is opened: n records -/
def OpenN (w0 : World) (b : Nat) (F : Nat → Prop) (S : DS) (X : List (List Nat)) (n t s : Nat) (w : World) (e : Ending) (w' : World) : Prop :=
  ∃ lb p c L, e = .returned (.tuple #[.pointer (some ⟨lb, 0, none⟩), .slice p n c, .int .i64 0]) ∧ Run w0 w' lb b (fun k => F k ∨ (w.heap.size ≤ k ∧ k < w'.heap.size)) (fun k => w.heap.size ≤ k ∧ k < w'.heap.size) S L X t s ∧ w.heap.size ≤ lb ∧ (∀ k, (Value.slice p n c).ownBlock = some k → k ≠ lb) ∧
    w'.ownsRow w.heap.size 9 1 (.slice p n c) n (strs X) ∧ Below w.heap.size w w'
theorem open_n {w0 w : World} {b : Nat} {F : Nat → Prop} {S : DS} {X : List (List Nat)} {t s n : Nat} (h : RunD w0 w b F S X t s) (hn : X.length = n) (hd : S.dead = false) (ht : t ≤ 600) (limit : Int) (hl : limit ≤ 9223372036854775807) (hL : LibW w0) (hH : Halves w0) :
    Calls Tryz.prog 6 #[.pointer (some ⟨b, 0, none⟩), .int .i64 limit] w (OpenN w0 b F S X n t s w) := by
  subst hn
  exact open_run h hd ht limit hl hL hH
theorem strs_all (X : List (List Nat)) : ∀ j, j < X.length → ∃ s, (strs X)[j]? = some (.string s) := fun j hj => ⟨bs X[j], by unfold strs; rw [List.getElem?_map, List.getElem?_eq_getElem hj]; rfl⟩
/-- a new list of no strings -/
theorem Mine.fresh {w0 w : World} {lb b : Nat} {F D : Nat → Prop} {S : DS} {L : LS} {X : List (List Nat)} {t s : Nat} (h : Run w0 w lb b F D S L X t s) (hd : ∀ k, D k → k < w.heap.size) :
    Run w0 (w.alloc (.cells #[] 9)) lb b (fun k => F k ∨ (w.heap.size ≤ k ∧ k < (w.alloc (.cells #[] 9)).heap.size)) D S L X t s ∧ Mine w0 (w.alloc (.cells #[] 9)) lb (fun k => F k ∨ (w.heap.size ≤ k ∧ k < (w.alloc (.cells #[] 9)).heap.size)) D (.slice (some ⟨w.heap.size, 0, none⟩) 0 0) [] := by
  have hlb := h.log.disk.lt h.log.mine
  have hb : Below w.heap.size w (w.alloc (.cells #[] 9)) := (Below.refl _ _).alloc (Nat.le_refl _) _
  have sz : (w.alloc (.cells #[] 9)).heap.size = w.heap.size + 1 := by simp
  refine ⟨⟨h.log.keep (h.log.disk.mine (by omega) (fun k hk _ => hb.block k hk) (fun _ hf => hf)) (fun _ hf => .inl hf) (KeepF.of_below hb), h.st, fun k hk => .inl (h.old k hk), h.lbB, h.bel.trans (hb.mono h.bel.size)⟩, ⟨World.ownsRow_made w #[] 0 h.bel.size (by unfold maxLen; omega) rfl, fun k e => ?_, fun k hk => by have := hd k hk; omega⟩⟩
  have e2 : k = w.heap.size := by simpa [Value.ownBlock] using e.symm
  rw [e2]
  exact ⟨.inr ⟨Nat.le_refl _, by omega⟩, by omega, fun hk => by have := hd _ hk; omega⟩

end Go.Proofs.YtpmjmkgokaafaaaGreatDoor
