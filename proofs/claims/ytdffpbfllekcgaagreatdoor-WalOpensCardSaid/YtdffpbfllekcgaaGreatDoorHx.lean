/- WalK, WalL, in one text. -/
import Derived.Test.YtdffpbfllekcgaaGreatDoorHu
import Derived.Test.YtdffpbfllekcgaaGreatDoorHw
import Derived.Deep.RegionHeld3
import Derived.Lib.SmallJoins
import Derived.ArgAppend
import Derived.Shelf.SlIter.Collect
namespace Go.Proofs.YtdffpbfllekcgaaGreatDoor
set_option maxRecDepth 100000
open Go.ChangeShapes Go.WideShapes Go.RowKit M

/-- a log lies in block lb -/
structure LogAt (w : World) (lb b : Nat) (v : Value) (L : LS) : Prop where
  c0 : w.cell? ⟨lb, 0, none⟩ = some (.pointer (some ⟨b, 0, none⟩))
  c1 : w.cell? ⟨lb, 1, none⟩ = some (.int .i64 L.limit)
  c2 : w.cell? ⟨lb, 2, none⟩ = some (.int .u64 (L.next : Int))
  c3 : w.cell? ⟨lb, 3, none⟩ = some v
  c4 : w.cell? ⟨lb, 4, none⟩ = some (.string L.file)
  c5 : w.cell? ⟨lb, 5, none⟩ = some (.int .i64 (L.size : Int))
  c6 : w.cell? ⟨lb, 6, none⟩ = some (.bool L.dirty)
  fz : ∀ o, w.frozen? ⟨lb, o, none⟩ = false
  row : w.ownsRow 0 9 1 v L.found.length (L.found.map .string)
theorem LogAt.keep {w w' : World} {lb b : Nat} {v : Value} {L : LS} (h : LogAt w lb b v L) (hp : w'.heap[lb]? = w.heap[lb]?) (hk : ∀ k, v.ownBlock = some k → w'.heap[k]? = w.heap[k]?) : LogAt w' lb b v L :=
  ⟨(cell_keep hp).trans h.c0, (cell_keep hp).trans h.c1, (cell_keep hp).trans h.c2, (cell_keep hp).trans h.c3, (cell_keep hp).trans h.c4, (cell_keep hp).trans h.c5, (cell_keep hp).trans h.c6, fun o => (frozen_keep hp).trans (h.fz o), row_keep h.row hk⟩
theorem LogAt.s2 {w : World} {lb b : Nat} {v : Value} {L : LS} (h : LogAt w lb b v L) (hv : v.ownBlock ≠ some lb) (x : Nat) : LogAt (w.setCell ⟨lb, 2, none⟩ (.int .u64 (x : Int))) lb b v { L with next := x } :=
  ⟨(World.cell?_setCell_other _ _ _ _ (by simp)).trans h.c0, (World.cell?_setCell_other _ _ _ _ (by simp)).trans h.c1, World.cell?_setCell_same _ _ _ h.c2, (World.cell?_setCell_other _ _ _ _ (by simp)).trans h.c3, (World.cell?_setCell_other _ _ _ _ (by simp)).trans h.c4, (World.cell?_setCell_other _ _ _ _ (by simp)).trans h.c5, (World.cell?_setCell_other _ _ _ _ (by simp)).trans h.c6, fun o => by rw [frozen_setCell]; exact h.fz o, row_keep h.row fun k e => Below.heap_setCell _ _ _ _ (fun e2 => hv (by rw [e, e2]))⟩
theorem LogAt.s3 {w : World} {lb b : Nat} {v : Value} {L : LS} (h : LogAt w lb b v L) : LogAt (w.setCell ⟨lb, 3, none⟩ (.slice none 0 0)) lb b (.slice none 0 0) { L with found := [] } :=
  ⟨(World.cell?_setCell_other _ _ _ _ (by simp)).trans h.c0, (World.cell?_setCell_other _ _ _ _ (by simp)).trans h.c1, (World.cell?_setCell_other _ _ _ _ (by simp)).trans h.c2, World.cell?_setCell_same _ _ _ h.c3, (World.cell?_setCell_other _ _ _ _ (by simp)).trans h.c4, (World.cell?_setCell_other _ _ _ _ (by simp)).trans h.c5, (World.cell?_setCell_other _ _ _ _ (by simp)).trans h.c6, fun o => by rw [frozen_setCell]; exact h.fz o, World.ownsRow_nil _ _ _ _⟩
theorem LogAt.s4 {w : World} {lb b : Nat} {v : Value} {L : LS} (h : LogAt w lb b v L) (hv : v.ownBlock ≠ some lb) (x : ByteArray) : LogAt (w.setCell ⟨lb, 4, none⟩ (.string x)) lb b v { L with file := x } :=
  ⟨(World.cell?_setCell_other _ _ _ _ (by simp)).trans h.c0, (World.cell?_setCell_other _ _ _ _ (by simp)).trans h.c1, (World.cell?_setCell_other _ _ _ _ (by simp)).trans h.c2, (World.cell?_setCell_other _ _ _ _ (by simp)).trans h.c3, World.cell?_setCell_same _ _ _ h.c4, (World.cell?_setCell_other _ _ _ _ (by simp)).trans h.c5, (World.cell?_setCell_other _ _ _ _ (by simp)).trans h.c6, fun o => by rw [frozen_setCell]; exact h.fz o, row_keep h.row fun k e => Below.heap_setCell _ _ _ _ (fun e2 => hv (by rw [e, e2]))⟩
theorem LogAt.s5 {w : World} {lb b : Nat} {v : Value} {L : LS} (h : LogAt w lb b v L) (hv : v.ownBlock ≠ some lb) (x : Nat) : LogAt (w.setCell ⟨lb, 5, none⟩ (.int .i64 (x : Int))) lb b v { L with size := x } :=
  ⟨(World.cell?_setCell_other _ _ _ _ (by simp)).trans h.c0, (World.cell?_setCell_other _ _ _ _ (by simp)).trans h.c1, (World.cell?_setCell_other _ _ _ _ (by simp)).trans h.c2, (World.cell?_setCell_other _ _ _ _ (by simp)).trans h.c3, (World.cell?_setCell_other _ _ _ _ (by simp)).trans h.c4, World.cell?_setCell_same _ _ _ h.c5, (World.cell?_setCell_other _ _ _ _ (by simp)).trans h.c6, fun o => by rw [frozen_setCell]; exact h.fz o, row_keep h.row fun k e => Below.heap_setCell _ _ _ _ (fun e2 => hv (by rw [e, e2]))⟩
theorem LogAt.s6 {w : World} {lb b : Nat} {v : Value} {L : LS} (h : LogAt w lb b v L) (hv : v.ownBlock ≠ some lb) (x : Bool) : LogAt (w.setCell ⟨lb, 6, none⟩ (.bool x)) lb b v { L with dirty := x } :=
  ⟨(World.cell?_setCell_other _ _ _ _ (by simp)).trans h.c0, (World.cell?_setCell_other _ _ _ _ (by simp)).trans h.c1, (World.cell?_setCell_other _ _ _ _ (by simp)).trans h.c2, (World.cell?_setCell_other _ _ _ _ (by simp)).trans h.c3, (World.cell?_setCell_other _ _ _ _ (by simp)).trans h.c4, (World.cell?_setCell_other _ _ _ _ (by simp)).trans h.c5, World.cell?_setCell_same _ _ _ h.c6, fun o => by rw [frozen_setCell]; exact h.fz o, row_keep h.row fun k e => Below.heap_setCell _ _ _ _ (fun e2 => hv (by rw [e, e2]))⟩

/-- a disk, and a log of it -/
structure HasL (w : World) (lb b : Nat) (F D : Nat → Prop) (S : DS) (L : LS) : Prop where
  disk : HasF w b F S
  mine : F lb
  log : ∃ v, LogAt w lb b v L ∧ ∀ k, v.ownBlock = some k → F k ∧ k ≠ lb ∧ D k
theorem HasL.keep {w w' : World} {lb b : Nat} {F F' D : Nat → Prop} {S S' : DS} {L : LS} (h : HasL w lb b F D S L) (hd : HasF w' b F' S') (hF : ∀ k, F k → F' k) (hk : KeepF F w w') : HasL w' lb b F' D S' L := by
  obtain ⟨a, m, v, l, o⟩ := h
  exact ⟨hd, hF _ m, v, l.keep (hk.block _ m (a.lt m)) (fun k e => hk.block k (o k e).1 (a.lt (o k e).1)), fun k e => ⟨hF _ (o k e).1, (o k e).2⟩⟩
theorem HasL.below {w w' : World} {lb b : Nat} {F D : Nat → Prop} {S : DS} {L : LS} (h : HasL w lb b F D S L) (hb : Below w.heap.size w w') : HasL w' lb b F D S L :=
  h.keep (h.disk.below hb) (fun _ hf => hf) (KeepF.of_below hb)
theorem HasL.drewN {w : World} {lb b : Nat} {F D : Nat → Prop} {S : DS} {L : LS} (h : HasL w lb b F D S L) (n : Nat) : HasL (w.drewN n) lb b F D S L :=
  h.keep (h.disk.drewN n) (fun _ hf => hf) ((KeepF.refl _ _).drewN n)
theorem HasL.drew {w : World} {lb b : Nat} {F D : Nat → Prop} {S : DS} {L : LS} (h : HasL w lb b F D S L) : HasL w.drew lb b F D S L :=
  h.keep h.disk.drew (fun _ hf => hf) (KeepF.refl _ _).drew

/-- what a log's method leaves -/
def LP (lb b : Nat) (F D : Nat → Prop) (w : World) (r : Value) (S' : DS) (L' : LS) (e : Ending) (w' : World) : Prop := e = .returned r ∧ HasL w' lb b F D S' L' ∧ KeepF (fun k => F k ∧ k ≠ lb) w w'

theorem next_any (lb b : Nat) (F D : Nat → Prop) (S : DS) (L : LS) (w : World) (h : HasL w lb b F D S L) :
    Calls Tryz.prog 13 #[.pointer (some ⟨lb, 0, none⟩)] w fun e w' => e = .returned (.int .u64 (L.next : Int)) ∧ w = w' := by
  obtain ⟨v, l, _⟩ := h.log
  have c2 := l.c2
  clear h l
  go_enter Tryz.func13, Tryz.ntmps13
  go_wp2
  go_ret
  exact ⟨rfl, rfl⟩

/-- sizes of names -/
def NamesOk (L : LS) : Prop := (∀ x ∈ L.found, x.size ≤ 100) ∧ L.file.size ≤ 100

set_option maxHeartbeats 4000000 in
theorem lsync_any (lb b : Nat) (F D : Nat → Prop) (S : DS) (L : LS) (w : World) (k c : Nat) (h : HasL w lb b F D S L) (hz : Sz S k c) (hk : k ≤ 100000) (hc : c + L.found.length + 2 ≤ 100000000) (hn : NamesOk L) :
    Calls Tryz.prog 16 #[.pointer (some ⟨lb, 0, none⟩)] w (LP lb b F D w (.int .i64 (lsync S L).1) (lsync S L).2.1 (lsync S L).2.2) := by
  obtain ⟨hd, hm, v, l, ho⟩ := h
  obtain ⟨p, cp, rfl⟩ := own_len l.row
  have hlt := hd.lt hm
  obtain ⟨n, hn1⟩ : ∃ n, n = L.found.length := ⟨_, rfl⟩
  have row := l.row
  rw [← hn1] at row
  have c3 := l.c3
  rw [← hn1] at c3
  have hv : (Value.slice p L.found.length cp).ownBlock ≠ some lb := fun e => (ho lb e).2.1 rfl
  -- a file of those that were found
  have one : ∀ (Z : DS) (j : Nat) (x : ByteArray) (W : World), HasF W b F Z → Sz Z k (c + j) → j ≤ n → x ∈ L.found → Calls Tryz.prog 32 #[.pointer (some ⟨b, 0, none⟩), .string x] W (FP b F W (.int .i64 (syncC Z x)) (syncS Z x)) := fun Z j x W hW hZ hj hx =>
    sync_f b F Z x W hW (hZ.fine (by omega) (by omega)) (by have := hn.1 x hx; unfold maxLen; omega)
  have last : ∀ (Z : DS) (W : World), HasF W b F Z → Sz Z k (c + n) → Calls Tryz.prog 32 #[.pointer (some ⟨b, 0, none⟩), .string L.file] W (FP b F W (.int .i64 (syncC Z L.file)) (syncS Z L.file)) := fun Z W hW hZ =>
    sync_f b F Z L.file W hW (hZ.fine (by omega) (by omega)) (by have := hn.2; unfold maxLen; omega)
  have c0 := l.c0
  have ONE := Box.mk one; have LAST := Box.mk last; have LA := Box.mk l; have HO := Box.mk ho; have HV := Box.mk hv; have HM := Box.mk hm; have ROW := Box.mk row; have HLT := Box.mk hlt; have HN := Box.mk hn1
  have HD := Box.mk hd; have HZ := Box.mk hz
  have nl : n ≤ 100000000 := by omega
  clear one last l ho hv hm row hlt hd hz hn1 hn hc
  rw [← HN.out] at LA HO HV
  go_enter Tryz.func16, Tryz.ntmps16
  go_wp2_with fail
  go_loopw [12] (fun i wr => ∃ (j : Nat) (Z : DS), j ≤ n ∧ i = .int .i64 (j : Int) ∧ Box (HasF wr b F Z) ∧ Box (KeepF F w wr) ∧ Box (Sz Z k (c + j)) ∧ Box (syncL L.found S = syncL (L.found.drop j) Z)) (fun i _ => n - (intOf i).toNat)
  case atStart => exact ⟨0, S, by omega, rfl, HD, ⟨KeepF.refl _ _⟩, HZ, ⟨by simp⟩⟩
  case round =>
    obtain ⟨j, Z, hj, rfl, HF, HK, HS, HQ⟩ := hrel
    have q0 : wr.cell? ⟨lb, 0, none⟩ = some (.pointer (some ⟨b, 0, none⟩)) := (HK.out.cell HM.out HLT.out).trans c0
    by_cases hj1 : j < n
    · obtain ⟨x, hx⟩ : ∃ x, L.found[j]? = some x := ⟨_, List.getElem?_eq_getElem (by rw [← HN.out]; exact hj1)⟩
      have hmem : x ∈ L.found := List.mem_of_getElem? hx
      have hdrop : L.found.drop j = x :: L.found.drop (j + 1) := by
        obtain ⟨hl, e⟩ := List.getElem?_eq_some_iff.1 hx
        rw [← e]; exact List.drop_eq_getElem_cons hl
      have rw1 : wr.ownsRow 0 9 1 (.slice p n cp) n (L.found.map .string) := row_keep ROW.out (fun k e => HK.out.block k (HO.out k e).1 (HD.out.lt (HO.out k e).1))
      obtain ⟨g, cap, hvv, _⟩ := rw1.form (by omega)
      obtain ⟨rfl, _, rfl⟩ := Value.slice.inj hvv
      have hcell := rw1.cellAt j (by omega)
      rw [List.getElem?_map, hx] at hcell
      have hcell : wr.cell? ⟨g, j, none⟩ = some (.string x) := by simpa using hcell
      have K1 := Box.mk (fun W hW => ONE.out Z j x W hW HS.out hj hmem)
      have HS2 := Box.mk (HS.out.sync x)
      have hq : syncL L.found S = if syncC Z x = 0 then syncL (L.found.drop (j + 1)) (syncS Z x) else (syncC Z x, syncS Z x) := by rw [HQ.out, hdrop]; rfl
      generalize syncC Z x = cx at *
      generalize syncS Z x = Z' at *
      clear hx hdrop hmem hvv rw1 HQ
      by_cases h0 : cx = 0
      · subst h0
        rw [if_pos rfl] at hq
        have HQ := Box.mk hq
        clear hq
        go_wp2_with (go_at_call 32; ((with_reducible refine (K1.out _ HF.out).mono ?_); rintro e w2 ⟨rfl, d2, k2⟩; have D2 := Box.mk d2; have K2 := Box.mk (HK.out.trans k2); clear d2 k2 K1))
        go_roundw
        case rel => exact ⟨j + 1, Z', by omega, by go_num, D2, K2, HS2, HQ⟩
        case measure => simp [intOf]; omega
      · rw [if_neg h0] at hq
        have e1 : (cx != 0) = true := by simpa using h0
        have fin : (lsync S L) = (cx, Z', L) := by
          unfold lsync
          rw [hq, if_pos h0]
        have FIN := Box.mk fin
        clear hq fin h0
        go_wp2_with (go_at_call 32; ((with_reducible refine (K1.out _ HF.out).mono ?_); rintro e w2 ⟨rfl, d2, k2⟩; have D2 := Box.mk d2; have K2 := Box.mk (HK.out.trans k2); clear d2 k2 K1))
        go_ret
        rw [FIN.out]
        exact ⟨rfl, ⟨D2.out, HM.out, _, LA.out.keep (K2.out.block _ HM.out HLT.out) (fun k e => K2.out.block k (HO.out k e).1 (HD.out.lt (HO.out k e).1)), HO.out⟩, K2.out.mono (fun _ h => h.1)⟩
    · obtain rfl : j = n := by omega
      have hq : syncL L.found S = (0, Z) := by rw [HQ.out, HN.out, List.drop_length]; rfl
      have lw := LA.out.keep (w' := wr) (HK.out.block _ HM.out HLT.out) (fun k e => HK.out.block k (HO.out k e).1 (HD.out.lt (HO.out k e).1))
      have q3 := lw.c3
      have q4 := lw.c4
      have q6 := lw.c6
      have f3 := lw.fz 3
      have f6 := lw.fz 6
      have LW := Box.mk lw
      have D1 := Box.mk (HF.out.set (p := ⟨lb, 3, none⟩) HM.out (.slice none 0 0))
      have K1 := Box.mk ((HK.out.mono (fun k (h : F k ∧ k ≠ lb) => h.1)).set (p := ⟨lb, 3, none⟩) (fun h => h.2 rfl) (.slice none 0 0))
      have L1 := Box.mk lw.s3
      cases hdy : L.dirty with
      | false =>
        rw [hdy] at q6
        have fin : (lsync S L) = (0, Z, { L with found := [] }) := by
          unfold lsync
          rw [hq, if_neg (fun e => e rfl), if_pos hdy]
        have FIN := Box.mk fin
        clear hq fin lw HQ HN
        go_wp2_with fail
        go_ret
        rw [FIN.out]
        exact ⟨rfl, ⟨D1.out, HM.out, _, L1.out, fun k e => nomatch e⟩, K1.out⟩
      | true =>
        rw [hdy] at q6
        have K2 := Box.mk (fun W hW => LAST.out Z W hW (by rw [HN.out]; rw [← HN.out]; exact HS.out))
        have fin : (lsync S L) = (syncC Z L.file, syncS Z L.file, { L with found := [], dirty := decide (syncC Z L.file ≠ 0) }) := by
          unfold lsync
          rw [hq, if_neg (fun e => e rfl), if_neg (by rw [hdy]; decide)]
        have e1 : decide (syncC Z L.file ≠ 0) = (syncC Z L.file != 0) := by by_cases h : syncC Z L.file = 0 <;> simp [h]
        rw [e1] at fin
        generalize syncC Z L.file = cx at *
        generalize syncS Z L.file = Z' at *
        have FIN := Box.mk fin
        clear hq fin lw HQ HN e1
        go_wp2_with fail
        go_region_with (go_at_call 32; ((with_reducible refine (K2.out _ D1.out.drew).mono ?_); rintro e w2 ⟨rfl, d2, k2⟩; have D2 := Box.mk d2; have K3 := Box.mk k2; clear d2 k2))
        all_goals
          have D3 := Box.mk (D2.out.set (p := ⟨lb, 6, none⟩) HM.out (.bool (cx != 0)))
          have l2 := L1.out.keep (w' := w2) (K3.out.block _ HM.out (D1.out.lt HM.out)) (fun k e => nomatch e)
          have q6' := l2.c6
          have f6' := l2.fz 6
          have L2 := Box.mk (l2.s6 (fun e => nomatch e) (cx != 0))
          clear l2
          go_wp2_with fail
          go_ret
          rw [FIN.out]
          exact ⟨rfl, ⟨D3.out, HM.out, _, L2.out, fun k e => nomatch e⟩, (K1.out.drew.trans (K3.out.mono (fun k (h : F k ∧ k ≠ lb) => h.1))).set (p := ⟨lb, 6, none⟩) (fun h => h.2 rfl) _⟩
end Go.Proofs.YtdffpbfllekcgaaGreatDoor
namespace Go.Proofs.YtdffpbfllekcgaaGreatDoor
set_option maxRecDepth 100000
open Go.ChangeShapes Go.WideShapes Go.RowKit M

theorem wdig_str : ∀ q : Fin 16, ((⟨#[48, 49, 50, 51, 52, 53, 54, 55, 56, 57, 97, 98, 99, 100, 101, 102]⟩ : ByteArray)[q.1]?.map UInt8.toNat) = some (wdig q.1) := by decide
theorem wdig_index {q : Nat} (h : q < 16) (w : World) : (Instr.index 9 (.string ⟨#[48, 49, 50, 51, 52, 53, 54, 55, 56, 57, 97, 98, 99, 100, 101, 102]⟩) (.int .u64 (q : Int))).run Tryz.prog w = .ok (.int .u8 (wdig q : Nat)) w := by
  have e := wdig_str ⟨q, h⟩
  simp only at e
  cases hc : (⟨#[48, 49, 50, 51, 52, 53, 54, 55, 56, 57, 97, 98, 99, 100, 101, 102]⟩ : ByteArray)[q]? with
  | none => rw [hc] at e; simp at e
  | some c =>
    rw [hc] at e
    simp at e
    simp [Instr.index, run_underlying Tryz.underlying9, asIntOf, go_sem, hc, e]
theorem whex_get (q : Nat) : ∀ n k, k < n → (whex q n)[k]? = some (wdig (q / 16 ^ (n - 1 - k) % 16))
  | 0, k, h => by omega
  | n + 1, 0, _ => by unfold whex; simp
  | n + 1, k + 1, h => by
    unfold whex
    rw [List.getElem?_cons_succ, whex_get q n k (by omega), show n + 1 - 1 - (k + 1) = n - 1 - k by omega]
theorem nameL_next (q : Nat) {k : Nat} (h : k < 16) : (nameL q).take (4 + (k + 1)) = (nameL q).take (4 + k) ++ [wdig (q / 16 ^ (15 - k) % 16)] := by
  have e : (nameL q)[4 + k]? = some (wdig (q / 16 ^ (15 - k) % 16)) := by
    unfold nameL
    rw [show 4 + k = k + 1 + 1 + 1 + 1 by omega]
    simp only [List.getElem?_cons_succ]
    exact whex_get q 16 k h
  rw [show 4 + (k + 1) = (4 + k) + 1 by omega, List.take_add_one, e]
  rfl
theorem field_hex {q k : Nat} (hk : k < 16) : fieldN q (60 - 4 * (k : Int)) 4 = q / 16 ^ (15 - k) % 16 := by
  unfold fieldN
  rw [if_pos (by omega)]
  have e : (60 - 4 * (k : Int)).toNat = 4 * (15 - k) := by omega
  rw [e, Nat.pow_mul]
  rfl
theorem four_cells (w : World) (fr : Nat × Nat) : ∀ j u, (byts [119, 97, 108, 45])[j]? = some u → (w.alloc (.cells #[.int .u8 119, .int .u8 97, .int .u8 108, .int .u8 45] 5 fr)).cell? ⟨w.heap.size, j, none⟩ = some u := fun j u h => by
  have e := World.cell?_alloc_mark w #[.int .u8 119, .int .u8 97, .int .u8 108, .int .u8 45] 5 fr j
  rw [e, ← h]
  simp [byts]

set_option maxHeartbeats 1000000 in
theorem name_any (q : Nat) (hq : q < 18446744073709551616) (w : World) :
    Calls Tryz.prog 18 #[.int .u64 (q : Int)] w fun e w' => e = .returned (.string (nameM q)) ∧ Below w.heap.size w w' := by
  obtain ⟨i0, hi, hz0, hz1, hz2⟩ := info_parts info_byte
  have kc := fun (w : World) (C : Array Value) (n c : Nat) => Lib.run_convert_bytes_const (P := Tryz.prog) w 52 5 C n c Tryz.underlying52 Tryz.underlying5
  have R4 := Box.mk (four_cells w (4, 5))
  have B0 := Box.mk ((Below.refl w.heap.size w).alloc (Nat.le_refl _) (.cells #[.int .u8 119, .int .u8 97, .int .u8 108, .int .u8 45] 5 (4, 5)))
  go_enter Tryz.func18, Tryz.ntmps18
  go_wp2_with fail
  clear kc
  go_loopw [3, 7] (fun o i wr => ∃ k : Nat, k ≤ 16 ∧ i = .int .i64 (k : Int) ∧ Box (Below w.heap.size w wr) ∧ ((k = 0 ∧ o = .slice (some ⟨w.heap.size, 0, none⟩) 4 4 ∧ Box (∀ j u, (byts [119, 97, 108, 45])[j]? = some u → wr.cell? ⟨w.heap.size, j, none⟩ = some u) ∧ Box (w.heap.size < wr.heap.size)) ∨
      (0 < k ∧ Box (wr.ownsRow w.heap.size 5 1 o (4 + k) (byts ((nameL q).take (4 + k)))) ∧ ∃ g cap, o = .slice (some ⟨g, 0, none⟩) (4 + k) cap)))
    (fun _ i _ => 16 - (intOf i).toNat)
  case atStart => exact ⟨0, by omega, rfl, B0, .inl ⟨rfl, rfl, R4, ⟨by simp⟩⟩⟩
  case round =>
    obtain ⟨k, hk, rfl, hB, hO⟩ := hrel
    clear R4 B0
    by_cases hlt : k < 16
    · have cf := fun W => wordField_any q (60 - 4 * (k : Int)) 4 hq W
      rw [field_hex hlt] at cf
      have hx := fun W => wdig_index (q := q / 16 ^ (15 - k) % 16) (Nat.mod_lt _ (by decide)) W
      have nx := nameL_next q hlt
      obtain ⟨d, hd⟩ : ∃ d, d = wdig (q / 16 ^ (15 - k) % 16) := ⟨_, rfl⟩
      rw [← hd] at hx nx
      generalize q / 16 ^ (15 - k) % 16 = x at *
      have CF := Box.mk cf; have NX := Box.mk nx
      clear cf nx hd
      rcases hO with ⟨hk0, rfl, FC, HS⟩ | ⟨h0, hO, g, cap, rfl⟩
      · have HK0 := Box.mk hk0; clear hk0
        go_wp2_with (first
          | (go_at_call 37; ((with_reducible refine (CF.out _).mono ?_); rintro e w3 ⟨rfl, rfl⟩))
          | (at_builtin; refine wpList_append_arg _ rfl (.tmp 10) (.tmp 17) 52 rfl 5 i0 _ 1 1 Tryz.underlying52 hi hz0 hz1 hz2 rfl (by omega) w.heap.size 0 4 4 (byts [119, 97, 108, 45]) rfl rfl (fun j u hj => by rw [Nat.zero_add]; exact (((Below.refl _ wr).alloc (Nat.le_refl _) _).cell (p := ⟨w.heap.size, j, none⟩) HS.out).trans (FC.out j u hj)) ⟨wr.heap.size, 0, none⟩ 1 1 [.int .u8 (d : Int)] rfl rfl (World.news_of_block (cs := #[.int .u8 (d : Int)]) (t := 5) (fr := (0, 0)) (heap_alloc_new _ _)) (by simp [Value.oneCell']) (fun h => absurd h (by omega)) (by unfold maxLen; omega) (by omega) (fun h => absurd h (by omega)) (fun _ v2 w4 hown2 hgrow => ?_); obtain ⟨g2, cap2, rfl, _, _⟩ := hown2.form (by omega); have O2 := Box.mk hown2; have B2 : Box (Below w.heap.size w w4) := ⟨(hB.out.alloc hB.out.size _).grown hgrow (by have := hB.out.size; simp; omega) (fun k hk => nomatch hk)⟩; clear hown2 hgrow))
        go_roundw
        case rel =>
          refine ⟨k + 1, by omega, by go_num, B2, .inr ⟨by omega, ⟨?_⟩, g2, cap2, by rw [HK0.out]⟩⟩
          have h := ownsRow_base_a O2.out (by have := hB.out.size; simp; omega : w.heap.size ≤ (wr.alloc (.cells #[.int .u8 (d : Int)] 5)).heap.size)
          rw [NX.out, HK0.out]
          simpa [byts, nameL] using h
        case measure => simp [intOf]; omega
      · go_wp2_with (first
          | (go_at_call 37; ((with_reducible refine (CF.out _).mono ?_); rintro e w3 ⟨rfl, rfl⟩))
          | (at_builtin; refine wpList_append_lies _ rfl (.tmp 10) (.tmp 17) 52 rfl w.heap.size 5 i0 _ 1 1 Tryz.underlying52 hi hz0 hz1 hz2 rfl (by omega) _ _ _ rfl (hO.out.alloc _) ⟨wr.heap.size, 0, none⟩ 1 1 [.int .u8 (d : Int)] rfl rfl (World.news_of_block (cs := #[.int .u8 (d : Int)]) (t := 5) (fr := (0, 0)) (heap_alloc_new _ _)) (by simp [Value.oneCell']) (by omega) (by unfold maxLen; omega) (by omega) (by have := hB.out.size; simp; omega) (wr.heap.size + 1) (by simp) ?_; intro g2 cap2 w4 hown2 hgrow hat hlt2; have O2 := Box.mk hown2; have B2 : Box (Below w.heap.size w w4) := ⟨(hB.out.alloc hB.out.size _).grown hgrow (by have := hB.out.size; simp; omega) (fun k hk => (hO.out.lt k hk).1)⟩; clear hown2 hgrow hat hlt2))
        go_roundw
        case rel =>
          refine ⟨k + 1, by omega, by go_num, B2, .inr ⟨by omega, ⟨?_⟩, g2, cap2, by rw [show 4 + (k + 1) = 4 + k + 1 by omega]⟩⟩
          have h := O2.out
          rw [NX.out, show 4 + (k + 1) = 4 + k + 1 by omega]
          simpa [byts] using h
        case measure => simp [intOf]; omega
    · obtain rfl : 16 = k := by omega
      rcases hO with ⟨h, _⟩ | ⟨_, hO, g, cap, rfl⟩
      · omega
      have ho := hO.out
      rw [List.take_of_length_le (by rw [nameL_length]; omega)] at ho
      have hconv := conv_bytes ho
      rw [show bs (nameL q) = nameM q from rfl] at hconv
      clear ho hO
      go_wp2
      go_ret
      exact ⟨rfl, hB.out⟩
end Go.Proofs.YtdffpbfllekcgaaGreatDoor
