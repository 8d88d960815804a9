/- Contracts of lex: split. -/
import Derived.Test.YtmgipjkdeoelgaaDoorLexC
namespace Go.Proofs.YtmgipjkdeoelgaaDoor
set_option maxRecDepth 100000
open Go.RowKit

theorem info_token : (Tryd.prog.info? 49).map (fun i => (i.zero, i.size, i.bytes)) = some (some (.agg #[.int .i64 0, .string ⟨#[]⟩, .int .u64 0]), 3, 32) := by kernel_rfl
/-- the cells of a token -/
def tokC (t : Tok) : List Value := [.int .i64 (t.1 : Nat), .string (st t.2.1), .int .u64 (t.2.2 : Nat)]
/-- a row of tokens -/
def TokRow (w : World) (B : Nat) (v : Value) (ts : List Tok) : Prop := w.ownsRow B 49 3 v ts.length (ts.flatMap tokC)
theorem TokRow.raw {w : World} {B : Nat} {v : Value} {ts : List Tok} (h : TokRow w B v ts) : w.ownsRow B 49 3 v ts.length (ts.flatMap tokC) := h
theorem twoCell (w : World) (C : Array Value) (t : TypeId) (o : Obj) (j : Nat) : ((w.alloc (.cells C t)).alloc o).cell? ⟨w.heap.size, j, none⟩ = C[j]? := by
  have h : ((w.alloc (.cells C t)).alloc o).heap[w.heap.size]? = some (.cells C t (0, 0)) := by
    have e := (((Below.refl (w.alloc (.cells C t)).heap.size (w.alloc (.cells C t))).alloc (Nat.le_refl _) o).block w.heap.size (by simp))
    rw [e]; exact heap_alloc_new _ _
  exact cellOf h j
theorem TokRow.nil (w : World) (B : Nat) : TokRow w B (.slice none 0 0) [] := World.ownsRow_nil _ _ _ _

/-- what split answers -/
def SplitP (s : List UInt8) (w : World) (e : Ending) (w' : World) : Prop :=
  (match toks s with
    | some ts => ∃ v, e = .returned (.tuple #[v, .bool true]) ∧ TokRow w' w.heap.size v ts
    | none => e = .returned (.tuple #[.slice none 0 0, .bool false])) ∧ Below w.heap.size w w'

theorem drop_size (T : ByteArray) (n : Nat) : by' (T.extract n T.size) = (by' T).drop n := by
  rw [← st_by T, st_part, by_st, by_st, st_size]
  exact List.take_of_length_le (by simp)

set_option maxHeartbeats 1600000 in
theorem split_any (T : ByteArray) (hT : T.size ≤ 1000000) (w : World) (hL : LibW w) :
    Calls Tryd.prog 11 #[.string T] w (SplitP (by' T) w) := by
  obtain ⟨i0, hi, hz0, hz1, hz2⟩ := info_parts info_token
  have HL := Bx.mk hL; clear hL
  go_enter Tryd.func11, Tryd.ntmps11
  go_wp2_with fail
  go_loopw [0, 4] (fun s v wr => ∃ (R : ByteArray) (D : List Tok), s = .string R ∧ R.size ≤ T.size ∧ D.length + R.size ≤ T.size ∧ Bx (toks (by' T) = (toks (by' R)).map (D ++ ·)) ∧ Bx (TokRow wr w.heap.size v D) ∧ Bx (Below w.heap.size w wr) ∧ ∃ p l c, v = .slice p l c)
    (fun s _ _ => match s with | .string R => R.size | _ => 0)
  case atStart => exact ⟨T, [], rfl, Nat.le_refl _, by simp, ⟨by simp⟩, ⟨TokRow.nil _ _⟩, ⟨Below.refl _ _⟩, _, _, _, rfl⟩
  case round =>
    obtain ⟨R, D, rfl, hR, hD, htk, hrow, hb, p, l, c, rfl⟩ := hrel
    have ct := fun W => trimLeft_any R W
    have hdl := dropWhile_le (p := blk) (by' R)
    rw [by_size] at hdl
    by_cases h0 : (by' R).dropWhile blk = []
    · rw [h0] at ct
      have e := htk.out
      rw [toks_end h0] at e
      have E := Bx.mk e; have CT := Bx.mk ct
      clear e ct h0 hdl htk
      have ct2 : ∀ W, Calls Tryd.prog 15 #[.string R, .string ⟨#[32, 9]⟩] W fun e w' => e = .returned (.string ⟨#[]⟩) ∧ Below W.heap.size W w' := CT.out
      have CT2 := Bx.mk ct2; clear ct2 CT
      go_wp2_with (first
        | (go_at_call 15; ((with_reducible refine (CT2.out _).mono ?_); rintro e w1 ⟨rfl, b1⟩; have B1 := Bx.mk b1; clear b1)))
      go_ret2
      unfold SplitP
      rw [E.out]
      exact ⟨⟨_, rfl, by show TokRow w1 w.heap.size (.slice p l c) (D ++ []); rw [List.append_nil]; exact rowBel hrow.out B1.out⟩, bel' hb.out hb.out.size B1.out⟩
    · obtain ⟨S, hS⟩ : ∃ S, S = st ((by' R).dropWhile blk) := ⟨_, rfl⟩
      have hSb : by' S = (by' R).dropWhile blk := by rw [hS, by_st]
      have hSz : S.size ≤ R.size := by rw [hS, st_size]; exact hdl
      have hS0 : 0 < S.size := by
        rw [hS, st_size]
        cases h : (by' R).dropWhile blk with
        | nil => exact absurd h h0
        | cons _ _ => simp
      have hemp : S.toList.isEmpty = false := by
        rw [Lib.toList_data]
        show (by' S).isEmpty = false
        rw [hSb]
        cases h : (by' R).dropWhile blk with
        | nil => exact absurd h h0
        | cons _ _ => rfl
      rw [← hS] at ct
      have cf := fun W h => first_any S (by omega) hS0 W h
      cases hf : firstL (by' S) with
      | none =>
        have e := htk.out
        rw [toks_bad h0 (by rw [← hSb]; exact hf)] at e
        have cf2 : ∀ W, LibW W → Calls Tryd.prog 16 #[.string S] W fun e w' => (∃ k x n, e = .returned (.tuple #[.agg #[.int .i64 k, .string x, .int .u64 n], .bool false])) ∧ Below W.heap.size W w' := fun W h => by
          have c := cf W h
          unfold FirstP at c
          rw [hf] at c; exact c
        have E := Bx.mk e; have CT := Bx.mk ct; have CF := Bx.mk cf2
        clear e ct cf cf2 hf htk h0 hS hSb hdl
        go_wp2_with (first
          | (go_at_call 15; ((with_reducible refine (CT.out _).mono ?_); rintro e w1 ⟨rfl, b1⟩; have B1 := Bx.mk (bel' hb.out hb.out.size b1); clear b1))
          | (go_at_call 16; ((refine (CF.out _ (HL.out.below B1.out)).mono ?_); rintro e w2 ⟨⟨k, x, n, rfl⟩, b2⟩; have B2 := Bx.mk (bel B1.out b2); clear b2)))
        go_ret2
        unfold SplitP
        rw [E.out]
        exact ⟨rfl, B2.out.alloc B2.out.size _⟩
      | some t =>
        have e := htk.out
        have hf' := hf
        rw [hSb] at hf'
        rw [toks_more h0 hf', ← hSb] at e
        have hl := firstL_len hf
        rw [by_size] at hl
        have cf2 : ∀ W, LibW W → Calls Tryd.prog 16 #[.string S] W fun e w' => e = .returned (.tuple #[.agg #[.int .i64 (t.1 : Nat), .string (st t.2.1), .int .u64 (t.2.2 : Nat)], .bool true]) ∧ Below W.heap.size W w' := fun W h => by
          have c := cf W h
          unfold FirstP at c
          rw [hf] at c; exact c
        obtain ⟨n, hn⟩ : ∃ n, n = t.2.1.length := ⟨_, rfl⟩
        have hts : (st t.2.1).size = n := by rw [st_size, hn]
        rw [← hn] at e hl
        have hdr := drop_size S n
        rw [← hdr] at e
        have hes : (S.extract n S.size).size = S.size - n := by simp
        obtain ⟨T2, hT2⟩ : ∃ T2, T2 = st t.2.1 := ⟨_, rfl⟩
        rw [← hT2] at cf2 hts
        have E := Bx.mk e; have CT := Bx.mk ct; have CF := Bx.mk cf2; have W2 := Bx.mk hT2; have HES := Bx.mk hes
        have h31 := hl.1; have h32 := hl.2.1
        clear e ct cf cf2 hf hf' htk h0 hS hSb hdl hn hl hT2 hdr hes
        go_wp2_with (first
          | (go_at_call 15; ((with_reducible refine (CT.out _).mono ?_); rintro e w1 ⟨rfl, b1⟩; have R1 := Bx.mk (rowBel hrow.out b1); have B1 := Bx.mk (bel' hb.out hb.out.size b1); clear b1))
          | (go_at_call 16; ((refine (CF.out _ (HL.out.below B1.out)).mono ?_); rintro e w2 ⟨rfl, b2⟩; have R2 := Bx.mk (rowBel R1.out b2); have B2 := Bx.mk (bel' B1.out B1.out.size b2); clear b2))
          | (at_builtin; refine wpList_append_lies _ rfl (.tmp 19) (.tmp 21) 33 rfl w.heap.size 49 i0 _ 3 32 Tryd.underlying33 hi hz0 hz1 hz2 rfl (by omega) _ D.length (D.flatMap tokC) rfl ((R2.out.alloc _).alloc _) ⟨w2.heap.size + 1, 0, none⟩ 1 1 [.int .i64 (t.1 : Nat), .string T2, .int .u64 (t.2.2 : Nat)] rfl rfl (by have e := World.news_of_block (w := (w2.alloc (.cells #[.int .i64 (t.1 : Nat), .string T2, .int .u64 (t.2.2 : Nat)] 49)).alloc (.cells #[.int .i64 (t.1 : Nat), .string T2, .int .u64 (t.2.2 : Nat)] 49)) (cs := #[.int .i64 (t.1 : Nat), .string T2, .int .u64 (t.2.2 : Nat)]) (t := 49) (fr := (0, 0)) (heap_alloc_new _ _); simpa using e) (by simp [Value.oneCell']) (by omega) (by unfold maxLen; omega) (by omega) (by have := B2.out.size; simp; omega) (w2.heap.size + 2) (by simp) ?_; intro g cap w3 hown3 hgrow hat hlt3; have O3 := Bx.mk hown3; have B3 : Bx (Below w.heap.size w w3) := ⟨((B2.out.alloc B2.out.size _).alloc (by have := B2.out.size; simp; omega) _).grown hgrow (by have := B2.out.size; simp; omega) (fun k hk => (rowLt R2.out k hk).1)⟩; have x1 := hgrow.cell (a := ⟨w2.heap.size, 1, none⟩) (v := .string T2) (by rw [twoCell]; rfl) (fun e => absurd (rowLt R2.out _ e.symm).2 (Nat.lt_irrefl _)); clear hown3 hgrow hat hlt3))
        go_roundw
        case rel =>
          refine ⟨S.extract n S.size, D ++ [t], rfl, ?_, ?_, ⟨?_⟩, ⟨?_⟩, B3, _, _, _, rfl⟩
          · rw [HES.out]; omega
          · rw [HES.out, List.length_append]; simp; omega
          · rw [E.out, Option.map_map]
            congr 1
            funext x
            simp
          · have h := O3.out
            rw [W2.out] at h
            unfold TokRow
            rw [List.length_append, List.flatMap_append]
            exact h
        case measure =>
          show (S.extract n S.size).size < R.size
          rw [HES.out]; omega
end Go.Proofs.YtmgipjkdeoelgaaDoor
