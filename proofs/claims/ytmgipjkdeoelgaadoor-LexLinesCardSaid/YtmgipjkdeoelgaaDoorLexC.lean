/- Contracts of lex: bare, first, split. -/
import Derived.Test.YtmgipjkdeoelgaaDoorLexB
namespace Go.Proofs.YtmgipjkdeoelgaaDoor
set_option maxRecDepth 100000
open Go.RowKit

theorem trimLeft_any (t : ByteArray) (w : World) :
    Calls Tryd.prog 15 #[.string t, .string ⟨#[32, 9]⟩] w fun e w' => e = .returned (.string (st ((by' t).dropWhile blk))) ∧ Below w.heap.size w w' := by
  have h := Any.strings_TrimLeft_laid Tryd.lays161 (by kernel_rfl) t ⟨#[32, 9]⟩ w (by decide) (fun j b hj => by
    have hm := List.mem_of_getElem? hj
    have : ∀ x ∈ [(32 : UInt8), 9], x.toNat < 128 := by decide
    exact this b hm)
  have e : Lib.trimLeftS t.data.toList [32, 9] = (by' t).dropWhile blk := by
    unfold Lib.trimLeftS
    have e2 : (fun c : UInt8 => [(32 : UInt8), 9].contains c) = blk := by
      funext c
      simp only [blk, List.contains_cons, List.contains_nil, Bool.or_false]
    show List.dropWhile (fun c : UInt8 => [(32 : UInt8), 9].contains c) _ = _
    rw [e2]; rfl
  have h2 : Calls Tryd.prog 15 #[.string t, .string ⟨#[32, 9]⟩] w fun e w' => e = .returned (.string (st (Lib.trimLeftS t.data.toList [32, 9]))) ∧ Below w.heap.size w w' := h
  rw [e] at h2
  exact h2

theorem bare_any (t : ByteArray) (ht : t.size ≤ 1000000) (w : World) (hL : LibW w) :
    Calls Tryd.prog 12 #[.string t] w fun e w' => e = .returned (.string (st (bareL (by' t)))) ∧ Below w.heap.size w w' := by
  obtain ⟨m, hm⟩ := hL.max
  have c1 : ∀ W, Calls Tryd.prog 18 #[.string t, .string ⟨#[13]⟩] W fun e w' => e = .returned (.string (st (Lib.trimSuffix (by' t) [13]))) ∧ w' = W := fun W => Tryd.strings_TrimSuffix t ⟨#[13]⟩ W (by omega)
  have hl := Lib.trimSuffix_le (by' t) [13]
  rw [by_size] at hl
  have c2 : ∀ W, W.cell? ⟨0, 0, none⟩ = some (.int .i64 m) → Calls Tryd.prog 17 #[.string (st (Lib.trimSuffix (by' t) [13])), .string ⟨#[35]⟩] W fun e w' => (∃ s f, e = .returned (.tuple #[.string (st (bareL (by' t))), .string s, .bool f])) ∧ ∃ n, w' = W.drewN n := fun W h =>
    (Tryd.strings_Cut (st (Lib.trimSuffix (by' t) [13])) ⟨#[35]⟩ m W (by rw [st_size]; omega) h).mono fun e w' ⟨h1, h2⟩ => ⟨⟨_, _, h1⟩, h2⟩
  generalize st (Lib.trimSuffix (by' t) [13]) = T at *
  generalize st (bareL (by' t)) = R at *
  have C1 := Bx.mk c1; have C2 := Bx.mk c2; have HM := Bx.mk hm
  clear c1 c2 hm hL
  go_enter Tryd.func12, Tryd.ntmps12
  go_wp2_with (first
    | (go_at_call 18; ((with_reducible refine (C1.out _).mono ?_); rintro e w1 ⟨rfl, rfl⟩))
    | (go_at_call 17; ((refine (C2.out _ HM.out).mono ?_); rintro e w2 ⟨⟨s, f, rfl⟩, ⟨n, rfl⟩⟩)))
  go_ret
  exact ⟨rfl, belDrewN (Below.refl _ _) _⟩

/-- a token as a value -/
def tokV (t : Tok) : Value := .agg #[.int .i64 (t.1 : Nat), .string (st t.2.1), .int .u64 (t.2.2 : Nat)]
/-- the token at the beginning, or none -/
def FirstP (s : List UInt8) (w : World) (e : Ending) (w' : World) : Prop :=
  (match firstL s with
    | some t => e = .returned (.tuple #[tokV t, .bool true])
    | none => ∃ k x n, e = .returned (.tuple #[.agg #[.int .i64 k, .string x, .int .u64 n], .bool false])) ∧ Below w.heap.size w w'
theorem FirstP.some {s : List UInt8} {t : Tok} (h : firstL s = some t) {w w' : World} {e : Ending} (he : e = .returned (.tuple #[tokV t, .bool true])) (hb : Below w.heap.size w w') : FirstP s w e w' := by
  unfold FirstP; rw [h]; exact ⟨he, hb⟩
theorem FirstP.none {s : List UInt8} (h : firstL s = Option.none) {w w' : World} {e : Ending} {k n : Int} {x : ByteArray} (he : e = .returned (.tuple #[.agg #[.int .i64 k, .string x, .int .u64 n], .bool false])) (hb : Below w.heap.size w w') : FirstP s w e w' := by
  unfold FirstP; rw [h]; exact ⟨⟨_, _, _, he⟩, hb⟩

theorem newBlock {w w2 : World} {o : Obj} (b : Below (w.alloc o).heap.size (w.alloc o) w2) : w2.heap[w.heap.size]? = some o := (b.block w.heap.size (by simp)).trans (heap_alloc_new _ _)
theorem cellOf {w : World} {b : Nat} {C : Array Value} {t : TypeId} {fr : Nat × Nat} (h : w.heap[b]? = some (.cells C t fr)) (o : Nat) : w.cell? ⟨b, o, none⟩ = C[o]? := by simp [World.cell?, h]
theorem thawOf {w : World} {b : Nat} {C : Array Value} {t : TypeId} (h : w.heap[b]? = some (.cells C t (0, 0))) (o : Nat) : w.frozen? ⟨b, o, none⟩ = false := by simp [World.frozen?, h]

set_option maxHeartbeats 1600000 in
theorem first_any (T : ByteArray) (hT : T.size ≤ 1000000) (h0 : 0 < T.size) (w : World) (hL : LibW w) :
    Calls Tryd.prog 16 #[.string T] w (FirstP (by' T) w) := by
  obtain ⟨c, l, hl⟩ : ∃ c l, by' T = c :: l := by
    cases h : by' T with
    | nil => rw [← by_size, h] at h0; cases h0
    | cons c l => exact ⟨c, l, rfl⟩
  have HL := Bx.mk hL; clear hL
  have hix : ∀ W, (Instr.index 9 (.string T) (.int .i64 0)).run Tryd.prog W = .ok (.int .u8 (c.toNat : Nat)) W := fun W => by
    have e := str_at (i := 0) h0 W
    rw [hl] at e; exact e
  have hc := c.toNat_lt
  by_cases hs : c = 61 ∨ c = 58
  · have hf : firstL (by' T) = some (3, [c], 0) := by
      rw [hl, firstL, if_pos (by rcases hs with rfl | rfl <;> decide)]
    have e1 : T.extract 0 1 = st [c] := by
      rw [← st_by T, st_part, hl]; rfl
    have HF := Bx.mk hf; clear hf
    rcases hs with rfl | rfl
    · go_enter Tryd.func16, Tryd.ntmps16
      go_wp2
      exact bodyPost_ret (v := .tuple #[tokV (3, [61], 0), .bool true]) (by simp [results, go_sem, tokV]) rfl (FirstP.some HF.out rfl ((Below.refl _ _).alloc (Nat.le_refl _) _))
    · go_enter Tryd.func16, Tryd.ntmps16
      go_wp2
      exact bodyPost_ret (v := .tuple #[tokV (3, [58], 0), .bool true]) (by simp [results, go_sem, tokV]) rfl (FirstP.some HF.out rfl ((Below.refl _ _).alloc (Nat.le_refl _) _))
  · have hs1 : (c == 61 || c == 58) = false := by simpa using hs
    have n1 : c.toNat ≠ 61 := fun e => hs (.inl (UInt8.toNat_inj.1 e))
    have n2 : c.toNat ≠ 58 := fun e => hs (.inr (UInt8.toNat_inj.1 e))
    have cl := fun W => isLetter_any c W
    have cd := fun W => isDigit_any c W
    have cs := fun W => size_any T hT W
    obtain ⟨n, hn⟩ : ∃ n, n = ((by' T).takeWhile isA).length := ⟨_, rfl⟩
    have hnl : n ≤ T.size := by
      have := takeWhile_le (p := isA) (by' T)
      rw [by_size] at this; omega
    have htk := takeWhile_take (p := isA) (by' T)
    have e1 : T.extract 0 n = st ((by' T).takeWhile isA) := by
      rw [htk, ← hn, ← st_by T, st_part, by_st]; simp
    have hfl : firstL (by' T) = if isL c then some (1, (by' T).takeWhile isA, 0) else if isD c then (if (numR ((by' T).takeWhile isA)).1 = 0 then some (2, (by' T).takeWhile isA, (numR ((by' T).takeWhile isA)).2) else none) else none := by
      rw [hl, firstL, hs1]; simp
    rw [← hn] at cs
    have hwl : ((by' T).takeWhile isA).length ≤ 1000000 := by omega
    have cn := fun W h => number_any (st ((by' T).takeWhile isA)) (by rw [st_size]; exact hwl) W h
    rw [by_st] at cn
    generalize (by' T).takeWhile isA = word at *
    clear hn
    have q1 : ((c.toNat : Int) == 61) = false := by rw [beq_eq_false_iff_ne]; omega
    have q2 : ((c.toNat : Int) == 58) = false := by rw [beq_eq_false_iff_ne]; omega
    clear n1 n2
    cases h1 : isL c
    · cases h2 : isD c
      · rw [h1, h2] at hfl
        rw [h1] at cl
        rw [h2] at cd
        simp only [Bool.false_eq_true, if_false] at hfl
        have HF := Bx.mk hfl; have CL := Bx.mk cl; have CD := Bx.mk cd
        clear hfl cl cd cs cn h1 h2 hs hs1 hl htk e1
        generalize c.toNat = m at *
        go_enter Tryd.func16, Tryd.ntmps16
        go_wp2_with (first
          | (go_at_call 29; ((with_reducible refine (CL.out _).mono ?_); rintro e w1 ⟨rfl, rfl⟩))
          | (go_at_call 31; ((with_reducible refine (CD.out _).mono ?_); rintro e w1 ⟨rfl, rfl⟩)))
        exact bodyPost_ret (v := .tuple #[.agg #[.int .i64 0, .string ⟨#[]⟩, .int .u64 0], .bool false]) (by simp [results, go_sem]) rfl (FirstP.none HF.out rfl ((Below.refl _ _).alloc (Nat.le_refl _) _))
      · rw [h1, h2] at hfl
        rw [h1] at cl
        rw [h2] at cd
        simp only [Bool.false_eq_true, if_false, if_true] at hfl
        have hl2 := numR_lt word
        generalize numR word = r at *
        obtain ⟨T2, hT2⟩ : ∃ T2, T2 = st word := ⟨_, rfl⟩
        rw [← hT2] at cn e1
        have W2 := Bx.mk hT2
        have CL := Bx.mk cl; have CD := Bx.mk cd; have CS := Bx.mk cs; have CN := Bx.mk cn
        clear hT2 cl cd cs cn h1 h2 hs hs1 hl htk
        by_cases hr : r.1 = 0
        · rw [if_pos hr] at hfl
          have HF := Bx.mk hfl
          have CN2 : Bx (∀ o, Calls Tryd.prog 32 #[.string T2] (w.alloc o) fun e w' => e = .returned (.tuple #[.int .u64 (r.2 : Nat), .bool true]) ∧ Below (w.alloc o).heap.size (w.alloc o) w') := ⟨fun o => by
            have := CN.out (w.alloc o) (HL.out.below ((Below.refl _ _).alloc (Nat.le_refl _) _))
            rwa [decide_eq_true hr] at this⟩
          clear hfl CN hr
          generalize c.toNat = m at *
          go_enter Tryd.func16, Tryd.ntmps16
          go_wp2_with (first
            | (go_at_call 29; ((with_reducible refine (CL.out _).mono ?_); rintro e w1 ⟨rfl, rfl⟩))
            | (go_at_call 31; ((with_reducible refine (CD.out _).mono ?_); rintro e w1 ⟨rfl, rfl⟩))
            | (go_at_call 30; ((with_reducible refine (CS.out _).mono ?_); rintro e w1 ⟨rfl, rfl⟩))
            | (go_at_call 32; ((with_reducible refine (CN2.out _).mono ?_); rintro e w2 ⟨rfl, b2⟩; have X := newBlock b2; have x0 := cellOf X 0; have x1 := cellOf X 1; have x2 := cellOf X 2; have f0 := thawOf X 0; have f1 := thawOf X 1; have f2 := thawOf X 2; have B2 := Bx.mk b2; clear X b2; simp at x0 x1 x2)))
          exact bodyPost_ret (v := .tuple #[tokV (2, word, r.2), .bool true]) (by simp [results, go_sem, tokV, x0, x1, x2, World.cell?_setCell_same, World.cell?_setCell_other, ← W2.out]) rfl (FirstP.some HF.out rfl ((((((Below.refl _ _).alloc (Nat.le_refl _) _).trans (B2.out.mono (by simp))).setCell (p := ⟨w.heap.size, 0, none⟩) (Nat.le_refl _) _).setCell (p := ⟨w.heap.size, 1, none⟩) (Nat.le_refl _) _).setCell (p := ⟨w.heap.size, 2, none⟩) (Nat.le_refl _) _))
        · rw [if_neg hr] at hfl
          have HF := Bx.mk hfl
          have CN2 : Bx (∀ o, Calls Tryd.prog 32 #[.string T2] (w.alloc o) fun e w' => e = .returned (.tuple #[.int .u64 (r.2 : Nat), .bool false]) ∧ Below (w.alloc o).heap.size (w.alloc o) w') := ⟨fun o => by
            have := CN.out (w.alloc o) (HL.out.below ((Below.refl _ _).alloc (Nat.le_refl _) _))
            rwa [decide_eq_false hr] at this⟩
          clear hfl CN hr
          generalize c.toNat = m at *
          go_enter Tryd.func16, Tryd.ntmps16
          go_wp2_with (first
            | (go_at_call 29; ((with_reducible refine (CL.out _).mono ?_); rintro e w1 ⟨rfl, rfl⟩))
            | (go_at_call 31; ((with_reducible refine (CD.out _).mono ?_); rintro e w1 ⟨rfl, rfl⟩))
            | (go_at_call 30; ((with_reducible refine (CS.out _).mono ?_); rintro e w1 ⟨rfl, rfl⟩))
            | (go_at_call 32; ((with_reducible refine (CN2.out _).mono ?_); rintro e w2 ⟨rfl, b2⟩; have X := newBlock b2; have x0 := cellOf X 0; have x1 := cellOf X 1; have x2 := cellOf X 2; have f0 := thawOf X 0; have f1 := thawOf X 1; have f2 := thawOf X 2; have B2 := Bx.mk b2; clear X b2; simp at x0 x1 x2)))
          exact bodyPost_ret (v := .tuple #[.agg #[.int .i64 2, .string T2, .int .u64 (r.2 : Nat)], .bool false]) (by simp [results, go_sem, x0, x1, x2, World.cell?_setCell_same, World.cell?_setCell_other]) rfl (FirstP.none HF.out rfl ((((((Below.refl _ _).alloc (Nat.le_refl _) _).trans (B2.out.mono (by simp))).setCell (p := ⟨w.heap.size, 0, none⟩) (Nat.le_refl _) _).setCell (p := ⟨w.heap.size, 1, none⟩) (Nat.le_refl _) _).setCell (p := ⟨w.heap.size, 2, none⟩) (Nat.le_refl _) _))
    · rw [h1] at hfl cl
      simp only [if_true] at hfl
      have HF := Bx.mk hfl; have CL := Bx.mk cl; have CS := Bx.mk cs
      obtain ⟨T2, hT2⟩ : ∃ T2, T2 = st word := ⟨_, rfl⟩
      rw [← hT2] at e1
      have W2 := Bx.mk hT2
      clear hT2 hfl cl cd cs cn h1 hs hs1 hl htk
      generalize c.toNat = m at *
      go_enter Tryd.func16, Tryd.ntmps16
      go_wp2_with (first
        | (go_at_call 29; ((with_reducible refine (CL.out _).mono ?_); rintro e w1 ⟨rfl, rfl⟩))
        | (go_at_call 30; ((with_reducible refine (CS.out _).mono ?_); rintro e w1 ⟨rfl, rfl⟩)))
      exact bodyPost_ret (v := .tuple #[tokV (1, word, 0), .bool true]) (by simp [results, go_sem, tokV, ← W2.out]) rfl (FirstP.some HF.out rfl ((Below.refl _ _).alloc (Nat.le_refl _) _))
end Go.Proofs.YtmgipjkdeoelgaaDoor
