/- Contracts of ordealref09: Tokens. -/
import Derived.Test.YtmgipjkdeoelgaaDoorLexS
namespace Go.Proofs.YtmgipjkdeoelgaaDoor
set_option maxRecDepth 100000
open Go.RowKit

theorem info_rtoken : (Tryd.prog.info? 50).map (fun i => (i.zero, i.size, i.bytes)) = some (some (.agg #[.int .i64 0, .string ⟨#[]⟩, .int .u64 0]), 3, 32) := by kernel_rfl
/-- a row of the reference's tokens -/
def RTokRow (w : World) (B : Nat) (v : Value) (ts : List Tok) : Prop := w.ownsRow B 50 3 v ts.length (ts.flatMap tokC)
theorem RTokRow.raw {w : World} {B : Nat} {v : Value} {ts : List Tok} (h : RTokRow w B v ts) : w.ownsRow B 50 3 v ts.length (ts.flatMap tokC) := h
theorem RTokRow.at {w : World} {B : Nat} {v : Value} {ts : List Tok} (h : RTokRow w B v ts) (hL : 0 < ts.length) : ∃ g cap, v = .slice (some ⟨g, 0, none⟩) ts.length cap ∧ g < w.heap.size ∧ B ≤ g ∧ ∀ i t, ts[i]? = some t →
    w.cell? ⟨g, i * 3, none⟩ = some (.int .i64 (t.1 : Nat)) ∧ w.cell? ⟨g, i * 3 + 1, none⟩ = some (.string (st t.2.1)) ∧ w.cell? ⟨g, i * 3 + 2, none⟩ = some (.int .u64 (t.2.2 : Nat)) := by
  obtain ⟨g, cap, rfl⟩ := rowSome h.raw hL
  have hlt := rowLt h.raw g rfl
  refine ⟨g, cap, rfl, hlt.2, hlt.1, fun i t ht => ⟨rowAt h.raw ?_, rowAt h.raw ?_, rowAt h.raw ?_⟩⟩
  · exact flat_at tokC 3 (fun _ => rfl) ts i 0 t ht (by decide)
  · exact flat_at tokC 3 (fun _ => rfl) ts i 1 t ht (by decide)
  · exact flat_at tokC 3 (fun _ => rfl) ts i 2 t ht (by decide)
/-- one token more -/
theorem RTokRow.more {w : World} {B : Nat} {v : Value} {n : Nat} {D : List Tok} {t : Tok} {ks : List Value} (h : w.ownsRow B 50 3 v n (D.flatMap tokC ++ ks)) (hn : n = D.length + 1) (hk : ks = tokC t) : RTokRow w B v (D ++ [t]) := by
  subst hn hk
  unfold RTokRow
  rw [List.length_append, List.flatMap_append, List.flatMap_cons, List.flatMap_nil, List.append_nil]
  exact h

/-- what Tokens answers -/
def RTokP (s : List UInt8) (w : World) (e : Ending) (w' : World) : Prop :=
  (match toksC s with
    | some ts => ∃ v, e = .returned (.tuple #[v, .bool true]) ∧ RTokRow w' w.heap.size v ts
    | none => e = .returned (.tuple #[.slice none 0 0, .bool false])) ∧ Below w.heap.size w w'
theorem RTokP.ok {s : List UInt8} {ts : List Tok} (h : toksC s = some ts) {w w' : World} {v : Value} {e : Ending} (he : e = .returned (.tuple #[v, .bool true])) (hr : RTokRow w' w.heap.size v ts) (hb : Below w.heap.size w w') : RTokP s w e w' := by
  unfold RTokP; rw [h]; exact ⟨⟨v, he, hr⟩, hb⟩
theorem RTokP.bad {s : List UInt8} (h : toksC s = none) {w w' : World} {e : Ending} (he : e = .returned (.tuple #[.slice none 0 0, .bool false])) (hb : Below w.heap.size w w') : RTokP s w e w' := by
  unfold RTokP; rw [h]; exact ⟨he, hb⟩
theorem part_st (T : ByteArray) (a b : Nat) : T.extract a b = st (((by' T).drop a).take (b - a)) := by
  conv => lhs; rw [← st_by T, st_part]
theorem tw_at {p : UInt8 → Bool} : ∀ (l : List UInt8) (i : Nat), (i < (l.takeWhile p).length → p (l.getD i 0) = true) ∧ (i = (l.takeWhile p).length → i < l.length → p (l.getD i 0) = false)
  | [], i => ⟨fun h => by simp at h, fun _ h => by simp at h⟩
  | c :: l, i => by
    by_cases hc : p c = true
    · rw [List.takeWhile_cons, if_pos hc]
      cases i with
      | zero => exact ⟨fun _ => hc, fun h => by simp at h⟩
      | succ i =>
        have ih := tw_at (p := p) l i
        exact ⟨fun h => ih.1 (by simpa using h), fun h h2 => ih.2 (by simpa using h) (by simpa using h2)⟩
    · rw [List.takeWhile_cons, if_neg hc]
      exact ⟨fun h => by simp at h, fun h _ => by simp at h; subst h; simpa using hc⟩
theorem mem_tw {p : UInt8 → Bool} : ∀ (l : List UInt8), ∀ c ∈ l.takeWhile p, p c = true
  | [], c, h => by simp at h
  | d :: l, c, h => by
    rw [List.takeWhile_cons] at h
    split at h
    · rcases List.mem_cons.1 h with rfl | h
      · assumption
      · exact mem_tw l c h
    · cases h
theorem getD_drop' (l : List UInt8) (k i : Nat) : (l.drop k).getD i 0 = l.getD (k + i) 0 := by simp [List.getD]

set_option maxHeartbeats 12800000 in
theorem rtokens_any (T : ByteArray) (hT : T.size ≤ 1000000) (w : World) :
    Calls Tryd.prog 13 #[.string T] w (RTokP (by' T) w) := by
  obtain ⟨i0, hi, hz0, hz1, hz2⟩ := info_parts info_rtoken
  obtain ⟨l, hl⟩ : ∃ l, l = by' T := ⟨_, rfl⟩
  have HS : Bx (by' T = l) := ⟨hl.symm⟩
  have hll : l.length = T.size := by rw [hl, by_size]
  rw [← hl]
  have HLL := Bx.mk hll
  clear hl hll
  go_enter Tryd.func13, Tryd.ntmps13
  go_wp2_with fail
  go_loopw [4, 5] (fun v i wr => ∃ (k : Nat) (D : List Tok), i = .int .i64 (k : Int) ∧ k ≤ T.size ∧ D.length ≤ k ∧ Bx (toksC l = (toksC (l.drop k)).map (D ++ ·)) ∧ Bx (RTokRow wr w.heap.size v D) ∧ Bx (Below w.heap.size w wr) ∧ ∃ p n c, v = .slice p n c)
    (fun _ i _ => T.size - (intOf i).toNat)
  case atStart => exact ⟨0, [], rfl, by omega, by simp, ⟨by simp⟩, ⟨World.ownsRow_lit w #[] 0 (Nat.le_refl _) (by decide) rfl⟩, ⟨(Below.refl _ _).alloc (Nat.le_refl _) _⟩, _, _, _, rfl⟩
  case round =>
    obtain ⟨k, D, rfl, hk, hD, htk, hrow, hb, p, n0, c0, rfl⟩ := hrel
    by_cases hkn : k < T.size
    · obtain ⟨c, hc⟩ : ∃ c, l[k]? = some c := ⟨_, List.getElem?_eq_getElem (show k < l.length by rw [HLL.out]; exact hkn)⟩
      have hix := fun W => str_at hkn W
      have hg : l.getD k 0 = c := by simp [List.getD, hc]
      rw [HS.out, hg] at hix
      have hdr := dropAt hc
      have e := htk.out
      rw [hdr] at e
      have hc256 : c.toNat < 256 := c.toNat_lt
      clear htk
      by_cases h35 : c = 35
      · subst h35
        rw [toksC_note] at e
        have e : toksC l = some D := by rw [e]; simp
        have hix2 : ∀ W, (Instr.index 9 (.string T) (.int .i64 (k : Int))).run Tryd.prog W = .ok (.int .u8 35) W := hix
        have E := Bx.mk e
        clear hix e hg hdr hc hc256
        go_wp2
        go_ret2
        exact RTokP.ok E.out rfl hrow.out hb.out
      · by_cases hbk : blk c = true
        · rw [toksC_blk hbk] at e
          have E := Bx.mk e
          have h2 : c = 32 ∨ c = 9 := by simpa [blk] using hbk
          clear e hg hdr hc hc256 hbk h35
          rcases h2 with rfl | rfl
          · have hix2 : ∀ W, (Instr.index 9 (.string T) (.int .i64 (k : Int))).run Tryd.prog W = .ok (.int .u8 32) W := hix
            clear hix
            go_wp2
            go_roundw
            case rel => exact ⟨k + 1, D, by go_num, by omega, by omega, E, hrow, hb, _, _, _, rfl⟩
            case measure => simp [intOf]; omega
          · have hix2 : ∀ W, (Instr.index 9 (.string T) (.int .i64 (k : Int))).run Tryd.prog W = .ok (.int .u8 9) W := hix
            clear hix
            go_wp2
            go_roundw
            case rel => exact ⟨k + 1, D, by go_num, by omega, by omega, E, hrow, hb, _, _, _, rfl⟩
            case measure => simp [intOf]; omega
        · have q35 : ((c.toNat : Int) == 35) = false := by
            rw [beq_eq_false_iff_ne]; exact fun e => h35 (UInt8.toNat_inj.1 (by show c.toNat = 35; omega))
          have q32 : ((c.toNat : Int) == 32) = false := by
            rw [beq_eq_false_iff_ne]; exact fun e => hbk (by rw [show c = 32 from UInt8.toNat_inj.1 (by show c.toNat = 32; omega)]; decide)
          have q9 : ((c.toNat : Int) == 9) = false := by
            rw [beq_eq_false_iff_ne]; exact fun e => hbk (by rw [show c = 9 from UInt8.toNat_inj.1 (by show c.toNat = 9; omega)]; decide)
          by_cases hs : c = 61 ∨ c = 58
          · have ex : T.extract k (k + 1) = st [c] := by rw [part_st, HS.out, hdr]; simp
            rw [toksC_sign hs] at e
            have E := Bx.mk e
            clear e hg hdr hc hc256 q35 q32 q9 hbk h35
            have hDn : D.length ≤ 1000000 := by omega
            rcases hs with rfl | rfl
            all_goals
              obtain ⟨T2, hT2⟩ : ∃ T2, T2 = T.extract k (k + 1) := ⟨_, rfl⟩
              have hex := hT2.symm
              rw [← hT2] at ex
              have EX := Bx.mk ex
              clear hT2 ex
            · have hix2 : ∀ W, (Instr.index 9 (.string T) (.int .i64 (k : Int))).run Tryd.prog W = .ok (.int .u8 61) W := hix
              clear hix
              go_wp2_with (at_builtin; refine wpList_append_lies _ rfl (.tmp 36) (.tmp 43) 42 rfl w.heap.size 50 i0 _ 3 32 Tryd.underlying42 hi hz0 hz1 hz2 rfl (by omega) _ D.length (D.flatMap tokC) rfl (hrow.out.raw.alloc _) ⟨wr.heap.size, 0, none⟩ 1 1 [.int .i64 3, .string T2, .int .u64 0] rfl rfl (World.news_of_block (cs := #[.int .i64 3, .string T2, .int .u64 0]) (t := 50) (fr := (0, 0)) (heap_alloc_new _ _)) (by simp [Value.oneCell']) (by omega) (by unfold maxLen; omega) (by omega) (by have := hb.out.size; simp; omega) (wr.heap.size + 1) (by simp) ?_; intro g cap w3 hown3 hgrow hat hlt3; have O3 := Bx.mk hown3; have B3 : Bx (Below w.heap.size w w3) := ⟨(hb.out.alloc hb.out.size _).grown hgrow (by have := hb.out.size; simp; omega) (fun k hk => (rowLt hrow.out.raw k hk).1)⟩; clear hown3 hgrow hat hlt3)
              go_roundw
              case rel => exact ⟨k + 1, D ++ [(3, [61], 0)], by go_num, by omega, by simp; omega, ⟨by rw [E.out, Option.map_map]; congr 1; funext x; simp⟩, ⟨RTokRow.more O3.out rfl (by rw [EX.out]; rfl)⟩, B3, _, _, _, rfl⟩
              case measure => simp [intOf]; omega
            · have hix2 : ∀ W, (Instr.index 9 (.string T) (.int .i64 (k : Int))).run Tryd.prog W = .ok (.int .u8 58) W := hix
              clear hix
              go_wp2_with (at_builtin; refine wpList_append_lies _ rfl (.tmp 36) (.tmp 43) 42 rfl w.heap.size 50 i0 _ 3 32 Tryd.underlying42 hi hz0 hz1 hz2 rfl (by omega) _ D.length (D.flatMap tokC) rfl (hrow.out.raw.alloc _) ⟨wr.heap.size, 0, none⟩ 1 1 [.int .i64 3, .string T2, .int .u64 0] rfl rfl (World.news_of_block (cs := #[.int .i64 3, .string T2, .int .u64 0]) (t := 50) (fr := (0, 0)) (heap_alloc_new _ _)) (by simp [Value.oneCell']) (by omega) (by unfold maxLen; omega) (by omega) (by have := hb.out.size; simp; omega) (wr.heap.size + 1) (by simp) ?_; intro g cap w3 hown3 hgrow hat hlt3; have O3 := Bx.mk hown3; have B3 : Bx (Below w.heap.size w w3) := ⟨(hb.out.alloc hb.out.size _).grown hgrow (by have := hb.out.size; simp; omega) (fun k hk => (rowLt hrow.out.raw k hk).1)⟩; clear hown3 hgrow hat hlt3)
              go_roundw
              case rel => exact ⟨k + 1, D ++ [(3, [58], 0)], by go_num, by omega, by simp; omega, ⟨by rw [E.out, Option.map_map]; congr 1; funext x; simp⟩, ⟨RTokRow.more O3.out rfl (by rw [EX.out]; rfl)⟩, B3, _, _, _, rfl⟩
              case measure => simp [intOf]; omega
          · have q61 : ((c.toNat : Int) == 61) = false := by
              rw [beq_eq_false_iff_ne]; exact fun e => hs (.inl (UInt8.toNat_inj.1 (by show c.toNat = 61; omega)))
            have q58 : ((c.toNat : Int) == 58) = false := by
              rw [beq_eq_false_iff_ne]; exact fun e => hs (.inr (UInt8.toNat_inj.1 (by show c.toNat = 58; omega)))
            have CL := Bx.mk (fun W => rletter_any c W)
            have CD := Bx.mk (fun W => rdigit_any c W)
            by_cases hA : isA c = true
            · obtain ⟨m, hm⟩ : ∃ m, m = ((c :: l.drop (k + 1)).takeWhile isA).length := ⟨_, rfl⟩
              have hw := toksC_word (l := l.drop (k + 1)) hA m hm
              have hdl : (l.drop k).length = T.size - k := by rw [List.length_drop, HLL.out]
              rw [← hdr] at hm hw
              have hm2 := takeWhile_le (p := isA) (l.drop k)
              rw [← hm, hdl] at hm2
              have hm1 : 1 ≤ m := by
                rw [hm, hdr, List.takeWhile_cons, if_pos hA]; simp
              obtain ⟨q, hq⟩ : ∃ q, q = k + m := ⟨_, rfl⟩
              have hqT : q ≤ T.size := by omega
              have IN : Bx (∀ j, k ≤ j → j < q → isA (l.getD j 0) = true) := ⟨fun j h1 h2 => by
                have := (tw_at (p := isA) (l.drop k) (j - k)).1 (by omega)
                rwa [getD_drop', show k + (j - k) = j by omega] at this⟩
              have OUT : Bx (q < T.size → isA (l.getD q 0) = false) := ⟨fun h => by
                have := (tw_at (p := isA) (l.drop k) m).2 hm (by omega)
                rwa [getD_drop', ← hq] at this⟩
              have hdq : (l.drop k).drop m = l.drop q := by rw [List.drop_drop, hq]
              obtain ⟨wd, hwd⟩ : ∃ wd, wd = (l.drop k).take m := ⟨_, rfl⟩
              rw [hdq, ← hwd] at hw
              rw [← hdr] at e
              have hwA : ∀ c ∈ wd, isA c = true := fun c h => mem_tw (l.drop k) c (by rw [takeWhile_take, ← hm, ← hwd]; exact h)
              have hwl : wd.length ≤ 1000000 := by rw [hwd, List.length_take]; omega
              obtain ⟨T2, hT2⟩ : ∃ T2, T2 = st wd := ⟨_, rfl⟩
              have hex : T.extract k q = T2 := by rw [hT2, part_st, HS.out, hwd, show q - k = m by omega]
              have cn := fun W => rnumber_any T2 (by rw [hT2, st_size]; exact hwl) (by rw [hT2, by_st]; exact hwA) W
              rw [hT2, by_st, ← hT2] at cn
              have W2 := Bx.mk hT2
              have hkq : k < q := by omega
              have hDn : D.length ≤ 1000000 := by omega
              clear hT2 hwl hwA hwd hdq hm hm2 hm1 hdl hdr hq hg hs hbk h35 hc
              cases hDc : isD c
              · have hLc : isL c = true := by simpa [isA, hDc] using hA
                rw [hw.1 hDc] at e
                rw [hLc] at CL
                rw [hDc] at CD
                have E := Bx.mk e
                clear e hw hA cn hLc hDc
                generalize c.toNat = n at *
                go_wp2_with (first
                  | (go_at_call 19; first
                    | ((with_reducible refine (CL.out _).mono ?_); rintro e w' ⟨rfl, rfl⟩)
                    | ((with_reducible refine (CL.out _).mono ?_); rintro e w' ⟨rfl, rfl⟩))
                  | (go_at_call 20; first
                    | ((with_reducible refine (CD.out _).mono ?_); rintro e w' ⟨rfl, rfl⟩)
                    | ((with_reducible refine (CD.out _).mono ?_); rintro e w' ⟨rfl, rfl⟩)))
                go_loop [7] (fun i => ∃ j : Nat, i = .int .i64 (j : Int) ∧ k ≤ j ∧ j ≤ q) (fun i => T.size - (intOf i).toNat)
                case atStart => exact ⟨k, rfl, by omega, by omega⟩
                case round =>
                  obtain ⟨j, rfl, hkj, hjq⟩ := hrel
                  by_cases hj : j < q
                  · have hjx := fun W => str_at (show j < T.size by omega) W
                    rw [HS.out] at hjx
                    have hAj := IN.out j hkj hj
                    generalize l.getD j 0 = d at *
                    have CLj := Bx.mk (fun W => rletter_any d W)
                    have CDj := Bx.mk (fun W => rdigit_any d W)
                    cases hL : isL d
                    · have hDj : isD d = true := by simpa [isA, hL] using hAj
                      rw [hL] at CLj
                      rw [hDj] at CDj
                      clear hAj hL hDj
                      generalize d.toNat = nd at *
                      go_wp2_with (first
                                  | (go_at_call 19; first
                                    | ((with_reducible refine (CL.out _).mono ?_); rintro e w' ⟨rfl, rfl⟩)
                                    | ((with_reducible refine (CLj.out _).mono ?_); rintro e w' ⟨rfl, rfl⟩))
                                  | (go_at_call 20; first
                                    | ((with_reducible refine (CD.out _).mono ?_); rintro e w' ⟨rfl, rfl⟩)
                                    | ((with_reducible refine (CDj.out _).mono ?_); rintro e w' ⟨rfl, rfl⟩)))
                      go_round
                      case rel => exact ⟨j + 1, by go_num, by omega, by omega⟩
                      case measure => simp [intOf]; omega
                    · rw [hL] at CLj
                      clear hAj hL
                      generalize d.toNat = nd at *
                      go_wp2_with (first
                                  | (go_at_call 19; first
                                    | ((with_reducible refine (CL.out _).mono ?_); rintro e w' ⟨rfl, rfl⟩)
                                    | ((with_reducible refine (CLj.out _).mono ?_); rintro e w' ⟨rfl, rfl⟩))
                                  | (go_at_call 20; first
                                    | ((with_reducible refine (CD.out _).mono ?_); rintro e w' ⟨rfl, rfl⟩)
                                    | ((with_reducible refine (CDj.out _).mono ?_); rintro e w' ⟨rfl, rfl⟩)))
                      go_round
                      case rel => exact ⟨j + 1, by go_num, by omega, by omega⟩
                      case measure => simp [intOf]; omega
                  · obtain rfl : j = q := by omega
                    by_cases hjT : j < T.size
                    · have hjx := fun W => str_at hjT W
                      rw [HS.out] at hjx
                      have hAj := OUT.out hjT
                      generalize l.getD j 0 = d at *
                      have CLj := Bx.mk (fun W => rletter_any d W)
                      have CDj := Bx.mk (fun W => rdigit_any d W)
                      have h2 : isL d = false ∧ isD d = false := by simpa [isA] using hAj
                      rw [h2.1] at CLj
                      rw [h2.2] at CDj
                      clear hAj h2
                      generalize d.toNat = nd at *
                      go_wp2_with (first
                                  | (go_at_call 19; first
                                    | ((with_reducible refine (CL.out _).mono ?_); rintro e w' ⟨rfl, rfl⟩)
                                    | ((with_reducible refine (CLj.out _).mono ?_); rintro e w' ⟨rfl, rfl⟩))
                                  | (go_at_call 20; first
                                    | ((with_reducible refine (CD.out _).mono ?_); rintro e w' ⟨rfl, rfl⟩)
                                    | ((with_reducible refine (CDj.out _).mono ?_); rintro e w' ⟨rfl, rfl⟩))
                                  | (go_at_call 21; ((with_reducible refine (CN.out _).mono ?_); rintro e w' ⟨rfl, rfl⟩))
                                  | (at_builtin; refine wpList_append_lies _ rfl (.tmp 94) (.tmp 96) 42 rfl w.heap.size 50 i0 _ 3 32 Tryd.underlying42 hi hz0 hz1 hz2 rfl (by omega) _ D.length (D.flatMap tokC) rfl ((hrow.out.raw.alloc _).alloc _) ⟨wr.heap.size + 1, 0, none⟩ 1 1 [.int .i64 1, .string T2, .int .u64 0] rfl rfl (by have e := World.news_of_block (w := (wr.alloc (.cells #[.int .i64 1, .string T2, .int .u64 0] 50)).alloc (.cells #[.int .i64 1, .string T2, .int .u64 0] 50)) (cs := #[.int .i64 1, .string T2, .int .u64 0]) (t := 50) (fr := (0, 0)) (heap_alloc_new _ _); simpa using e) (by simp [Value.oneCell']) (by omega) (by unfold maxLen; omega) (by omega) (by have := hb.out.size; simp; omega) (wr.heap.size + 2) (by simp) ?_; intro g cap w3 hown3 hgrow hat hlt3; have O3 := Bx.mk hown3; have B3 : Bx (Below w.heap.size w w3) := ⟨((hb.out.alloc hb.out.size _).alloc (by have := hb.out.size; simp; omega) _).grown hgrow (by have := hb.out.size; simp; omega) (fun k hk => (rowLt hrow.out.raw k hk).1)⟩; clear hown3 hgrow hat hlt3))
                      go_roundw
                      case rel => exact ⟨_, D ++ [(1, wd, 0)], rfl, by omega, by simp; omega, ⟨by rw [E.out, Option.map_map]; congr 1; funext x; simp⟩, ⟨RTokRow.more O3.out rfl (by rw [W2.out]; rfl)⟩, B3, _, _, _, rfl⟩
                      case measure => simp [intOf]; omega
                    · obtain rfl : j = T.size := by omega
                      have CLj := CL; have CDj := CD
                      go_wp2_with (first
                                  | (go_at_call 19; first
                                    | ((with_reducible refine (CL.out _).mono ?_); rintro e w' ⟨rfl, rfl⟩)
                                    | ((with_reducible refine (CLj.out _).mono ?_); rintro e w' ⟨rfl, rfl⟩))
                                  | (go_at_call 20; first
                                    | ((with_reducible refine (CD.out _).mono ?_); rintro e w' ⟨rfl, rfl⟩)
                                    | ((with_reducible refine (CDj.out _).mono ?_); rintro e w' ⟨rfl, rfl⟩))
                                  | (go_at_call 21; ((with_reducible refine (CN.out _).mono ?_); rintro e w' ⟨rfl, rfl⟩))
                                  | (at_builtin; refine wpList_append_lies _ rfl (.tmp 94) (.tmp 96) 42 rfl w.heap.size 50 i0 _ 3 32 Tryd.underlying42 hi hz0 hz1 hz2 rfl (by omega) _ D.length (D.flatMap tokC) rfl ((hrow.out.raw.alloc _).alloc _) ⟨wr.heap.size + 1, 0, none⟩ 1 1 [.int .i64 1, .string T2, .int .u64 0] rfl rfl (by have e := World.news_of_block (w := (wr.alloc (.cells #[.int .i64 1, .string T2, .int .u64 0] 50)).alloc (.cells #[.int .i64 1, .string T2, .int .u64 0] 50)) (cs := #[.int .i64 1, .string T2, .int .u64 0]) (t := 50) (fr := (0, 0)) (heap_alloc_new _ _); simpa using e) (by simp [Value.oneCell']) (by omega) (by unfold maxLen; omega) (by omega) (by have := hb.out.size; simp; omega) (wr.heap.size + 2) (by simp) ?_; intro g cap w3 hown3 hgrow hat hlt3; have O3 := Bx.mk hown3; have B3 : Bx (Below w.heap.size w w3) := ⟨((hb.out.alloc hb.out.size _).alloc (by have := hb.out.size; simp; omega) _).grown hgrow (by have := hb.out.size; simp; omega) (fun k hk => (rowLt hrow.out.raw k hk).1)⟩; clear hown3 hgrow hat hlt3))
                      go_roundw
                      case rel => exact ⟨_, D ++ [(1, wd, 0)], rfl, by omega, by simp; omega, ⟨by rw [E.out, Option.map_map]; congr 1; funext x; simp⟩, ⟨RTokRow.more O3.out rfl (by rw [W2.out]; rfl)⟩, B3, _, _, _, rfl⟩
                      case measure => simp [intOf]; omega
              · have hLc : isL c = false := by
                  have := hDc
                  simp only [isD, isL, Bool.and_eq_true, decide_eq_true_eq] at this ⊢
                  simp; omega
                rw [hLc] at CL
                rw [hDc] at CD
                obtain ⟨r, hr⟩ : ∃ r, r = numR wd := ⟨_, rfl⟩
                rw [← hr] at hw cn
                by_cases hr0 : r.1 = 0
                · rw [hw.2.1 hDc hr0] at e
                  rw [show refV r = .tuple #[.int .u64 (r.2 : Nat), .bool true] by unfold refV; rw [if_pos hr0]] at cn
                  have hr2 : r.2 < 18446744073709551616 := by rw [hr]; exact numR_lt _
                  have E := Bx.mk e; have CN := Bx.mk cn
                  clear e hw hA cn hLc hDc hr0 hr
                  generalize c.toNat = n at *
                  generalize r.2 = rv at *
                  go_wp2_with (first
                  | (go_at_call 19; first
                    | ((with_reducible refine (CL.out _).mono ?_); rintro e w' ⟨rfl, rfl⟩)
                    | ((with_reducible refine (CL.out _).mono ?_); rintro e w' ⟨rfl, rfl⟩))
                  | (go_at_call 20; first
                    | ((with_reducible refine (CD.out _).mono ?_); rintro e w' ⟨rfl, rfl⟩)
                    | ((with_reducible refine (CD.out _).mono ?_); rintro e w' ⟨rfl, rfl⟩)))
                  go_loop [7] (fun i => ∃ j : Nat, i = .int .i64 (j : Int) ∧ k ≤ j ∧ j ≤ q) (fun i => T.size - (intOf i).toNat)
                  case atStart => exact ⟨k, rfl, by omega, by omega⟩
                  case round =>
                    obtain ⟨j, rfl, hkj, hjq⟩ := hrel
                    by_cases hj : j < q
                    · have hjx := fun W => str_at (show j < T.size by omega) W
                      rw [HS.out] at hjx
                      have hAj := IN.out j hkj hj
                      generalize l.getD j 0 = d at *
                      have CLj := Bx.mk (fun W => rletter_any d W)
                      have CDj := Bx.mk (fun W => rdigit_any d W)
                      cases hL : isL d
                      · have hDj : isD d = true := by simpa [isA, hL] using hAj
                        rw [hL] at CLj
                        rw [hDj] at CDj
                        clear hAj hL hDj
                        generalize d.toNat = nd at *
                        go_wp2_with (first
                                    | (go_at_call 19; first
                                      | ((with_reducible refine (CL.out _).mono ?_); rintro e w' ⟨rfl, rfl⟩)
                                      | ((with_reducible refine (CLj.out _).mono ?_); rintro e w' ⟨rfl, rfl⟩))
                                    | (go_at_call 20; first
                                      | ((with_reducible refine (CD.out _).mono ?_); rintro e w' ⟨rfl, rfl⟩)
                                      | ((with_reducible refine (CDj.out _).mono ?_); rintro e w' ⟨rfl, rfl⟩)))
                        go_round
                        case rel => exact ⟨j + 1, by go_num, by omega, by omega⟩
                        case measure => simp [intOf]; omega
                      · rw [hL] at CLj
                        clear hAj hL
                        generalize d.toNat = nd at *
                        go_wp2_with (first
                                    | (go_at_call 19; first
                                      | ((with_reducible refine (CL.out _).mono ?_); rintro e w' ⟨rfl, rfl⟩)
                                      | ((with_reducible refine (CLj.out _).mono ?_); rintro e w' ⟨rfl, rfl⟩))
                                    | (go_at_call 20; first
                                      | ((with_reducible refine (CD.out _).mono ?_); rintro e w' ⟨rfl, rfl⟩)
                                      | ((with_reducible refine (CDj.out _).mono ?_); rintro e w' ⟨rfl, rfl⟩)))
                        go_round
                        case rel => exact ⟨j + 1, by go_num, by omega, by omega⟩
                        case measure => simp [intOf]; omega
                    · obtain rfl : j = q := by omega
                      by_cases hjT : j < T.size
                      · have hjx := fun W => str_at hjT W
                        rw [HS.out] at hjx
                        have hAj := OUT.out hjT
                        generalize l.getD j 0 = d at *
                        have CLj := Bx.mk (fun W => rletter_any d W)
                        have CDj := Bx.mk (fun W => rdigit_any d W)
                        have h2 : isL d = false ∧ isD d = false := by simpa [isA] using hAj
                        rw [h2.1] at CLj
                        rw [h2.2] at CDj
                        clear hAj h2
                        generalize d.toNat = nd at *
                        go_wp2_with (first
                                    | (go_at_call 19; first
                                      | ((with_reducible refine (CL.out _).mono ?_); rintro e w' ⟨rfl, rfl⟩)
                                      | ((with_reducible refine (CLj.out _).mono ?_); rintro e w' ⟨rfl, rfl⟩))
                                    | (go_at_call 20; first
                                      | ((with_reducible refine (CD.out _).mono ?_); rintro e w' ⟨rfl, rfl⟩)
                                      | ((with_reducible refine (CDj.out _).mono ?_); rintro e w' ⟨rfl, rfl⟩))
                                    | (go_at_call 21; ((with_reducible refine (CN.out _).mono ?_); rintro e w' ⟨rfl, rfl⟩))
                                    | (at_builtin; refine wpList_append_lies _ rfl (.tmp 94) (.tmp 96) 42 rfl w.heap.size 50 i0 _ 3 32 Tryd.underlying42 hi hz0 hz1 hz2 rfl (by omega) _ D.length (D.flatMap tokC) rfl ((hrow.out.raw.alloc _).alloc _) ⟨wr.heap.size + 1, 0, none⟩ 1 1 [.int .i64 2, .string T2, .int .u64 (rv : Nat)] rfl rfl (by have e := World.news_of_block (w := (wr.alloc (.cells #[.int .i64 2, .string T2, .int .u64 (rv : Nat)] 50)).alloc (.cells #[.int .i64 2, .string T2, .int .u64 (rv : Nat)] 50)) (cs := #[.int .i64 2, .string T2, .int .u64 (rv : Nat)]) (t := 50) (fr := (0, 0)) (heap_alloc_new _ _); simpa using e) (by simp [Value.oneCell']) (by omega) (by unfold maxLen; omega) (by omega) (by have := hb.out.size; simp; omega) (wr.heap.size + 2) (by simp) ?_; intro g cap w3 hown3 hgrow hat hlt3; have O3 := Bx.mk hown3; have B3 : Bx (Below w.heap.size w w3) := ⟨((hb.out.alloc hb.out.size _).alloc (by have := hb.out.size; simp; omega) _).grown hgrow (by have := hb.out.size; simp; omega) (fun k hk => (rowLt hrow.out.raw k hk).1)⟩; clear hown3 hgrow hat hlt3))
                        go_roundw
                        case rel => exact ⟨_, D ++ [(2, wd, rv)], rfl, by omega, by simp; omega, ⟨by rw [E.out, Option.map_map]; congr 1; funext x; simp⟩, ⟨RTokRow.more O3.out rfl (by rw [W2.out]; rfl)⟩, B3, _, _, _, rfl⟩
                        case measure => simp [intOf]; omega
                      · obtain rfl : j = T.size := by omega
                        have CLj := CL; have CDj := CD
                        go_wp2_with (first
                                    | (go_at_call 19; first
                                      | ((with_reducible refine (CL.out _).mono ?_); rintro e w' ⟨rfl, rfl⟩)
                                      | ((with_reducible refine (CLj.out _).mono ?_); rintro e w' ⟨rfl, rfl⟩))
                                    | (go_at_call 20; first
                                      | ((with_reducible refine (CD.out _).mono ?_); rintro e w' ⟨rfl, rfl⟩)
                                      | ((with_reducible refine (CDj.out _).mono ?_); rintro e w' ⟨rfl, rfl⟩))
                                    | (go_at_call 21; ((with_reducible refine (CN.out _).mono ?_); rintro e w' ⟨rfl, rfl⟩))
                                    | (at_builtin; refine wpList_append_lies _ rfl (.tmp 94) (.tmp 96) 42 rfl w.heap.size 50 i0 _ 3 32 Tryd.underlying42 hi hz0 hz1 hz2 rfl (by omega) _ D.length (D.flatMap tokC) rfl ((hrow.out.raw.alloc _).alloc _) ⟨wr.heap.size + 1, 0, none⟩ 1 1 [.int .i64 2, .string T2, .int .u64 (rv : Nat)] rfl rfl (by have e := World.news_of_block (w := (wr.alloc (.cells #[.int .i64 2, .string T2, .int .u64 (rv : Nat)] 50)).alloc (.cells #[.int .i64 2, .string T2, .int .u64 (rv : Nat)] 50)) (cs := #[.int .i64 2, .string T2, .int .u64 (rv : Nat)]) (t := 50) (fr := (0, 0)) (heap_alloc_new _ _); simpa using e) (by simp [Value.oneCell']) (by omega) (by unfold maxLen; omega) (by omega) (by have := hb.out.size; simp; omega) (wr.heap.size + 2) (by simp) ?_; intro g cap w3 hown3 hgrow hat hlt3; have O3 := Bx.mk hown3; have B3 : Bx (Below w.heap.size w w3) := ⟨((hb.out.alloc hb.out.size _).alloc (by have := hb.out.size; simp; omega) _).grown hgrow (by have := hb.out.size; simp; omega) (fun k hk => (rowLt hrow.out.raw k hk).1)⟩; clear hown3 hgrow hat hlt3))
                        go_roundw
                        case rel => exact ⟨_, D ++ [(2, wd, rv)], rfl, by omega, by simp; omega, ⟨by rw [E.out, Option.map_map]; congr 1; funext x; simp⟩, ⟨RTokRow.more O3.out rfl (by rw [W2.out]; rfl)⟩, B3, _, _, _, rfl⟩
                        case measure => simp [intOf]; omega
                · have e2 := e.trans (by rw [hw.2.2 hDc hr0]; rfl : _ = none)
                  rw [show refV r = .tuple #[.int .u64 0, .bool false] by unfold refV; rw [if_neg hr0]] at cn
                  have E := Bx.mk e2; have CN := Bx.mk cn
                  clear e e2 hw hA cn hLc hDc hr0 hr
                  generalize c.toNat = n at *
                  go_wp2_with (first
                  | (go_at_call 19; first
                    | ((with_reducible refine (CL.out _).mono ?_); rintro e w' ⟨rfl, rfl⟩)
                    | ((with_reducible refine (CL.out _).mono ?_); rintro e w' ⟨rfl, rfl⟩))
                  | (go_at_call 20; first
                    | ((with_reducible refine (CD.out _).mono ?_); rintro e w' ⟨rfl, rfl⟩)
                    | ((with_reducible refine (CD.out _).mono ?_); rintro e w' ⟨rfl, rfl⟩)))
                  go_loop [7] (fun i => ∃ j : Nat, i = .int .i64 (j : Int) ∧ k ≤ j ∧ j ≤ q) (fun i => T.size - (intOf i).toNat)
                  case atStart => exact ⟨k, rfl, by omega, by omega⟩
                  case round =>
                    obtain ⟨j, rfl, hkj, hjq⟩ := hrel
                    by_cases hj : j < q
                    · have hjx := fun W => str_at (show j < T.size by omega) W
                      rw [HS.out] at hjx
                      have hAj := IN.out j hkj hj
                      generalize l.getD j 0 = d at *
                      have CLj := Bx.mk (fun W => rletter_any d W)
                      have CDj := Bx.mk (fun W => rdigit_any d W)
                      cases hL : isL d
                      · have hDj : isD d = true := by simpa [isA, hL] using hAj
                        rw [hL] at CLj
                        rw [hDj] at CDj
                        clear hAj hL hDj
                        generalize d.toNat = nd at *
                        go_wp2_with (first
                                    | (go_at_call 19; first
                                      | ((with_reducible refine (CL.out _).mono ?_); rintro e w' ⟨rfl, rfl⟩)
                                      | ((with_reducible refine (CLj.out _).mono ?_); rintro e w' ⟨rfl, rfl⟩))
                                    | (go_at_call 20; first
                                      | ((with_reducible refine (CD.out _).mono ?_); rintro e w' ⟨rfl, rfl⟩)
                                      | ((with_reducible refine (CDj.out _).mono ?_); rintro e w' ⟨rfl, rfl⟩)))
                        go_round
                        case rel => exact ⟨j + 1, by go_num, by omega, by omega⟩
                        case measure => simp [intOf]; omega
                      · rw [hL] at CLj
                        clear hAj hL
                        generalize d.toNat = nd at *
                        go_wp2_with (first
                                    | (go_at_call 19; first
                                      | ((with_reducible refine (CL.out _).mono ?_); rintro e w' ⟨rfl, rfl⟩)
                                      | ((with_reducible refine (CLj.out _).mono ?_); rintro e w' ⟨rfl, rfl⟩))
                                    | (go_at_call 20; first
                                      | ((with_reducible refine (CD.out _).mono ?_); rintro e w' ⟨rfl, rfl⟩)
                                      | ((with_reducible refine (CDj.out _).mono ?_); rintro e w' ⟨rfl, rfl⟩)))
                        go_round
                        case rel => exact ⟨j + 1, by go_num, by omega, by omega⟩
                        case measure => simp [intOf]; omega
                    · obtain rfl : j = q := by omega
                      by_cases hjT : j < T.size
                      · have hjx := fun W => str_at hjT W
                        rw [HS.out] at hjx
                        have hAj := OUT.out hjT
                        generalize l.getD j 0 = d at *
                        have CLj := Bx.mk (fun W => rletter_any d W)
                        have CDj := Bx.mk (fun W => rdigit_any d W)
                        have h2 : isL d = false ∧ isD d = false := by simpa [isA] using hAj
                        rw [h2.1] at CLj
                        rw [h2.2] at CDj
                        clear hAj h2
                        generalize d.toNat = nd at *
                        go_wp2_with (first
                                    | (go_at_call 19; first
                                      | ((with_reducible refine (CL.out _).mono ?_); rintro e w' ⟨rfl, rfl⟩)
                                      | ((with_reducible refine (CLj.out _).mono ?_); rintro e w' ⟨rfl, rfl⟩))
                                    | (go_at_call 20; first
                                      | ((with_reducible refine (CD.out _).mono ?_); rintro e w' ⟨rfl, rfl⟩)
                                      | ((with_reducible refine (CDj.out _).mono ?_); rintro e w' ⟨rfl, rfl⟩))
                                    | (go_at_call 21; ((with_reducible refine (CN.out _).mono ?_); rintro e w' ⟨rfl, rfl⟩))
                                    | (at_builtin; refine wpList_append_lies _ rfl (.tmp 94) (.tmp 96) 42 rfl w.heap.size 50 i0 _ 3 32 Tryd.underlying42 hi hz0 hz1 hz2 rfl (by omega) _ D.length (D.flatMap tokC) rfl ((hrow.out.raw.alloc _).alloc _) ⟨wr.heap.size + 1, 0, none⟩ 1 1 [.int .i64 2, .string T2, .int .u64 0] rfl rfl (by have e := World.news_of_block (w := (wr.alloc (.cells #[.int .i64 2, .string T2, .int .u64 0] 50)).alloc (.cells #[.int .i64 2, .string T2, .int .u64 0] 50)) (cs := #[.int .i64 2, .string T2, .int .u64 0]) (t := 50) (fr := (0, 0)) (heap_alloc_new _ _); simpa using e) (by simp [Value.oneCell']) (by omega) (by unfold maxLen; omega) (by omega) (by have := hb.out.size; simp; omega) (wr.heap.size + 2) (by simp) ?_; intro g cap w3 hown3 hgrow hat hlt3; have O3 := Bx.mk hown3; have B3 : Bx (Below w.heap.size w w3) := ⟨((hb.out.alloc hb.out.size _).alloc (by have := hb.out.size; simp; omega) _).grown hgrow (by have := hb.out.size; simp; omega) (fun k hk => (rowLt hrow.out.raw k hk).1)⟩; clear hown3 hgrow hat hlt3))
                        go_ret2
                        exact RTokP.bad E.out rfl (hb.out.alloc hb.out.size _)
                      · obtain rfl : j = T.size := by omega
                        have CLj := CL; have CDj := CD
                        go_wp2_with (first
                                    | (go_at_call 19; first
                                      | ((with_reducible refine (CL.out _).mono ?_); rintro e w' ⟨rfl, rfl⟩)
                                      | ((with_reducible refine (CLj.out _).mono ?_); rintro e w' ⟨rfl, rfl⟩))
                                    | (go_at_call 20; first
                                      | ((with_reducible refine (CD.out _).mono ?_); rintro e w' ⟨rfl, rfl⟩)
                                      | ((with_reducible refine (CDj.out _).mono ?_); rintro e w' ⟨rfl, rfl⟩))
                                    | (go_at_call 21; ((with_reducible refine (CN.out _).mono ?_); rintro e w' ⟨rfl, rfl⟩))
                                    | (at_builtin; refine wpList_append_lies _ rfl (.tmp 94) (.tmp 96) 42 rfl w.heap.size 50 i0 _ 3 32 Tryd.underlying42 hi hz0 hz1 hz2 rfl (by omega) _ D.length (D.flatMap tokC) rfl ((hrow.out.raw.alloc _).alloc _) ⟨wr.heap.size + 1, 0, none⟩ 1 1 [.int .i64 2, .string T2, .int .u64 0] rfl rfl (by have e := World.news_of_block (w := (wr.alloc (.cells #[.int .i64 2, .string T2, .int .u64 0] 50)).alloc (.cells #[.int .i64 2, .string T2, .int .u64 0] 50)) (cs := #[.int .i64 2, .string T2, .int .u64 0]) (t := 50) (fr := (0, 0)) (heap_alloc_new _ _); simpa using e) (by simp [Value.oneCell']) (by omega) (by unfold maxLen; omega) (by omega) (by have := hb.out.size; simp; omega) (wr.heap.size + 2) (by simp) ?_; intro g cap w3 hown3 hgrow hat hlt3; have O3 := Bx.mk hown3; have B3 : Bx (Below w.heap.size w w3) := ⟨((hb.out.alloc hb.out.size _).alloc (by have := hb.out.size; simp; omega) _).grown hgrow (by have := hb.out.size; simp; omega) (fun k hk => (rowLt hrow.out.raw k hk).1)⟩; clear hown3 hgrow hat hlt3))
                        go_ret2
                        exact RTokP.bad E.out rfl (hb.out.alloc hb.out.size _)
            · have hA0 : isA c = false := by simpa using hA
              rw [toksC_bad h35 (by simpa using hbk) ⟨fun h => hs (.inl h), fun h => hs (.inr h)⟩ hA0] at e
              have e : toksC l = none := e
              have h2 : isL c = false ∧ isD c = false := by simpa [isA] using hA0
              rw [h2.1] at CL
              rw [h2.2] at CD
              have E := Bx.mk e
              clear e hg hdr hc hbk h35 hs hA hA0 h2
              generalize c.toNat = n at *
              go_wp2_with (first
                | (go_at_call 19; ((with_reducible refine (CL.out _).mono ?_); rintro e w' ⟨rfl, rfl⟩))
                | (go_at_call 20; ((with_reducible refine (CD.out _).mono ?_); rintro e w' ⟨rfl, rfl⟩)))
              go_ret2
              exact RTokP.bad E.out rfl hb.out
    · obtain rfl : k = T.size := by omega
      have e := htk.out
      rw [List.drop_eq_nil_of_le (by rw [HLL.out]; exact Nat.le_refl _), toksC_nil] at e
      have e : toksC l = some D := by rw [e]; simp
      have E := Bx.mk e
      clear e htk
      go_wp2
      go_ret2
      exact RTokP.ok E.out rfl hrow.out hb.out
end Go.Proofs.YtmgipjkdeoelgaaDoor
