/- TabQ, TabR, TabS, TabT, in one text. -/
import Derived.Test.YtacfdnjdjgdbcaaGreatDoorTf
import Derived.BigQuiet
import Derived.Maps.RangeWalk
namespace Go.Proofs.YtacfdnjdjgdbcaaGreatDoor
set_option maxRecDepth 100000
open Go.RowKit Go.Maps Go.Sort M

/-- what the reference's Put leaves -/
def RPutP (R : List Ent) (x : Ent) (v : Value) (w : World) (e : Ending) (w' : World) : Prop :=
  Below w.heap.size w w' ∧ (((∃ y ∈ R, y.key = x.key) ∧ e = .returned (.tuple #[v, .bool false])) ∨ ((∀ y ∈ R, y.key ≠ x.key) ∧ ∃ v', e = .returned (.tuple #[v', .bool true]) ∧ RefIn w' v' (insR x R) ∧ ∀ k, v'.ownBlock = some k → w.heap.size < k))

theorem own_len {W : World} {B : Nat} {p : Option Addr} {q c : Nat} {R : List Ent} (h : W.ownsRow B 71 2 (.slice p q c) R.length (R.flatMap rcE)) : q = R.length := by
  rcases h.2 with ⟨hh, h0⟩ | ⟨g, cap, cur, hh, _⟩
  · obtain ⟨_, h3, _⟩ := Value.slice.inj hh; omega
  · obtain ⟨_, h3, _⟩ := Value.slice.inj hh; exact h3

set_option maxHeartbeats 4000000 in
theorem rput_any (R : List Ent) (x : Ent) (v : Value) (w : World) (h : RefIn w v R) (hR : R.length ≤ 1000) :
    Calls Tryz.prog 60 #[v, .agg #[.string (bs x.key), .string x.text]] w (RPutP R x v w) := by
  obtain ⟨i0, hi, hz0, hz1, hz2⟩ := info_parts info_ref
  obtain ⟨tq, tc, rfl⟩ := h.val
  have cf := fun W (hb : Below w.heap.size w W) => tfind_any R x _ W (h.below hb) (by omega)
  have less := fun y => ent_less x y
  have H := Box.mk h
  obtain ⟨S, hS⟩ : ∃ S, S = bs x.key := ⟨_, rfl⟩
  have hrx : rcE x = [.string S, .string x.text] := by rw [hS]; rfl
  rw [← hS] at cf less ⊢
  obtain ⟨W1, hW1⟩ : ∃ W, W = w.alloc (.cells #[.string S, .string x.text] 71) := ⟨_, rfl⟩
  have b1 : Below w.heap.size w W1 := by rw [hW1]; exact aset22 _ _
  have s1 : W1.heap.size = w.heap.size + 1 := by rw [hW1]; simp
  have t1 : W1.heap[w.heap.size]? = some (.cells #[.string S, .string x.text] 71 (0, 0)) := by rw [hW1]; exact heap_alloc_new w _
  have c1 : W1.cell? ⟨w.heap.size, 0, none⟩ = some (.string S) := by simp only [World.cell?, t1]; rfl
  have c2 : W1.cell? ⟨w.heap.size, 1, none⟩ = some (.string x.text) := by simp only [World.cell?, t1]; rfl
  have CF := Box.mk cf; have LE := Box.mk less; have B1 := Box.mk b1; have C1 := Box.mk c1; have C2 := Box.mk c2; have HW := Box.mk hW1; have RX := Box.mk hrx
  clear h cf less hS b1 c1 c2 t1 hW1 hrx
  go_enter Tryz.func60, Tryz.ntmps60
  go_upto_region 2 with (go_at_call 92; ((rw [← HW.out]; with_reducible refine (CF.out _ B1.out).mono ?_); rintro e w2 ⟨b2, h2⟩; have ev : ∃ k, e = .returned (.int .i64 k) := (by rcases h2 with ⟨rfl, _⟩ | ⟨_, _, rfl, _⟩; exact ⟨_, rfl⟩; exact ⟨_, rfl⟩); obtain ⟨kv, rfl⟩ := ev; have B2 := Box.mk b2; have H2 := Box.mk h2; clear b2 h2))
  · rcases H2.out with ⟨he, hn⟩ | ⟨i, y, he, hy, hk⟩
    · simp only [Ending.returned.injEq, Value.int.injEq, true_and] at he
      exfalso; omega
    · simp only [Ending.returned.injEq, Value.int.injEq, true_and] at he
      have HY := Box.mk hy; have HKk := Box.mk hk
      clear hy hk
      go_wp2_with fail
      exact bodyPost_ret (v := .tuple #[.slice tq R.length tc, .bool false]) (by simp [results, go_sem]) rfl ⟨B1.out.trans (B2.out.mono B1.out.size), .inl ⟨⟨y, List.mem_of_getElem? HY.out, HKk.out⟩, rfl⟩⟩
  · have hnk : ∀ y ∈ R, y.key ≠ x.key := by
      rcases H2.out with ⟨_, hn⟩ | ⟨i, y, he, _, _⟩
      · exact hn
      · simp only [Ending.returned.injEq, Value.int.injEq, true_and] at he
        exfalso; omega
    have NK := Box.mk hnk
    clear hnk H2
    have hW2 : Below (w.heap.size + 1) W1 w2 := B2.out.mono (by omega)
    have HB0 := Box.mk (hW2.trans ((aset22 w2 (.cells #[] 71)).mono (by have := hW2.size; omega)))
    have hO0 : (w2.alloc (.cells #[] 71)).ownsRow (w.heap.size + 1) 71 2 (.slice (some ⟨w2.heap.size, 0, none⟩) 0 0) 0 [] := World.ownsRow_made _ _ _ (by have := hW2.size; omega) (by decide) rfl
    have HO0 := Box.mk hO0
    clear hW2 hO0
    go_loopw [6, 7, 19] (fun v d i wr => ∃ (k : Nat) (E : List Ent) (db : Bool), i = .int .i64 (k : Int) ∧ d = .bool db ∧ k ≤ R.length ∧ (db = false → E.length ≤ k) ∧ E.length ≤ k + 1 ∧ Box (fdR x (R.take k) = (E, db)) ∧ Box (wr.ownsRow (w.heap.size + 1) 71 2 v E.length (E.flatMap rcE)) ∧ Box (Below (w.heap.size + 1) W1 wr) ∧ ∃ p q c, v = .slice p q c) (fun _ _ i _ => R.length - (intOf i).toNat)
    case atStart => exact ⟨0, [], false, rfl, rfl, by omega, fun _ => by simp, by simp, ⟨rfl⟩, HO0, HB0, _, _, _, rfl⟩
    case round =>
      obtain ⟨k, E, db, rfl, rfl, hk, hE0, hE1, hfd, hrow, hb, p, q, c, rfl⟩ := hrel
      obtain rfl := own_len hrow.out
      by_cases hlt : k < R.length
      · obtain ⟨g, gc, hv, hg, hc⟩ := H.out.cells (by omega)
        obtain ⟨rfl, _, rfl⟩ := Value.slice.inj hv
        obtain ⟨y, hy⟩ : ∃ y, R[k]? = some y := ⟨_, List.getElem?_eq_getElem hlt⟩
        obtain ⟨c0, c1⟩ := hc k y hy
        have hft := fdR_take x hy
        rw [hfd.out] at hft
        have q0 : wr.cell? ⟨g, k * 2, none⟩ = some (.string (bs y.key)) := (hb.out.cell (show g < w.heap.size + 1 by omega)).trans ((B1.out.cell hg).trans c0)
        have q1 : wr.cell? ⟨g, k * 2 + 1, none⟩ = some (.string y.text) := (hb.out.cell (show g < w.heap.size + 1 by omega)).trans ((B1.out.cell hg).trans c1)
        have le := LE.out y
        have hry : rcE y = [.string (bs y.key), .string y.text] := rfl
        obtain ⟨A, hA⟩ : ∃ A, A = bs y.key := ⟨_, rfl⟩
        rw [← hA] at q0 le hry
        have FT := Box.mk hft; have RY := Box.mk hry
        clear hv hc c0 c1 hy hft hry hA hg
        obtain ⟨C, hC⟩ : ∃ C, C = decide (cfE x y < 0) := ⟨_, rfl⟩
        rw [← hC] at le
        have HC := Box.mk hC
        have hsz := hb.out.size
        have m0 : w.heap.size < wr.heap.size := by omega
        clear hC
        go_upto_region 8 with fail
        obtain ⟨Wa, hWa⟩ : ∃ W, W = wr.alloc (.cells #[.string A, .string y.text] 71) := ⟨_, rfl⟩
        rw [← hWa]
        have ta : Wa.heap[wr.heap.size]? = some (.cells #[.string A, .string y.text] 71 (0, 0)) := by rw [hWa]; exact heap_alloc_new wr _
        have sa : Wa.heap.size = wr.heap.size + 1 := by rw [hWa]; simp
        have a0 : Wa.cell? ⟨wr.heap.size, 0, none⟩ = some (.string A) := by simp only [World.cell?, ta]; rfl
        have a1 : Wa.cell? ⟨wr.heap.size, 1, none⟩ = some (.string y.text) := by simp only [World.cell?, ta]; rfl
        have ba : Below (w.heap.size + 1) W1 Wa := by rw [hWa]; exact hb.out.alloc (by have := hb.out.size; omega) _
        have z0 : Wa.cell? ⟨w.heap.size, 0, none⟩ = some (.string S) := (ba.cell (show w.heap.size < w.heap.size + 1 by omega)).trans C1.out
        have z1 : Wa.cell? ⟨w.heap.size, 1, none⟩ = some (.string x.text) := (ba.cell (show w.heap.size < w.heap.size + 1 by omega)).trans C2.out
        have ro : Wa.ownsRow (w.heap.size + 1) 71 2 (.slice p E.length c) E.length (E.flatMap rcE) := by rw [hWa]; exact hrow.out.alloc _
        have ne : ∀ k, (Value.slice p E.length c).ownBlock = some k → k < wr.heap.size := fun k hk => (hrow.out.lt k hk).2
        have RO := Box.mk ro; have BA := Box.mk ba; have NE := Box.mk ne
        clear ta ba ro ne hWa q0 q1 hrow hb
        obtain ⟨m9, hm9⟩ : ∃ m, m = wr.heap.size := ⟨_, rfl⟩
        rw [← hm9] at sa a0 a1 NE ⊢
        have SA := Box.mk sa
        clear hm9 sa
        by_cases hA : db = false ∧ C = true
        · obtain ⟨rfl, rfl⟩ := hA
          have hE2 := hE0 rfl
          have hst : fdR x (R.take (k + 1)) = (E ++ [x] ++ [y], true) := by rw [FT.out]; unfold tstR; rw [if_pos ⟨rfl, of_decide_eq_true HC.out.symm⟩]
          have ST := Box.mk hst
          clear hst HC
          go_wp2_with (first
            | (at_builtin; refine wpList_append_lies _ rfl (.tmp 32) (.tmp 34) 31 rfl (w.heap.size + 1) 71 i0 _ 2 32 Tryz.underlying31 hi hz0 hz1 hz2 rfl (by omega) _ (E.length) (E.flatMap rcE) rfl (RO.out.alloc _) ⟨Wa.heap.size, 0, none⟩ 1 1 [.string S, .string x.text] rfl rfl (World.news_of_block (cs := #[.string S, .string x.text]) (t := 71) (fr := (0, 0)) (heap_alloc_new _ _)) (by simp [Value.oneCell']) (by omega) (by unfold maxLen; omega) (by omega) (by have := BA.out.size; simp; omega) (Wa.heap.size + 1) (by simp) ?_; intro g4 cap4 w4 hown4 hgrow4 hat4 hlt4; have PU4 := Box.mk hown4; have GB4 : Box (Below (w.heap.size + 1) W1 w4) := ⟨(BA.out.alloc (by have := BA.out.size; omega) _).grown hgrow4 (by have := BA.out.size; simp; omega) (fun k hk => (RO.out.lt k hk).1)⟩; have a40 := hgrow4.cell (((aset22 Wa _).cell (show m9 < Wa.heap.size by have := SA.out; omega)).trans a0) (fun e => absurd (NE.out m9 e.symm) (by omega)); have a41 := hgrow4.cell (((aset22 Wa _).cell (show m9 < Wa.heap.size by have := SA.out; omega)).trans a1) (fun e => absurd (NE.out m9 e.symm) (by omega)); clear hown4 hgrow4 hat4 hlt4)
            | (at_builtin; refine wpList_append_lies _ rfl (.tmp 36) (.tmp 38) 31 rfl (w.heap.size + 1) 71 i0 _ 2 32 Tryz.underlying31 hi hz0 hz1 hz2 rfl (by omega) _ (E.length + 1) (E.flatMap rcE ++ [.string S, .string x.text]) rfl (PU4.out.alloc _) ⟨w4.heap.size, 0, none⟩ 1 1 [.string A, .string y.text] rfl rfl (World.news_of_block (cs := #[.string A, .string y.text]) (t := 71) (fr := (0, 0)) (heap_alloc_new _ _)) (by simp [Value.oneCell']) (by omega) (by unfold maxLen; omega) (by omega) (by have := GB4.out.size; simp; omega) (w4.heap.size + 1) (by simp) ?_; intro g5 cap5 w5 hown5 hgrow5 hat5 hlt5; have PU5 := Box.mk hown5; have GB5 : Box (Below (w.heap.size + 1) W1 w5) := ⟨(GB4.out.alloc (by have := GB4.out.size; omega) _).grown hgrow5 (by have := GB4.out.size; simp; omega) (fun k hk => (PU4.out.lt k hk).1)⟩; clear hown5 hgrow5 hat5 hlt5))
          go_roundw
          case rel => exact ⟨k + 1, E ++ [x] ++ [y], true, by go_num, rfl, by omega, by simp, by simp; omega, ST, ⟨by
            have h := PU5.out
            rw [List.length_append, List.length_append, List.flatMap_append, List.flatMap_append]
            simp only [List.flatMap_cons, List.flatMap_nil, List.append_nil, RX.out, RY.out]
            exact h⟩, GB5, _, _, _, rfl⟩
          case measure => simp [intOf] <;> omega
        · have hst : fdR x (R.take (k + 1)) = (E ++ [y], db) := by rw [FT.out]; unfold tstR; rw [if_neg (fun h => hA ⟨h.1, by rw [HC.out]; exact decide_eq_true h.2⟩)]
          have ST := Box.mk hst
          clear hst HC
          cases db with
          | true =>
            clear hA
            go_wp2_with (first
              | (at_builtin; refine wpList_append_lies _ rfl (.tmp 36) (.tmp 38) 31 rfl (w.heap.size + 1) 71 i0 _ 2 32 Tryz.underlying31 hi hz0 hz1 hz2 rfl (by omega) _ (E.length) (E.flatMap rcE) rfl (RO.out.alloc _) ⟨Wa.heap.size, 0, none⟩ 1 1 [.string A, .string y.text] rfl rfl (World.news_of_block (cs := #[.string A, .string y.text]) (t := 71) (fr := (0, 0)) (heap_alloc_new _ _)) (by simp [Value.oneCell']) (by omega) (by unfold maxLen; omega) (by omega) (by have := BA.out.size; simp; omega) (Wa.heap.size + 1) (by simp) ?_; intro g5 cap5 w5 hown5 hgrow5 hat5 hlt5; have PU5 := Box.mk hown5; have GB5 : Box (Below (w.heap.size + 1) W1 w5) := ⟨(BA.out.alloc (by have := BA.out.size; omega) _).grown hgrow5 (by have := BA.out.size; simp; omega) (fun k hk => (RO.out.lt k hk).1)⟩; clear hown5 hgrow5 hat5 hlt5))
            go_roundw
            case rel => exact ⟨k + 1, E ++ [y], true, by go_num, rfl, by omega, by simp, by simp; omega, ST, ⟨by
              have h := PU5.out
              rw [List.length_append, List.flatMap_append]
              simp only [List.flatMap_cons, List.flatMap_nil, List.append_nil, RY.out]
              exact h⟩, GB5, _, _, _, rfl⟩
            case measure => simp [intOf] <;> omega
          | false =>
            have hE2 := hE0 rfl
            cases C with
            | true => exact absurd ⟨rfl, rfl⟩ hA
            | false =>
              clear hA
              go_wp2_with (first
                | (at_builtin; refine wpList_append_lies _ rfl (.tmp 36) (.tmp 38) 31 rfl (w.heap.size + 1) 71 i0 _ 2 32 Tryz.underlying31 hi hz0 hz1 hz2 rfl (by omega) _ (E.length) (E.flatMap rcE) rfl (RO.out.alloc _) ⟨Wa.heap.size, 0, none⟩ 1 1 [.string A, .string y.text] rfl rfl (World.news_of_block (cs := #[.string A, .string y.text]) (t := 71) (fr := (0, 0)) (heap_alloc_new _ _)) (by simp [Value.oneCell']) (by omega) (by unfold maxLen; omega) (by omega) (by have := BA.out.size; simp; omega) (Wa.heap.size + 1) (by simp) ?_; intro g5 cap5 w5 hown5 hgrow5 hat5 hlt5; have PU5 := Box.mk hown5; have GB5 : Box (Below (w.heap.size + 1) W1 w5) := ⟨(BA.out.alloc (by have := BA.out.size; omega) _).grown hgrow5 (by have := BA.out.size; simp; omega) (fun k hk => (RO.out.lt k hk).1)⟩; clear hown5 hgrow5 hat5 hlt5))
              go_roundw
              case rel => exact ⟨k + 1, E ++ [y], false, by go_num, rfl, by omega, fun h => by simp; omega, by simp; omega, ST, ⟨by
                have h := PU5.out
                rw [List.length_append, List.flatMap_append]
                simp only [List.flatMap_cons, List.flatMap_nil, List.append_nil, RY.out]
                exact h⟩, GB5, _, _, _, rfl⟩
              case measure => simp [intOf] <;> omega
      · obtain rfl : k = R.length := by omega
        have hfd2 := hfd.out
        rw [List.take_length] at hfd2
        have z0 : wr.cell? ⟨w.heap.size, 0, none⟩ = some (.string S) := (hb.out.cell (show w.heap.size < w.heap.size + 1 by omega)).trans C1.out
        have z1 : wr.cell? ⟨w.heap.size, 1, none⟩ = some (.string x.text) := (hb.out.cell (show w.heap.size < w.heap.size + 1 by omega)).trans C2.out
        have bw : ∀ W, Below (w.heap.size + 1) W1 W → Below w.heap.size w W := fun W h => B1.out.trans (h.mono (by omega))
        cases db with
        | true =>
          have e : E = insR x R := fdR_true hfd2
          have hri : RefIn wr (.slice p E.length c) (insR x R) := by rw [← e]; exact RefIn.own hrow.out
          have RI := Box.mk hri; have BW := Box.mk bw; have LT := Box.mk hrow.out.lt
          clear hri bw e hfd2 hfd
          go_wp2_with fail
          exact bodyPost_ret (v := .tuple #[.slice p E.length c, .bool true]) (by simp [results, go_sem]) rfl ⟨BW.out _ hb.out, .inr ⟨NK.out, _, rfl, RI.out, fun k hk => (LT.out k hk).1⟩⟩
        | false =>
          have e : E ++ [x] = insR x R := fdR_false hfd2
          have hE2 := hE0 rfl
          have EE := Box.mk e; have BW := Box.mk bw
          clear bw e hfd2 hfd
          go_wp2_with (first
            | (at_builtin; refine wpList_append_lies _ rfl (.tmp 43) (.tmp 45) 31 rfl (w.heap.size + 1) 71 i0 _ 2 32 Tryz.underlying31 hi hz0 hz1 hz2 rfl (by omega) _ (E.length) (E.flatMap rcE) rfl (hrow.out.alloc _) ⟨wr.heap.size, 0, none⟩ 1 1 [.string S, .string x.text] rfl rfl (World.news_of_block (cs := #[.string S, .string x.text]) (t := 71) (fr := (0, 0)) (heap_alloc_new _ _)) (by simp [Value.oneCell']) (by omega) (by unfold maxLen; omega) (by omega) (by have := hb.out.size; simp; omega) (wr.heap.size + 1) (by simp) ?_; intro g5 cap5 w5 hown5 hgrow5 hat5 hlt5; have PU5 := Box.mk hown5; have GB5 : Box (Below (w.heap.size + 1) W1 w5) := ⟨(hb.out.alloc (by have := hb.out.size; omega) _).grown hgrow5 (by have := hb.out.size; simp; omega) (fun k hk => (hrow.out.lt k hk).1)⟩; clear hown5 hgrow5 hat5 hlt5))
          refine bodyPost_ret (v := .tuple #[.slice (some ⟨g5, 0, none⟩) (E.length + 1) cap5, .bool true]) (by simp [results, go_sem]) rfl ⟨BW.out _ GB5.out, .inr ⟨NK.out, _, rfl, ?_, fun k hk => (PU5.out.lt k hk).1⟩⟩
          rw [← EE.out]
          refine RefIn.own (B := w.heap.size + 1) ?_
          have h := PU5.out
          rw [List.length_append, List.flatMap_append]
          simp only [List.flatMap_cons, List.flatMap_nil, List.append_nil, RX.out]
          exact h
end Go.Proofs.YtacfdnjdjgdbcaaGreatDoor
namespace Go.Proofs.YtacfdnjdjgdbcaaGreatDoor
set_option maxRecDepth 100000
open Go.RowKit Go.Maps Go.Sort M

/-! ### Put, in one -/
theorem TExt.of_below {w W : World} {b : Nat} {mo : Option Nat} (h : Below w.heap.size w W) : TExt b mo mo w W :=
  ⟨h.os, h.tape, h.output, h.size, fun k hk _ _ => h.block k hk, .inl rfl⟩
/-- what Put leaves -/
def TPutP (b : Nat) (mo : Option Nat) (l : List Ent) (x : Ent) (w : World) (e : Ending) (w' : World) : Prop :=
  ∃ (bl : Bool) (mo' : Option Nat) (l' : List Ent), e = .returned (.bool bl) ∧ Tab w' b mo' l' ∧ TExt b mo mo' w w' ∧ ((bl = false ∧ l' = l ∧ ∃ y ∈ l, y.key = x.key) ∨ (bl = true ∧ l' = x :: l ∧ ∀ y ∈ l, y.key ≠ x.key))
theorem kkE_of {x y : Ent} (h : x.key = y.key) : kkE x = kkE y := by unfold kkE; rw [h]
theorem tput_any (b : Nat) (mo : Option Nat) (l : List Ent) (x : Ent) (w : World) (h : Tab w b mo l) (hl : l.length ≤ 1000) :
    Calls Tryz.prog 30 #[.pointer (some ⟨b, 0, none⟩), ekE x, .string x.text] w (TPutP b mo l x w) := by
  by_cases hy : ∃ y ∈ l, y.key = x.key
  · obtain ⟨y, hy, he⟩ := hy
    exact (put_there b mo l x y w h hy (kkE_of he)).mono fun e w' ⟨h1, h2⟩ => ⟨false, mo, l, h1, h.below h2, TExt.of_below h2, .inl ⟨rfl, rfl, y, hy, he⟩⟩
  · have hn : ∀ y ∈ l, y.key ≠ x.key := fun y h1 h2 => hy ⟨y, h1, h2⟩
    exact (put_new b mo l x w h (fun y h1 h2 => hn y h1 (kkE_eq h2)) (by unfold maxLen; omega)).mono fun e w' ⟨h1, mo', h2, h3⟩ => ⟨true, mo', x :: l, h1, h2, h3, .inr ⟨rfl, rfl, hn⟩⟩
/-- the reference's list is none of the table's memory -/
theorem RefIn.text {w W : World} {v : Value} {R : List Ent} {b : Nat} {mo mo' : Option Nat} {l : List Ent} (h : RefIn w v R) (ht : Tab w b mo l) (hx : TExt b mo mo' w W) : RefIn W v R :=
  ⟨h.val, fun h0 => by
    obtain ⟨g, c, e, hg, hc⟩ := h.cells h0
    have hb : W.heap[g]? = w.heap[g]? := by
      have c0 := (hc 0 R[0] (List.getElem?_eq_getElem h0)).1
      rw [Nat.zero_mul] at c0
      refine hx.block g hg (fun e1 => ?_) (fun e1 => ?_)
      · rw [e1, ht.cell] at c0
        injection c0 with c0
        cases c0
      · obtain ⟨es, ck, hm, _⟩ := (ht.mapd g e1).2.ex
        simp only [World.cell?, hm] at c0
        cases c0
    exact ⟨g, c, e, Nat.lt_of_lt_of_le hg hx.size, fun i x hi => ⟨(tcell_keep (a := ⟨g, i * 2, none⟩) hb).trans (hc i x hi).1, (tcell_keep (a := ⟨g, i * 2 + 1, none⟩) hb).trans (hc i x hi).2⟩⟩⟩

/-! ### items -/
structure IIn (w : World) (v : Value) (n : Nat) (A B : Nat → ByteArray) : Prop where
  shape : ∃ p c, v = .slice p n c
  cells : 0 < n → ∃ b off c, v = .slice (some ⟨b, off, none⟩) n c ∧ b < w.heap.size ∧ ∀ i, i < n → w.cell? ⟨b, off + i * 2, none⟩ = some (.string (A i)) ∧ w.cell? ⟨b, off + i * 2 + 1, none⟩ = some (.string (B i))
theorem IIn.below {w w' : World} {v : Value} {n : Nat} {A B : Nat → ByteArray} (h : IIn w v n A B) (hb : Below w.heap.size w w') : IIn w' v n A B :=
  ⟨h.shape, fun hn => by
    obtain ⟨b, off, c, hv, hlt, hc⟩ := h.cells hn
    exact ⟨b, off, c, hv, Nat.lt_of_lt_of_le hlt hb.size, fun i hi => ⟨(hb.cell hlt).trans (hc i hi).1, (hb.cell hlt).trans (hc i hi).2⟩⟩⟩
/-- the entry of an item -/
def itE (A B : Nat → ByteArray) (i : Nat) : Ent := ⟨shaN (sb ((A i).extract 0 20)), (B i).extract 0 60, shaN_length _, shaN_lt _⟩
def itL (A B : Nat → ByteArray) (k : Nat) : List Ent := ((List.range k).map (itE A B)).reverse
theorem itL_succ (A B : Nat → ByteArray) (k : Nat) : itL A B (k + 1) = itE A B k :: itL A B k := by
  unfold itL; rw [List.range_succ, List.map_append, List.reverse_append]; rfl
theorem itL_length (A B : Nat → ByteArray) (k : Nat) : (itL A B k).length = k := by simp [itL]
theorem itL_text {A B : Nat → ByteArray} {k : Nat} {l : List Ent} (h : l.Sublist (itL A B k)) : ∀ x ∈ l, x.text.size ≤ 60 := fun x hx => by
  have := h.subset hx
  unfold itL at this
  rw [List.mem_reverse, List.mem_map] at this
  obtain ⟨i, _, rfl⟩ := this
  unfold itE
  rw [ByteArray.size_extract]; omega

/-- what Grow leaves -/
def GrowP (w : World) (n : Nat) (A B : Nat → ByteArray) (e : Ending) (w' : World) : Prop :=
  ∃ tb mo l v R, e = .returned (.tuple #[.pointer (some ⟨tb, 0, none⟩), v]) ∧ Tab w' tb mo l ∧ RefIn w' v R ∧ R.Perm l ∧ Rising R ∧ l.Sublist (itL A B (min n 12)) ∧ Below w.heap.size w w' ∧ w.heap.size ≤ tb ∧ (∀ m, mo = some m → w.heap.size ≤ m) ∧ ∀ k, v.ownBlock = some k → w.heap.size ≤ k

/-- the reference's Put, in one -/
theorem rput2_any (R : List Ent) (x : Ent) (v : Value) (w : World) (h : RefIn w v R) (hR : R.length ≤ 1000) :
    Calls Tryz.prog 60 #[v, .agg #[.string (bs x.key), .string x.text]] w fun e w' => ∃ v' bl R', e = .returned (.tuple #[v', .bool bl]) ∧ RefIn w' v' R' ∧ Below w.heap.size w w' ∧ (((∃ y ∈ R, y.key = x.key) ∧ R' = R) ∨ ((∀ y ∈ R, y.key ≠ x.key) ∧ R' = insR x R)) ∧ ∀ k, v'.ownBlock = some k → v' = v ∨ w.heap.size ≤ k :=
  (rput_any R x v w h hR).mono fun e w' ⟨hb, h1⟩ => by
    rcases h1 with ⟨hy, he⟩ | ⟨hn, v', he, hr⟩
    · exact ⟨v, false, R, he, h.below hb, hb, .inl ⟨hy, rfl⟩, fun _ _ => .inl rfl⟩
    · exact ⟨v', true, _, he, hr.1, hb, .inr ⟨hn, rfl⟩, fun k hk => .inr (Nat.le_of_lt (hr.2 k hk))⟩

theorem grow_step {A B : Nat → ByteArray} {k : Nat} {l l' R R' : List Ent} {bl : Bool} {x : Ent} (hx : x = itE A B k) (hp : R.Perm l) (hr : Rising R) (hs : l.Sublist (itL A B k))
    (h1 : (bl = false ∧ l' = l ∧ ∃ y ∈ l, y.key = x.key) ∨ (bl = true ∧ l' = x :: l ∧ ∀ y ∈ l, y.key ≠ x.key)) (h2 : ((∃ y ∈ R, y.key = x.key) ∧ R' = R) ∨ ((∀ y ∈ R, y.key ≠ x.key) ∧ R' = insR x R)) :
    R'.Perm l' ∧ Rising R' ∧ l'.Sublist (itL A B (k + 1)) := by
  rw [itL_succ, ← hx]
  rcases h1 with ⟨_, rfl, y, hy, he⟩ | ⟨_, rfl, hn⟩
  · rcases h2 with ⟨_, rfl⟩ | ⟨hn, _⟩
    · exact ⟨hp, hr, hs.cons _⟩
    · exact absurd he (hn y (hp.mem_iff.2 hy))
  · rcases h2 with ⟨⟨y, hy, he⟩, _⟩ | ⟨hn2, rfl⟩
    · exact absurd he (hn y (hp.mem_iff.1 hy))
    · exact ⟨(insR_perm x R).trans (hp.cons x), insR_rising x R hr hn2, hs.cons_cons x⟩
end Go.Proofs.YtacfdnjdjgdbcaaGreatDoor
namespace Go.Proofs.YtacfdnjdjgdbcaaGreatDoor
set_option maxRecDepth 100000
open Go.RowKit Go.Maps Go.Sort M

set_option maxRecDepth 100000 in
set_option maxHeartbeats 4000000 in
theorem grow_any (v : Value) (n : Nat) (A B : Nat → ByteArray) (w : World) (h : IIn w v n A B) (hn : n ≤ 9223372036854775807) (hK : KTab w) :
    Calls Tryz.prog 34 #[v] w (GrowP w n A B) := by
  obtain ⟨vp, vc, rfl⟩ := h.shape
  have hbl : ∀ i, (byts (itE A B i).key).length = 32 := fun i => by rw [byts_length]; exact (itE A B i).kl
  have ht : ∀ (W : World) (Z : Array Value), Z.size = 32 → (W.alloc (.cells Z 24)).there W.heap.size 0 32 := fun W Z hZ => by
    have := there_new W 24 Z.toList W.heap.size 0 32 rfl (by simp [hZ])
    simpa using this
  have H := Box.mk h; have HK := Box.mk hK
  obtain ⟨V, hV⟩ : ∃ V, V = w.alloc (.cells #[.map none] 78) := ⟨_, rfl⟩
  have bV : Below w.heap.size w V := by rw [hV]; exact aset22 _ _
  have sV : V.heap.size = w.heap.size + 1 := by rw [hV]; simp
  have tV : V.heap[w.heap.size]? = some (.cells #[.map none] 78 (0, 0)) := by rw [hV]; exact heap_alloc_new w _
  have T0 : Tab V w.heap.size none [] := ⟨by simp only [World.cell?, tV]; rfl, by simp only [World.frozen?, tV]; rfl, fun _ => rfl, fun m e => by cases e⟩
  have b0 : Below w.heap.size w (V.alloc (.cells #[] 71)) := bV.alloc (by omega) _
  have TT0 := Box.mk (T0.below (aset22 V (.cells #[] 71)))
  have B0 := Box.mk b0; have HV := Box.mk hV
  clear h hK bV tV T0 b0 sV hV
  go_enter Tryz.func34, Tryz.ntmps34
  go_wp2_with fail
  rw [← HV.out]
  clear HV
  go_loopw [5, 6] (fun v i wr => ∃ (k : Nat) (l R : List Ent) (mo : Option Nat), i = .int .i64 (k : Int) ∧ k ≤ n ∧ k ≤ 12 ∧ Box (Tab wr w.heap.size mo l) ∧ Box (RefIn wr v R) ∧ Box (R.Perm l) ∧ Box (Rising R) ∧ Box (l.Sublist (itL A B k)) ∧ Box (Below w.heap.size w wr) ∧ Box (∀ m, mo = some m → w.heap.size ≤ m) ∧ Box (∀ k, v.ownBlock = some k → w.heap.size ≤ k)) (fun _ i _ => min n 12 - (intOf i).toNat)
  case atStart => exact ⟨0, [], [], none, rfl, by omega, by omega, TT0, ⟨⟨⟨_, _, rfl⟩, fun h => absurd h (by simp)⟩⟩, ⟨List.Perm.refl _⟩, ⟨List.Pairwise.nil⟩, ⟨List.Sublist.refl _⟩, B0, ⟨fun m e => by cases e⟩, ⟨fun k e => by cases e; exact Nat.le_succ _⟩⟩
  case round =>
    obtain ⟨k, l, R, mo, rfl, hkn, hk12, hT, hR, hP, hS, hL, hB, hM, hV⟩ := hrel
    by_cases hlt : k < n ∧ k < 12
    · obtain ⟨ib, io, ic, hv, hib, hc⟩ := H.out.cells (by omega)
      obtain ⟨rfl, _, rfl⟩ := Value.slice.inj hv
      obtain ⟨hlt1, hlt2⟩ := hlt
      obtain ⟨c0, c1⟩ := hc k hlt1
      have q0 : wr.cell? ⟨ib, io + k * 2, none⟩ = some (.string (A k)) := (hB.out.cell hib).trans c0
      have hll : l.length ≤ 12 := by have := hL.out.length_le; rw [itL_length] at this; omega
      have hRl : R.length ≤ 12 := by have := hP.out.length_eq; omega
      obtain ⟨x, hx⟩ : ∃ x, x = itE A B k := ⟨_, rfl⟩
      have hbx := hbl k
      have cu1 : ∀ W : World, Calls Tryz.prog 5 #[.string (A k), .int .i64 20] W fun e w' => e = .returned (.string ((A k).extract 0 20)) ∧ W = w' := fun W => cut_any (A k) 20 W
      have cu2 : ∀ W : World, Calls Tryz.prog 5 #[.string (B k), .int .i64 60] W fun e w' => e = .returned (.string x.text) ∧ W = w' := fun W => by rw [hx]; exact cut_any (B k) 60 W
      have co : ∀ W, Below w.heap.size w W → Calls Tryz.prog 6 #[.string ((A k).extract 0 20)] W fun e w' => e = .returned (.agg (byts x.key).toArray) ∧ Below W.heap.size W w' := fun W hb => by
        rw [hx]; exact shaOf_any _ (by rw [ByteArray.size_extract]; omega) W (ktab_below HK.out hb)
      rw [← hx] at hbx
      have cp : ∀ W, Tab W w.heap.size mo l → Calls Tryz.prog 30 #[.pointer (some ⟨w.heap.size, 0, none⟩), .agg (byts x.key).toArray, .string x.text] W (TPutP w.heap.size mo l x W) := fun W h => tput_any w.heap.size mo l x W h (by omega)
      have cr : ∀ W, RefIn W u5 R → Calls Tryz.prog 60 #[u5, .agg #[.string (bs x.key), .string x.text]] W fun e w' => ∃ v' bl R', e = .returned (.tuple #[v', .bool bl]) ∧ RefIn w' v' R' ∧ Below W.heap.size W w' ∧ (((∃ y ∈ R, y.key = x.key) ∧ R' = R) ∨ ((∀ y ∈ R, y.key ≠ x.key) ∧ R' = insR x R)) ∧ ∀ k, v'.ownBlock = some k → v' = u5 ∨ W.heap.size ≤ k := fun W h => rput2_any R x u5 W h (by omega)
      have hcv : ∀ W (g : Nat), W.rangeAt g 0 (byts x.key) → (convert 26 9 (.slice (some ⟨g, 0, none⟩) 32 32)).run Tryz.prog W = .ok (.string (bs x.key)) W := fun W g h => conv_rangeI (cap := 32) x.kl h
      have hb1 := byts_one x.key
      have st := fun l' R' bl h1 h2 => grow_step (l' := l') (R' := R') (bl := bl) hx hP.out hS.out hL.out h1 h2
      obtain ⟨C, hC⟩ : ∃ C, C = byts x.key := ⟨_, rfl⟩
      rw [← hC] at hbx hb1 co cp hcv
      obtain ⟨S, hSs⟩ : ∃ S, S = bs x.key := ⟨_, rfl⟩
      rw [← hSs] at cr hcv
      obtain ⟨A2, hA2⟩ : ∃ A2, A2 = (A k).extract 0 20 := ⟨_, rfl⟩
      rw [← hA2] at cu1 co
      obtain ⟨Tx, hTx⟩ : ∃ T, T = x.text := ⟨_, rfl⟩
      rw [← hTx] at cu2 cp cr
      obtain ⟨Ak, hAk⟩ : ∃ a, a = A k := ⟨_, rfl⟩
      rw [← hAk] at q0 cu1
      obtain ⟨Bk, hBk⟩ : ∃ a, a = B k := ⟨_, rfl⟩
      rw [← hBk] at c1 cu2
      have CU1 := Box.mk cu1; have CU2 := Box.mk cu2; have CO := Box.mk co; have CP := Box.mk cp; have CR := Box.mk cr; have HCV := Box.mk hcv; have ST := Box.mk st; have CC1 := Box.mk c1
      clear cu1 cu2 co cp cr hcv st c0 c1 hc hv hx hC hSs hA2 hTx hAk hBk
      go_wp2_with (first
        | (go_at_call 5; ((with_reducible refine (CU1.out _).mono ?_); rintro e w' ⟨rfl, rfl⟩; clear CU1))
        | (go_at_call 5; ((with_reducible refine (CU2.out _).mono ?_); rintro e w' ⟨rfl, rfl⟩; clear CU2))
        | (go_at_call 6; ((with_reducible refine (CO.out _ hB.out).mono ?_); rintro e w1 ⟨rfl, b1⟩; have T1 := Box.mk (hT.out.below (b1.alloc b1.size (.cells C.toArray 24))); have R1 := Box.mk (hR.out.below (b1.alloc b1.size (.cells C.toArray 24))); have B1 := Box.mk (hB.out.trans ((b1.alloc b1.size (.cells C.toArray 24)).mono hB.out.size)); have RR := Box.mk (range_new w1 24 C w1.heap.size rfl); have LW := Box.mk (show wr.heap.size ≤ w1.heap.size from b1.size); have SA := Box.mk (show (w1.alloc (.cells C.toArray 24)).heap.size = w1.heap.size + 1 by simp); clear b1 CO))
        | ((with_reducible refine at_store 24 (.tmp 7) (.tmp 30) ?_); refine wpList_store_mid rfl 24 (.tmp 7) (.tmp 30) rfl w1.heap.size 0 C.toArray rfl rfl (by have e : C.toArray.size = 32 := (by simp [hbx]); rw [e]; exact ht w1 _ rfl) (by have e : C.toArray.size = 32 := (by simp [hbx]); rw [e]; exact info_hash) (all_oneCell_toArray hb1) ?_; rw [show (w1.alloc _).setCells w1.heap.size 0 C.toArray.toList = w1.alloc (.cells C.toArray 24) from fillE w1 _ _ _ (by simp [hbx])]; obtain ⟨W2, hW2⟩ : ∃ W2, W2 = w1.alloc (.cells C.toArray 24) := ⟨_, rfl⟩; rw [← hW2]; rw [← hW2] at T1 R1 B1 RR SA; have q1 : W2.cell? ⟨ib, io + k * 2 + 1, none⟩ = some (.string Bk) := (B1.out.cell hib).trans CC1.out; clear hW2)
        | ((with_reducible refine at_load 24 (.tmp 7) ?_); refine wpList_load_mid rfl 24 (.tmp 7) rfl w1.heap.size 0 rfl C _ RR.out und_hash rfl (by rw [hbx]; exact info_hash) ?_)
        | (go_at_call 30; ((with_reducible refine (CP.out _ T1.out).mono ?_); rintro e w3 ⟨bl, mo3, l3, rfl, t3, x3, d3⟩; have T3 := Box.mk t3; have R3 := Box.mk (R1.out.text T1.out x3); have B3 := Box.mk (B1.out.trans (x3.below (B := w.heap.size) (Nat.le_refl _) B1.out.size hM.out)); have RR3 := range_keep RR.out (x3.block w1.heap.size (by have := SA.out; omega) (by have := LW.out; have := hT.out.lt; omega) (fun e => by have a := (hT.out.mapd _ e).2.lt; have := LW.out; omega)); have M3 := Box.mk (show ∀ m, mo3 = some m → w.heap.size ≤ m from fun m e => by rcases x3.lies with q | q; exact hM.out m (q ▸ e); have := q m e; have := B1.out.size; omega); have hcv3 := HCV.out w3 _ RR3; have D3 := Box.mk d3; clear t3 x3 d3 RR3 CP))
        | (go_at_call 60; ((with_reducible refine (CR.out _ R3.out).mono ?_); rintro e w4 ⟨v4, bl4, R4, rfl, r4, b4, d4, o4⟩; have O4 := Box.mk (show ∀ k, v4.ownBlock = some k → w.heap.size ≤ k from fun k hk => by rcases o4 k hk with q | q; exact hV.out k (q ▸ hk); exact Nat.le_trans B3.out.size q); have T4 := Box.mk (T3.out.below b4); have B4 := Box.mk (B3.out.trans (b4.mono B3.out.size)); have RI4 := Box.mk r4; have F4 := Box.mk (ST.out l3 R4 bl D3.out d4); clear r4 b4 d4 o4 CR)))
      go_roundw
      case rel => exact ⟨k + 1, l3, R4, mo3, by go_num, by omega, by omega, T4, RI4, ⟨F4.out.1⟩, ⟨F4.out.2.1⟩, ⟨F4.out.2.2⟩, B4, M3, O4⟩
      case measure => simp [intOf] <;> omega
    · have hkm : k = min n 12 := by omega
      have hL2 := hL.out
      rw [hkm] at hL2
      have L2 := Box.mk hL2
      clear hL2 hkm
      go_wp2_with fail
      all_goals exact bodyPost_ret (v := .tuple #[.pointer (some ⟨w.heap.size, 0, none⟩), u5]) (by simp [results, go_sem]) rfl ⟨w.heap.size, mo, l, u5, R, rfl, hT.out, hR.out, hP.out, hS.out, L2.out, hB.out, Nat.le_refl _, hM.out, hV.out⟩
end Go.Proofs.YtacfdnjdjgdbcaaGreatDoor
namespace Go.Proofs.YtacfdnjdjgdbcaaGreatDoor
set_option maxRecDepth 100000
open Go.RowKit Go.Maps Go.Sort M

end Go.Proofs.YtacfdnjdjgdbcaaGreatDoor
