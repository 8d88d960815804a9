/- FlowReckons: the reference's Reckon, the walk. -/
import Derived.Test.YtccjekgbhablpaaGd
import Derived.Test.YtccjekgbhablpaaWordY
namespace Go.Proofs.Ytccjekgbhablpaa
set_option maxRecDepth 100000
open Go.RowKit M

def dig (op : Int) (x y : Nat) : Nat := if op = 4 then (x + y) % 2 else if op = 5 then (x + y) / 2 else if op = 6 then min (x + y) 1 else x + y
def dgf (op : Int) (a b : Nat) : Nat → Nat := fun i => dig op (a / 2 ^ i % 2) (b / 2 ^ i % 2)
def dgs (op : Int) (a b k : Nat) : List Nat := (List.range k).map (dgf op a b)
theorem dgs_succ (op : Int) (a b k : Nat) : ints (dgs op a b (k + 1)) = ints (dgs op a b k) ++ [.int .i64 ((dgf op a b k : Nat) : Int)] := by
  unfold dgs ints; simp [List.range_succ]
theorem dgf_le {op : Int} (h : op = 4 ∨ op = 5 ∨ op = 6) (a b i : Nat) : dgf op a b i ≤ 1 := by
  unfold dgf dig
  rcases h with rfl | rfl | rfl <;> simp <;> omega
theorem dig_tb (a b i : Nat) (op : Int) (f : Bool → Bool → Bool) (h : (op = 4 ∧ f = fun x y => x ^^ y) ∨ (op = 5 ∧ f = fun x y => x && y) ∨ (op = 6 ∧ f = fun x y => x || y)) : decide (dgf op a b i = 1) = f (a.testBit i) (b.testBit i) := by
  rw [← bit_tb, ← bit_tb]
  have h1 : a / 2 ^ i % 2 = 0 ∨ a / 2 ^ i % 2 = 1 := by omega
  have h2 : b / 2 ^ i % 2 = 0 ∨ b / 2 ^ i % 2 = 1 := by omega
  unfold dgf
  rcases h with ⟨rfl, rfl⟩ | ⟨rfl, rfl⟩ | ⟨rfl, rfl⟩ <;> rcases h1 with h1 | h1 <;> rcases h2 with h2 | h2 <;> rw [h1, h2] <;> rfl
theorem val_xor {a b : Nat} (ha : a < 18446744073709551616) (hb : b < 18446744073709551616) : val (fl (dgf 4 a b)) = a ^^^ b :=
  val_fl (fun i _ => dgf_le (.inl rfl) a b i) (by rw [← p64] at ha hb ⊢; exact Nat.xor_lt_two_pow ha hb) (fun i _ => by rw [Nat.testBit_xor, dig_tb a b i 4 _ (.inl ⟨rfl, rfl⟩)])
theorem val_and {a b : Nat} (ha : a < 18446744073709551616) : val (fl (dgf 5 a b)) = a &&& b :=
  val_fl (fun i _ => dgf_le (.inr (.inl rfl)) a b i) (Nat.lt_of_le_of_lt Nat.and_le_left ha) (fun i _ => by rw [Nat.testBit_and, dig_tb a b i 5 _ (.inr (.inl ⟨rfl, rfl⟩))])
theorem val_or {a b : Nat} (ha : a < 18446744073709551616) (hb : b < 18446744073709551616) : val (fl (dgf 6 a b)) = a ||| b :=
  val_fl (fun i _ => dgf_le (.inr (.inr rfl)) a b i) (or_lt ha hb) (fun i _ => by rw [Nat.testBit_or, dig_tb a b i 6 _ (.inr (.inr ⟨rfl, rfl⟩))])
theorem belN' (w : World) (B k : Nat) : Below B w (w.drewN k) := ⟨rfl, rfl, rfl, Nat.le_refl _, fun _ _ => rfl⟩
theorem rowDrewN {w : World} {B e z : Nat} {v : Value} {n : Nat} {xs : List Value} (h : w.ownsRow B e z v n xs) (k : Nat) : (w.drewN k).ownsRow B e z v n xs := rowKeep h fun _ _ => rfl
set_option maxHeartbeats 12800000 in
theorem refReckon_add (a b : Nat) (ha : a < 18446744073709551616) (hb : b < 18446744073709551616) (w : World) :
    Calls Try.prog 49 #[.int .i64 2, .int .u64 (a : Int), .int .u64 (b : Int)] w fun e w' => e = .returned (.int .u64 ((reckM 2 a b : Nat) : Int)) ∧ Below w.heap.size w w' := by
  obtain ⟨i0, hi, hz0, hz1, hz2⟩ := info_parts info_int
  have CB := Bx.mk (fun v hv W => bits_any v hv W)
  have e2 := Bx.mk (u64add (a := a) (b := b))
  have HAl := Bx.mk ha; have HBl := Bx.mk hb
  clear ha hb
  have CA := Bx.mk (CB.out a HAl.out)
  have CBB := Bx.mk (CB.out b HBl.out)
  clear CB
  go_enter Try.func49, Try.ntmps49
  go_upto_region 2 with (first
    | (go_at_call 50; ((with_reducible refine (CA.out _).mono ?_); rintro e w1 ⟨ga, ca, rfl, hca, hga, howA, hbA⟩; have OA := Bx.mk howA; have BA := Bx.mk hbA; clear howA hbA CA))
    | (go_at_call 50; ((with_reducible refine (CBB.out _).mono ?_); rintro e w2 ⟨gb, cb, rfl, hcb, hgb, howB, hbB⟩; have OB := Bx.mk howB; have BB := Bx.mk hbB; clear howB hbB)))
  have la : ga < w2.heap.size := Nat.lt_of_lt_of_le (OA.out.lt ga rfl).2 BB.out.size
  have lb : gb < w2.heap.size := (OB.out.lt gb rfl).2
  have HA : Bx (∀ j, j < 64 → w2.cell? ⟨ga, j, none⟩ = some (.int .i64 ((a / 2 ^ j % 2 : Nat) : Int))) := ⟨fun j hj => own_at (f := fun i => a / 2 ^ i % 2) (by have := rowBel OA.out BB.out; rwa [fl_bl] at this) j hj⟩
  have HB : Bx (∀ j, j < 64 → w2.cell? ⟨gb, j, none⟩ = some (.int .i64 ((b / 2 ^ j % 2 : Nat) : Int))) := ⟨fun j hj => own_at (f := fun i => b / 2 ^ i % 2) (by have := OB.out; rwa [fl_bl] at this) j hj⟩
  have BW := Bx.mk (bel BA.out BB.out)
  clear OA OB BA BB CBB
  go_wp2_with fail
  go_loopw [9, 19] (fun v i wr => ∃ k : Nat, i = .int .i64 (k : Int) ∧ k ≤ 64 ∧ Bx (wr.ownsRow w2.heap.size 3 1 v k (ints (dgs 2 a b k))) ∧ Bx (Below w2.heap.size w2 wr) ∧ ∃ p q c, v = .slice p q c) (fun _ i _ => 64 - (intOf i).toNat)
  case atStart => exact ⟨0, rfl, by omega, ⟨World.ownsRow_made w2 #[] 0 (Nat.le_refl _) (by simp) rfl⟩, ⟨aset _ _⟩, _, _, _, rfl⟩
  case round =>
    obtain ⟨k, rfl, hk, ROW, hbw, p, q, c, rfl⟩ := hrel
    obtain rfl : q = k := by
      obtain ⟨_, _, hv⟩ := rowSlice ROW.out
      exact (Value.slice.inj hv).2.1
    by_cases hlt : q < 64
    · have ca := (hbw.out.cell la).trans (HA.out q hlt)
      have cb := (hbw.out.cell lb).trans (HB.out q hlt)
      have hqi : (q : Int) < 64 := by omega
      have hq0 : (0 : Int) ≤ (q : Int) := by omega
      obtain ⟨x, hx⟩ : ∃ x, x = a / 2 ^ q % 2 := ⟨_, rfl⟩
      obtain ⟨y, hy⟩ : ∃ y, y = b / 2 ^ q % 2 := ⟨_, rfl⟩
      rw [← hx] at ca
      rw [← hy] at cb
      have hx1 : x = 0 ∨ x = 1 := by omega
      have hy1 : y = 0 ∨ y = 1 := by omega
      have HD : Bx (dgf 2 a b q = dig 2 x y) := ⟨by unfold dgf; rw [← hx, ← hy]⟩
      have hsq := hbw.out.size
      clear hx hy
      rcases hx1 with rfl | rfl <;> rcases hy1 with rfl | rfl
      · go_wp2_with fail
        go_quiet (fail)
        obtain ⟨wd, hwd⟩ : ∃ wd, wd = wr.drewN nq := ⟨_, rfl⟩
        have ROWD : Bx (wd.ownsRow w2.heap.size 3 1 (.slice p q c) q (ints (dgs 2 a b q))) := ⟨by rw [hwd]; exact rowDrewN ROW.out _⟩
        have BD : Bx (Below w2.heap.size w2 wd) := ⟨by rw [hwd]; exact hbw.out.trans (belN' _ _ _)⟩
        have hsd : w2.heap.size ≤ wd.heap.size := BD.out.size
        rw [← hwd]
        clear hwd ca cb
        go_wp2_with (at_builtin; refine wpList_append_lies _ rfl (.tmp 43) (.tmp 45) 64 rfl w2.heap.size 3 i0 _ 1 8 Try.underlying64 hi hz0 hz1 hz2 rfl (by omega) _ q (ints (dgs 2 a b q)) rfl (ROWD.out.alloc _) ⟨wd.heap.size, 0, none⟩ 1 1 [.int .i64 0] rfl rfl (World.news_of_block (cs := #[.int .i64 0]) (t := 3) (fr := (0, 0)) (heap_alloc_new _ _)) (by simp [Value.oneCell']) (by omega) (by unfold maxLen; omega) (by omega) (by first | (simp; done) | (simp; omega)) (wd.heap.size + 1) (by simp) ?_; intro g cap w4 hown3 hgrow hat hlt3; have B4 : Bx (Below w2.heap.size w2 w4) := ⟨(BD.out.alloc BD.out.size _).grown hgrow (by first | (simp; done) | (simp; omega)) (fun k hk => (rowLt ROWD.out k hk).1)⟩; have PU := Bx.mk hown3; clear hown3 hgrow hat hlt3)
        go_roundw
        case rel => exact ⟨q + 1, by go_num, by omega, ⟨by rw [dgs_succ, HD.out]; exact PU.out⟩, B4, _, _, _, rfl⟩
        case measure => simp [intOf] <;> omega
      · go_wp2_with fail
        go_quiet (fail)
        obtain ⟨wd, hwd⟩ : ∃ wd, wd = wr.drewN nq := ⟨_, rfl⟩
        have ROWD : Bx (wd.ownsRow w2.heap.size 3 1 (.slice p q c) q (ints (dgs 2 a b q))) := ⟨by rw [hwd]; exact rowDrewN ROW.out _⟩
        have BD : Bx (Below w2.heap.size w2 wd) := ⟨by rw [hwd]; exact hbw.out.trans (belN' _ _ _)⟩
        have hsd : w2.heap.size ≤ wd.heap.size := BD.out.size
        rw [← hwd]
        clear hwd ca cb
        go_wp2_with (at_builtin; refine wpList_append_lies _ rfl (.tmp 43) (.tmp 45) 64 rfl w2.heap.size 3 i0 _ 1 8 Try.underlying64 hi hz0 hz1 hz2 rfl (by omega) _ q (ints (dgs 2 a b q)) rfl (ROWD.out.alloc _) ⟨wd.heap.size, 0, none⟩ 1 1 [.int .i64 1] rfl rfl (World.news_of_block (cs := #[.int .i64 1]) (t := 3) (fr := (0, 0)) (heap_alloc_new _ _)) (by simp [Value.oneCell']) (by omega) (by unfold maxLen; omega) (by omega) (by first | (simp; done) | (simp; omega)) (wd.heap.size + 1) (by simp) ?_; intro g cap w4 hown3 hgrow hat hlt3; have B4 : Bx (Below w2.heap.size w2 w4) := ⟨(BD.out.alloc BD.out.size _).grown hgrow (by first | (simp; done) | (simp; omega)) (fun k hk => (rowLt ROWD.out k hk).1)⟩; have PU := Bx.mk hown3; clear hown3 hgrow hat hlt3)
        go_roundw
        case rel => exact ⟨q + 1, by go_num, by omega, ⟨by rw [dgs_succ, HD.out]; exact PU.out⟩, B4, _, _, _, rfl⟩
        case measure => simp [intOf] <;> omega
      · go_wp2_with fail
        go_quiet (fail)
        obtain ⟨wd, hwd⟩ : ∃ wd, wd = wr.drewN nq := ⟨_, rfl⟩
        have ROWD : Bx (wd.ownsRow w2.heap.size 3 1 (.slice p q c) q (ints (dgs 2 a b q))) := ⟨by rw [hwd]; exact rowDrewN ROW.out _⟩
        have BD : Bx (Below w2.heap.size w2 wd) := ⟨by rw [hwd]; exact hbw.out.trans (belN' _ _ _)⟩
        have hsd : w2.heap.size ≤ wd.heap.size := BD.out.size
        rw [← hwd]
        clear hwd ca cb
        go_wp2_with (at_builtin; refine wpList_append_lies _ rfl (.tmp 43) (.tmp 45) 64 rfl w2.heap.size 3 i0 _ 1 8 Try.underlying64 hi hz0 hz1 hz2 rfl (by omega) _ q (ints (dgs 2 a b q)) rfl (ROWD.out.alloc _) ⟨wd.heap.size, 0, none⟩ 1 1 [.int .i64 1] rfl rfl (World.news_of_block (cs := #[.int .i64 1]) (t := 3) (fr := (0, 0)) (heap_alloc_new _ _)) (by simp [Value.oneCell']) (by omega) (by unfold maxLen; omega) (by omega) (by first | (simp; done) | (simp; omega)) (wd.heap.size + 1) (by simp) ?_; intro g cap w4 hown3 hgrow hat hlt3; have B4 : Bx (Below w2.heap.size w2 w4) := ⟨(BD.out.alloc BD.out.size _).grown hgrow (by first | (simp; done) | (simp; omega)) (fun k hk => (rowLt ROWD.out k hk).1)⟩; have PU := Bx.mk hown3; clear hown3 hgrow hat hlt3)
        go_roundw
        case rel => exact ⟨q + 1, by go_num, by omega, ⟨by rw [dgs_succ, HD.out]; exact PU.out⟩, B4, _, _, _, rfl⟩
        case measure => simp [intOf] <;> omega
      · go_wp2_with fail
        go_quiet (fail)
        obtain ⟨wd, hwd⟩ : ∃ wd, wd = wr.drewN nq := ⟨_, rfl⟩
        have ROWD : Bx (wd.ownsRow w2.heap.size 3 1 (.slice p q c) q (ints (dgs 2 a b q))) := ⟨by rw [hwd]; exact rowDrewN ROW.out _⟩
        have BD : Bx (Below w2.heap.size w2 wd) := ⟨by rw [hwd]; exact hbw.out.trans (belN' _ _ _)⟩
        have hsd : w2.heap.size ≤ wd.heap.size := BD.out.size
        rw [← hwd]
        clear hwd ca cb
        go_wp2_with (at_builtin; refine wpList_append_lies _ rfl (.tmp 43) (.tmp 45) 64 rfl w2.heap.size 3 i0 _ 1 8 Try.underlying64 hi hz0 hz1 hz2 rfl (by omega) _ q (ints (dgs 2 a b q)) rfl (ROWD.out.alloc _) ⟨wd.heap.size, 0, none⟩ 1 1 [.int .i64 2] rfl rfl (World.news_of_block (cs := #[.int .i64 2]) (t := 3) (fr := (0, 0)) (heap_alloc_new _ _)) (by simp [Value.oneCell']) (by omega) (by unfold maxLen; omega) (by omega) (by first | (simp; done) | (simp; omega)) (wd.heap.size + 1) (by simp) ?_; intro g cap w4 hown3 hgrow hat hlt3; have B4 : Bx (Below w2.heap.size w2 w4) := ⟨(BD.out.alloc BD.out.size _).grown hgrow (by first | (simp; done) | (simp; omega)) (fun k hk => (rowLt ROWD.out k hk).1)⟩; have PU := Bx.mk hown3; clear hown3 hgrow hat hlt3)
        go_roundw
        case rel => exact ⟨q + 1, by go_num, by omega, ⟨by rw [dgs_succ, HD.out]; exact PU.out⟩, B4, _, _, _, rfl⟩
        case measure => simp [intOf] <;> omega
    · obtain rfl : q = 64 := by omega
      go_wp2_with fail
      go_ret
      exact ⟨by rw [e2.out]; rfl, bel' BW.out BW.out.size hbw.out⟩
set_option maxHeartbeats 12800000 in
theorem refReckon_sub (a b : Nat) (ha : a < 18446744073709551616) (hb : b < 18446744073709551616) (w : World) :
    Calls Try.prog 49 #[.int .i64 3, .int .u64 (a : Int), .int .u64 (b : Int)] w fun e w' => e = .returned (.int .u64 ((reckM 3 a b : Nat) : Int)) ∧ Below w.heap.size w w' := by
  obtain ⟨i0, hi, hz0, hz1, hz2⟩ := info_parts info_int
  have CB := Bx.mk (fun v hv W => bits_any v hv W)
  have e2 := Bx.mk (u64sub (a := a) hb)
  have HAl := Bx.mk ha; have HBl := Bx.mk hb
  clear ha hb
  have CA := Bx.mk (CB.out a HAl.out)
  have CBB := Bx.mk (CB.out b HBl.out)
  clear CB
  go_enter Try.func49, Try.ntmps49
  go_upto_region 2 with (first
    | (go_at_call 50; ((with_reducible refine (CA.out _).mono ?_); rintro e w1 ⟨ga, ca, rfl, hca, hga, howA, hbA⟩; have OA := Bx.mk howA; have BA := Bx.mk hbA; clear howA hbA CA))
    | (go_at_call 50; ((with_reducible refine (CBB.out _).mono ?_); rintro e w2 ⟨gb, cb, rfl, hcb, hgb, howB, hbB⟩; have OB := Bx.mk howB; have BB := Bx.mk hbB; clear howB hbB)))
  have la : ga < w2.heap.size := Nat.lt_of_lt_of_le (OA.out.lt ga rfl).2 BB.out.size
  have lb : gb < w2.heap.size := (OB.out.lt gb rfl).2
  have HA : Bx (∀ j, j < 64 → w2.cell? ⟨ga, j, none⟩ = some (.int .i64 ((a / 2 ^ j % 2 : Nat) : Int))) := ⟨fun j hj => own_at (f := fun i => a / 2 ^ i % 2) (by have := rowBel OA.out BB.out; rwa [fl_bl] at this) j hj⟩
  have HB : Bx (∀ j, j < 64 → w2.cell? ⟨gb, j, none⟩ = some (.int .i64 ((b / 2 ^ j % 2 : Nat) : Int))) := ⟨fun j hj => own_at (f := fun i => b / 2 ^ i % 2) (by have := OB.out; rwa [fl_bl] at this) j hj⟩
  have BW := Bx.mk (bel BA.out BB.out)
  clear OA OB BA BB CBB
  go_wp2_with fail
  go_loopw [9, 19] (fun v i wr => ∃ k : Nat, i = .int .i64 (k : Int) ∧ k ≤ 64 ∧ Bx (wr.ownsRow w2.heap.size 3 1 v k (ints (dgs 3 a b k))) ∧ Bx (Below w2.heap.size w2 wr) ∧ ∃ p q c, v = .slice p q c) (fun _ i _ => 64 - (intOf i).toNat)
  case atStart => exact ⟨0, rfl, by omega, ⟨World.ownsRow_made w2 #[] 0 (Nat.le_refl _) (by simp) rfl⟩, ⟨aset _ _⟩, _, _, _, rfl⟩
  case round =>
    obtain ⟨k, rfl, hk, ROW, hbw, p, q, c, rfl⟩ := hrel
    obtain rfl : q = k := by
      obtain ⟨_, _, hv⟩ := rowSlice ROW.out
      exact (Value.slice.inj hv).2.1
    by_cases hlt : q < 64
    · have ca := (hbw.out.cell la).trans (HA.out q hlt)
      have cb := (hbw.out.cell lb).trans (HB.out q hlt)
      have hqi : (q : Int) < 64 := by omega
      have hq0 : (0 : Int) ≤ (q : Int) := by omega
      obtain ⟨x, hx⟩ : ∃ x, x = a / 2 ^ q % 2 := ⟨_, rfl⟩
      obtain ⟨y, hy⟩ : ∃ y, y = b / 2 ^ q % 2 := ⟨_, rfl⟩
      rw [← hx] at ca
      rw [← hy] at cb
      have hx1 : x = 0 ∨ x = 1 := by omega
      have hy1 : y = 0 ∨ y = 1 := by omega
      have HD : Bx (dgf 3 a b q = dig 3 x y) := ⟨by unfold dgf; rw [← hx, ← hy]⟩
      have hsq := hbw.out.size
      clear hx hy
      rcases hx1 with rfl | rfl <;> rcases hy1 with rfl | rfl
      · go_wp2_with fail
        go_quiet (fail)
        obtain ⟨wd, hwd⟩ : ∃ wd, wd = wr.drewN nq := ⟨_, rfl⟩
        have ROWD : Bx (wd.ownsRow w2.heap.size 3 1 (.slice p q c) q (ints (dgs 3 a b q))) := ⟨by rw [hwd]; exact rowDrewN ROW.out _⟩
        have BD : Bx (Below w2.heap.size w2 wd) := ⟨by rw [hwd]; exact hbw.out.trans (belN' _ _ _)⟩
        have hsd : w2.heap.size ≤ wd.heap.size := BD.out.size
        rw [← hwd]
        clear hwd ca cb
        go_wp2_with (at_builtin; refine wpList_append_lies _ rfl (.tmp 43) (.tmp 45) 64 rfl w2.heap.size 3 i0 _ 1 8 Try.underlying64 hi hz0 hz1 hz2 rfl (by omega) _ q (ints (dgs 3 a b q)) rfl (ROWD.out.alloc _) ⟨wd.heap.size, 0, none⟩ 1 1 [.int .i64 0] rfl rfl (World.news_of_block (cs := #[.int .i64 0]) (t := 3) (fr := (0, 0)) (heap_alloc_new _ _)) (by simp [Value.oneCell']) (by omega) (by unfold maxLen; omega) (by omega) (by first | (simp; done) | (simp; omega)) (wd.heap.size + 1) (by simp) ?_; intro g cap w4 hown3 hgrow hat hlt3; have B4 : Bx (Below w2.heap.size w2 w4) := ⟨(BD.out.alloc BD.out.size _).grown hgrow (by first | (simp; done) | (simp; omega)) (fun k hk => (rowLt ROWD.out k hk).1)⟩; have PU := Bx.mk hown3; clear hown3 hgrow hat hlt3)
        go_roundw
        case rel => exact ⟨q + 1, by go_num, by omega, ⟨by rw [dgs_succ, HD.out]; exact PU.out⟩, B4, _, _, _, rfl⟩
        case measure => simp [intOf] <;> omega
      · go_wp2_with fail
        go_quiet (fail)
        obtain ⟨wd, hwd⟩ : ∃ wd, wd = wr.drewN nq := ⟨_, rfl⟩
        have ROWD : Bx (wd.ownsRow w2.heap.size 3 1 (.slice p q c) q (ints (dgs 3 a b q))) := ⟨by rw [hwd]; exact rowDrewN ROW.out _⟩
        have BD : Bx (Below w2.heap.size w2 wd) := ⟨by rw [hwd]; exact hbw.out.trans (belN' _ _ _)⟩
        have hsd : w2.heap.size ≤ wd.heap.size := BD.out.size
        rw [← hwd]
        clear hwd ca cb
        go_wp2_with (at_builtin; refine wpList_append_lies _ rfl (.tmp 43) (.tmp 45) 64 rfl w2.heap.size 3 i0 _ 1 8 Try.underlying64 hi hz0 hz1 hz2 rfl (by omega) _ q (ints (dgs 3 a b q)) rfl (ROWD.out.alloc _) ⟨wd.heap.size, 0, none⟩ 1 1 [.int .i64 1] rfl rfl (World.news_of_block (cs := #[.int .i64 1]) (t := 3) (fr := (0, 0)) (heap_alloc_new _ _)) (by simp [Value.oneCell']) (by omega) (by unfold maxLen; omega) (by omega) (by first | (simp; done) | (simp; omega)) (wd.heap.size + 1) (by simp) ?_; intro g cap w4 hown3 hgrow hat hlt3; have B4 : Bx (Below w2.heap.size w2 w4) := ⟨(BD.out.alloc BD.out.size _).grown hgrow (by first | (simp; done) | (simp; omega)) (fun k hk => (rowLt ROWD.out k hk).1)⟩; have PU := Bx.mk hown3; clear hown3 hgrow hat hlt3)
        go_roundw
        case rel => exact ⟨q + 1, by go_num, by omega, ⟨by rw [dgs_succ, HD.out]; exact PU.out⟩, B4, _, _, _, rfl⟩
        case measure => simp [intOf] <;> omega
      · go_wp2_with fail
        go_quiet (fail)
        obtain ⟨wd, hwd⟩ : ∃ wd, wd = wr.drewN nq := ⟨_, rfl⟩
        have ROWD : Bx (wd.ownsRow w2.heap.size 3 1 (.slice p q c) q (ints (dgs 3 a b q))) := ⟨by rw [hwd]; exact rowDrewN ROW.out _⟩
        have BD : Bx (Below w2.heap.size w2 wd) := ⟨by rw [hwd]; exact hbw.out.trans (belN' _ _ _)⟩
        have hsd : w2.heap.size ≤ wd.heap.size := BD.out.size
        rw [← hwd]
        clear hwd ca cb
        go_wp2_with (at_builtin; refine wpList_append_lies _ rfl (.tmp 43) (.tmp 45) 64 rfl w2.heap.size 3 i0 _ 1 8 Try.underlying64 hi hz0 hz1 hz2 rfl (by omega) _ q (ints (dgs 3 a b q)) rfl (ROWD.out.alloc _) ⟨wd.heap.size, 0, none⟩ 1 1 [.int .i64 1] rfl rfl (World.news_of_block (cs := #[.int .i64 1]) (t := 3) (fr := (0, 0)) (heap_alloc_new _ _)) (by simp [Value.oneCell']) (by omega) (by unfold maxLen; omega) (by omega) (by first | (simp; done) | (simp; omega)) (wd.heap.size + 1) (by simp) ?_; intro g cap w4 hown3 hgrow hat hlt3; have B4 : Bx (Below w2.heap.size w2 w4) := ⟨(BD.out.alloc BD.out.size _).grown hgrow (by first | (simp; done) | (simp; omega)) (fun k hk => (rowLt ROWD.out k hk).1)⟩; have PU := Bx.mk hown3; clear hown3 hgrow hat hlt3)
        go_roundw
        case rel => exact ⟨q + 1, by go_num, by omega, ⟨by rw [dgs_succ, HD.out]; exact PU.out⟩, B4, _, _, _, rfl⟩
        case measure => simp [intOf] <;> omega
      · go_wp2_with fail
        go_quiet (fail)
        obtain ⟨wd, hwd⟩ : ∃ wd, wd = wr.drewN nq := ⟨_, rfl⟩
        have ROWD : Bx (wd.ownsRow w2.heap.size 3 1 (.slice p q c) q (ints (dgs 3 a b q))) := ⟨by rw [hwd]; exact rowDrewN ROW.out _⟩
        have BD : Bx (Below w2.heap.size w2 wd) := ⟨by rw [hwd]; exact hbw.out.trans (belN' _ _ _)⟩
        have hsd : w2.heap.size ≤ wd.heap.size := BD.out.size
        rw [← hwd]
        clear hwd ca cb
        go_wp2_with (at_builtin; refine wpList_append_lies _ rfl (.tmp 43) (.tmp 45) 64 rfl w2.heap.size 3 i0 _ 1 8 Try.underlying64 hi hz0 hz1 hz2 rfl (by omega) _ q (ints (dgs 3 a b q)) rfl (ROWD.out.alloc _) ⟨wd.heap.size, 0, none⟩ 1 1 [.int .i64 2] rfl rfl (World.news_of_block (cs := #[.int .i64 2]) (t := 3) (fr := (0, 0)) (heap_alloc_new _ _)) (by simp [Value.oneCell']) (by omega) (by unfold maxLen; omega) (by omega) (by first | (simp; done) | (simp; omega)) (wd.heap.size + 1) (by simp) ?_; intro g cap w4 hown3 hgrow hat hlt3; have B4 : Bx (Below w2.heap.size w2 w4) := ⟨(BD.out.alloc BD.out.size _).grown hgrow (by first | (simp; done) | (simp; omega)) (fun k hk => (rowLt ROWD.out k hk).1)⟩; have PU := Bx.mk hown3; clear hown3 hgrow hat hlt3)
        go_roundw
        case rel => exact ⟨q + 1, by go_num, by omega, ⟨by rw [dgs_succ, HD.out]; exact PU.out⟩, B4, _, _, _, rfl⟩
        case measure => simp [intOf] <;> omega
    · obtain rfl : q = 64 := by omega
      go_wp2_with fail
      go_ret
      exact ⟨by rw [e2.out]; rfl, bel' BW.out BW.out.size hbw.out⟩
set_option maxHeartbeats 12800000 in
theorem refReckon_xor (a b : Nat) (ha : a < 18446744073709551616) (hb : b < 18446744073709551616) (w : World) :
    Calls Try.prog 49 #[.int .i64 4, .int .u64 (a : Int), .int .u64 (b : Int)] w fun e w' => e = .returned (.int .u64 ((reckM 4 a b : Nat) : Int)) ∧ Below w.heap.size w w' := by
  obtain ⟨i0, hi, hz0, hz1, hz2⟩ := info_parts info_int
  have CB := Bx.mk (fun v hv W => bits_any v hv W)
  have VV : Bx (val (fl (dgf 4 a b)) = reckM 4 a b) := ⟨val_xor ha hb⟩
  have HAl := Bx.mk ha; have HBl := Bx.mk hb
  clear ha hb
  have CA := Bx.mk (CB.out a HAl.out)
  have CBB := Bx.mk (CB.out b HBl.out)
  clear CB
  go_enter Try.func49, Try.ntmps49
  go_upto_region 2 with (first
    | (go_at_call 50; ((with_reducible refine (CA.out _).mono ?_); rintro e w1 ⟨ga, ca, rfl, hca, hga, howA, hbA⟩; have OA := Bx.mk howA; have BA := Bx.mk hbA; clear howA hbA CA))
    | (go_at_call 50; ((with_reducible refine (CBB.out _).mono ?_); rintro e w2 ⟨gb, cb, rfl, hcb, hgb, howB, hbB⟩; have OB := Bx.mk howB; have BB := Bx.mk hbB; clear howB hbB)))
  have la : ga < w2.heap.size := Nat.lt_of_lt_of_le (OA.out.lt ga rfl).2 BB.out.size
  have lb : gb < w2.heap.size := (OB.out.lt gb rfl).2
  have HA : Bx (∀ j, j < 64 → w2.cell? ⟨ga, j, none⟩ = some (.int .i64 ((a / 2 ^ j % 2 : Nat) : Int))) := ⟨fun j hj => own_at (f := fun i => a / 2 ^ i % 2) (by have := rowBel OA.out BB.out; rwa [fl_bl] at this) j hj⟩
  have HB : Bx (∀ j, j < 64 → w2.cell? ⟨gb, j, none⟩ = some (.int .i64 ((b / 2 ^ j % 2 : Nat) : Int))) := ⟨fun j hj => own_at (f := fun i => b / 2 ^ i % 2) (by have := OB.out; rwa [fl_bl] at this) j hj⟩
  have BW := Bx.mk (bel BA.out BB.out)
  clear OA OB BA BB CBB
  go_wp2_with fail
  go_loopw [9, 19] (fun v i wr => ∃ k : Nat, i = .int .i64 (k : Int) ∧ k ≤ 64 ∧ Bx (wr.ownsRow w2.heap.size 3 1 v k (ints (dgs 4 a b k))) ∧ Bx (Below w2.heap.size w2 wr) ∧ ∃ p q c, v = .slice p q c) (fun _ i _ => 64 - (intOf i).toNat)
  case atStart => exact ⟨0, rfl, by omega, ⟨World.ownsRow_made w2 #[] 0 (Nat.le_refl _) (by simp) rfl⟩, ⟨aset _ _⟩, _, _, _, rfl⟩
  case round =>
    obtain ⟨k, rfl, hk, ROW, hbw, p, q, c, rfl⟩ := hrel
    obtain rfl : q = k := by
      obtain ⟨_, _, hv⟩ := rowSlice ROW.out
      exact (Value.slice.inj hv).2.1
    by_cases hlt : q < 64
    · have ca := (hbw.out.cell la).trans (HA.out q hlt)
      have cb := (hbw.out.cell lb).trans (HB.out q hlt)
      have hqi : (q : Int) < 64 := by omega
      have hq0 : (0 : Int) ≤ (q : Int) := by omega
      obtain ⟨x, hx⟩ : ∃ x, x = a / 2 ^ q % 2 := ⟨_, rfl⟩
      obtain ⟨y, hy⟩ : ∃ y, y = b / 2 ^ q % 2 := ⟨_, rfl⟩
      rw [← hx] at ca
      rw [← hy] at cb
      have hx1 : x = 0 ∨ x = 1 := by omega
      have hy1 : y = 0 ∨ y = 1 := by omega
      have HD : Bx (dgf 4 a b q = dig 4 x y) := ⟨by unfold dgf; rw [← hx, ← hy]⟩
      have hsq := hbw.out.size
      clear hx hy
      rcases hx1 with rfl | rfl <;> rcases hy1 with rfl | rfl
      · go_wp2_with fail
        go_quiet (fail)
        obtain ⟨wd, hwd⟩ : ∃ wd, wd = wr.drewN nq := ⟨_, rfl⟩
        have ROWD : Bx (wd.ownsRow w2.heap.size 3 1 (.slice p q c) q (ints (dgs 4 a b q))) := ⟨by rw [hwd]; exact rowDrewN ROW.out _⟩
        have BD : Bx (Below w2.heap.size w2 wd) := ⟨by rw [hwd]; exact hbw.out.trans (belN' _ _ _)⟩
        have hsd : w2.heap.size ≤ wd.heap.size := BD.out.size
        rw [← hwd]
        clear hwd ca cb
        go_wp2_with (at_builtin; refine wpList_append_lies _ rfl (.tmp 43) (.tmp 45) 64 rfl w2.heap.size 3 i0 _ 1 8 Try.underlying64 hi hz0 hz1 hz2 rfl (by omega) _ q (ints (dgs 4 a b q)) rfl (ROWD.out.alloc _) ⟨wd.heap.size, 0, none⟩ 1 1 [.int .i64 0] rfl rfl (World.news_of_block (cs := #[.int .i64 0]) (t := 3) (fr := (0, 0)) (heap_alloc_new _ _)) (by simp [Value.oneCell']) (by omega) (by unfold maxLen; omega) (by omega) (by first | (simp; done) | (simp; omega)) (wd.heap.size + 1) (by simp) ?_; intro g cap w4 hown3 hgrow hat hlt3; have B4 : Bx (Below w2.heap.size w2 w4) := ⟨(BD.out.alloc BD.out.size _).grown hgrow (by first | (simp; done) | (simp; omega)) (fun k hk => (rowLt ROWD.out k hk).1)⟩; have PU := Bx.mk hown3; clear hown3 hgrow hat hlt3)
        go_roundw
        case rel => exact ⟨q + 1, by go_num, by omega, ⟨by rw [dgs_succ, HD.out]; exact PU.out⟩, B4, _, _, _, rfl⟩
        case measure => simp [intOf] <;> omega
      · go_wp2_with fail
        go_quiet (fail)
        obtain ⟨wd, hwd⟩ : ∃ wd, wd = wr.drewN nq := ⟨_, rfl⟩
        have ROWD : Bx (wd.ownsRow w2.heap.size 3 1 (.slice p q c) q (ints (dgs 4 a b q))) := ⟨by rw [hwd]; exact rowDrewN ROW.out _⟩
        have BD : Bx (Below w2.heap.size w2 wd) := ⟨by rw [hwd]; exact hbw.out.trans (belN' _ _ _)⟩
        have hsd : w2.heap.size ≤ wd.heap.size := BD.out.size
        rw [← hwd]
        clear hwd ca cb
        go_wp2_with (at_builtin; refine wpList_append_lies _ rfl (.tmp 43) (.tmp 45) 64 rfl w2.heap.size 3 i0 _ 1 8 Try.underlying64 hi hz0 hz1 hz2 rfl (by omega) _ q (ints (dgs 4 a b q)) rfl (ROWD.out.alloc _) ⟨wd.heap.size, 0, none⟩ 1 1 [.int .i64 1] rfl rfl (World.news_of_block (cs := #[.int .i64 1]) (t := 3) (fr := (0, 0)) (heap_alloc_new _ _)) (by simp [Value.oneCell']) (by omega) (by unfold maxLen; omega) (by omega) (by first | (simp; done) | (simp; omega)) (wd.heap.size + 1) (by simp) ?_; intro g cap w4 hown3 hgrow hat hlt3; have B4 : Bx (Below w2.heap.size w2 w4) := ⟨(BD.out.alloc BD.out.size _).grown hgrow (by first | (simp; done) | (simp; omega)) (fun k hk => (rowLt ROWD.out k hk).1)⟩; have PU := Bx.mk hown3; clear hown3 hgrow hat hlt3)
        go_roundw
        case rel => exact ⟨q + 1, by go_num, by omega, ⟨by rw [dgs_succ, HD.out]; exact PU.out⟩, B4, _, _, _, rfl⟩
        case measure => simp [intOf] <;> omega
      · go_wp2_with fail
        go_quiet (fail)
        obtain ⟨wd, hwd⟩ : ∃ wd, wd = wr.drewN nq := ⟨_, rfl⟩
        have ROWD : Bx (wd.ownsRow w2.heap.size 3 1 (.slice p q c) q (ints (dgs 4 a b q))) := ⟨by rw [hwd]; exact rowDrewN ROW.out _⟩
        have BD : Bx (Below w2.heap.size w2 wd) := ⟨by rw [hwd]; exact hbw.out.trans (belN' _ _ _)⟩
        have hsd : w2.heap.size ≤ wd.heap.size := BD.out.size
        rw [← hwd]
        clear hwd ca cb
        go_wp2_with (at_builtin; refine wpList_append_lies _ rfl (.tmp 43) (.tmp 45) 64 rfl w2.heap.size 3 i0 _ 1 8 Try.underlying64 hi hz0 hz1 hz2 rfl (by omega) _ q (ints (dgs 4 a b q)) rfl (ROWD.out.alloc _) ⟨wd.heap.size, 0, none⟩ 1 1 [.int .i64 1] rfl rfl (World.news_of_block (cs := #[.int .i64 1]) (t := 3) (fr := (0, 0)) (heap_alloc_new _ _)) (by simp [Value.oneCell']) (by omega) (by unfold maxLen; omega) (by omega) (by first | (simp; done) | (simp; omega)) (wd.heap.size + 1) (by simp) ?_; intro g cap w4 hown3 hgrow hat hlt3; have B4 : Bx (Below w2.heap.size w2 w4) := ⟨(BD.out.alloc BD.out.size _).grown hgrow (by first | (simp; done) | (simp; omega)) (fun k hk => (rowLt ROWD.out k hk).1)⟩; have PU := Bx.mk hown3; clear hown3 hgrow hat hlt3)
        go_roundw
        case rel => exact ⟨q + 1, by go_num, by omega, ⟨by rw [dgs_succ, HD.out]; exact PU.out⟩, B4, _, _, _, rfl⟩
        case measure => simp [intOf] <;> omega
      · go_wp2_with fail
        go_quiet (fail)
        obtain ⟨wd, hwd⟩ : ∃ wd, wd = wr.drewN nq := ⟨_, rfl⟩
        have ROWD : Bx (wd.ownsRow w2.heap.size 3 1 (.slice p q c) q (ints (dgs 4 a b q))) := ⟨by rw [hwd]; exact rowDrewN ROW.out _⟩
        have BD : Bx (Below w2.heap.size w2 wd) := ⟨by rw [hwd]; exact hbw.out.trans (belN' _ _ _)⟩
        have hsd : w2.heap.size ≤ wd.heap.size := BD.out.size
        rw [← hwd]
        clear hwd ca cb
        go_wp2_with (at_builtin; refine wpList_append_lies _ rfl (.tmp 43) (.tmp 45) 64 rfl w2.heap.size 3 i0 _ 1 8 Try.underlying64 hi hz0 hz1 hz2 rfl (by omega) _ q (ints (dgs 4 a b q)) rfl (ROWD.out.alloc _) ⟨wd.heap.size, 0, none⟩ 1 1 [.int .i64 0] rfl rfl (World.news_of_block (cs := #[.int .i64 0]) (t := 3) (fr := (0, 0)) (heap_alloc_new _ _)) (by simp [Value.oneCell']) (by omega) (by unfold maxLen; omega) (by omega) (by first | (simp; done) | (simp; omega)) (wd.heap.size + 1) (by simp) ?_; intro g cap w4 hown3 hgrow hat hlt3; have B4 : Bx (Below w2.heap.size w2 w4) := ⟨(BD.out.alloc BD.out.size _).grown hgrow (by first | (simp; done) | (simp; omega)) (fun k hk => (rowLt ROWD.out k hk).1)⟩; have PU := Bx.mk hown3; clear hown3 hgrow hat hlt3)
        go_roundw
        case rel => exact ⟨q + 1, by go_num, by omega, ⟨by rw [dgs_succ, HD.out]; exact PU.out⟩, B4, _, _, _, rfl⟩
        case measure => simp [intOf] <;> omega
    · obtain rfl : q = 64 := by omega
      have CV := Bx.mk (value_own (dgf 4 a b) (fun i _ => dgf_le (by decide) a b i) (B := w2.heap.size) (g := 0) (cap := 0) (w := wr))
      clear CV
      have hp : ∃ g, p = some ⟨g, 0, none⟩ := by
        rcases ROW.out.2 with ⟨hh, h0⟩ | ⟨g, cap, cur, hh, _⟩
        · obtain ⟨_, h3, _⟩ := Value.slice.inj hh; omega
        · exact ⟨g, (Value.slice.inj hh).1⟩
      obtain ⟨g, rfl⟩ := hp
      have cv := value_own (dgf 4 a b) (fun i _ => dgf_le (by decide) a b i) ROW.out
      rw [VV.out] at cv
      have CV := Bx.mk cv
      clear cv
      go_wp2_with (go_at_call 51; ((with_reducible refine (CV.out).mono ?_); rintro e w5 ⟨rfl, rfl⟩))
      go_ret
      exact ⟨rfl, bel' BW.out BW.out.size hbw.out⟩
set_option maxHeartbeats 12800000 in
theorem refReckon_and (a b : Nat) (ha : a < 18446744073709551616) (hb : b < 18446744073709551616) (w : World) :
    Calls Try.prog 49 #[.int .i64 5, .int .u64 (a : Int), .int .u64 (b : Int)] w fun e w' => e = .returned (.int .u64 ((reckM 5 a b : Nat) : Int)) ∧ Below w.heap.size w w' := by
  obtain ⟨i0, hi, hz0, hz1, hz2⟩ := info_parts info_int
  have CB := Bx.mk (fun v hv W => bits_any v hv W)
  have VV : Bx (val (fl (dgf 5 a b)) = reckM 5 a b) := ⟨val_and ha⟩
  have HAl := Bx.mk ha; have HBl := Bx.mk hb
  clear ha hb
  have CA := Bx.mk (CB.out a HAl.out)
  have CBB := Bx.mk (CB.out b HBl.out)
  clear CB
  go_enter Try.func49, Try.ntmps49
  go_upto_region 2 with (first
    | (go_at_call 50; ((with_reducible refine (CA.out _).mono ?_); rintro e w1 ⟨ga, ca, rfl, hca, hga, howA, hbA⟩; have OA := Bx.mk howA; have BA := Bx.mk hbA; clear howA hbA CA))
    | (go_at_call 50; ((with_reducible refine (CBB.out _).mono ?_); rintro e w2 ⟨gb, cb, rfl, hcb, hgb, howB, hbB⟩; have OB := Bx.mk howB; have BB := Bx.mk hbB; clear howB hbB)))
  have la : ga < w2.heap.size := Nat.lt_of_lt_of_le (OA.out.lt ga rfl).2 BB.out.size
  have lb : gb < w2.heap.size := (OB.out.lt gb rfl).2
  have HA : Bx (∀ j, j < 64 → w2.cell? ⟨ga, j, none⟩ = some (.int .i64 ((a / 2 ^ j % 2 : Nat) : Int))) := ⟨fun j hj => own_at (f := fun i => a / 2 ^ i % 2) (by have := rowBel OA.out BB.out; rwa [fl_bl] at this) j hj⟩
  have HB : Bx (∀ j, j < 64 → w2.cell? ⟨gb, j, none⟩ = some (.int .i64 ((b / 2 ^ j % 2 : Nat) : Int))) := ⟨fun j hj => own_at (f := fun i => b / 2 ^ i % 2) (by have := OB.out; rwa [fl_bl] at this) j hj⟩
  have BW := Bx.mk (bel BA.out BB.out)
  clear OA OB BA BB CBB
  go_wp2_with fail
  go_loopw [9, 19] (fun v i wr => ∃ k : Nat, i = .int .i64 (k : Int) ∧ k ≤ 64 ∧ Bx (wr.ownsRow w2.heap.size 3 1 v k (ints (dgs 5 a b k))) ∧ Bx (Below w2.heap.size w2 wr) ∧ ∃ p q c, v = .slice p q c) (fun _ i _ => 64 - (intOf i).toNat)
  case atStart => exact ⟨0, rfl, by omega, ⟨World.ownsRow_made w2 #[] 0 (Nat.le_refl _) (by simp) rfl⟩, ⟨aset _ _⟩, _, _, _, rfl⟩
  case round =>
    obtain ⟨k, rfl, hk, ROW, hbw, p, q, c, rfl⟩ := hrel
    obtain rfl : q = k := by
      obtain ⟨_, _, hv⟩ := rowSlice ROW.out
      exact (Value.slice.inj hv).2.1
    by_cases hlt : q < 64
    · have ca := (hbw.out.cell la).trans (HA.out q hlt)
      have cb := (hbw.out.cell lb).trans (HB.out q hlt)
      have hqi : (q : Int) < 64 := by omega
      have hq0 : (0 : Int) ≤ (q : Int) := by omega
      obtain ⟨x, hx⟩ : ∃ x, x = a / 2 ^ q % 2 := ⟨_, rfl⟩
      obtain ⟨y, hy⟩ : ∃ y, y = b / 2 ^ q % 2 := ⟨_, rfl⟩
      rw [← hx] at ca
      rw [← hy] at cb
      have hx1 : x = 0 ∨ x = 1 := by omega
      have hy1 : y = 0 ∨ y = 1 := by omega
      have HD : Bx (dgf 5 a b q = dig 5 x y) := ⟨by unfold dgf; rw [← hx, ← hy]⟩
      have hsq := hbw.out.size
      clear hx hy
      rcases hx1 with rfl | rfl <;> rcases hy1 with rfl | rfl
      · go_wp2_with fail
        go_quiet (fail)
        obtain ⟨wd, hwd⟩ : ∃ wd, wd = wr.drewN nq := ⟨_, rfl⟩
        have ROWD : Bx (wd.ownsRow w2.heap.size 3 1 (.slice p q c) q (ints (dgs 5 a b q))) := ⟨by rw [hwd]; exact rowDrewN ROW.out _⟩
        have BD : Bx (Below w2.heap.size w2 wd) := ⟨by rw [hwd]; exact hbw.out.trans (belN' _ _ _)⟩
        have hsd : w2.heap.size ≤ wd.heap.size := BD.out.size
        rw [← hwd]
        clear hwd ca cb
        go_wp2_with (at_builtin; refine wpList_append_lies _ rfl (.tmp 43) (.tmp 45) 64 rfl w2.heap.size 3 i0 _ 1 8 Try.underlying64 hi hz0 hz1 hz2 rfl (by omega) _ q (ints (dgs 5 a b q)) rfl (ROWD.out.alloc _) ⟨wd.heap.size, 0, none⟩ 1 1 [.int .i64 0] rfl rfl (World.news_of_block (cs := #[.int .i64 0]) (t := 3) (fr := (0, 0)) (heap_alloc_new _ _)) (by simp [Value.oneCell']) (by omega) (by unfold maxLen; omega) (by omega) (by first | (simp; done) | (simp; omega)) (wd.heap.size + 1) (by simp) ?_; intro g cap w4 hown3 hgrow hat hlt3; have B4 : Bx (Below w2.heap.size w2 w4) := ⟨(BD.out.alloc BD.out.size _).grown hgrow (by first | (simp; done) | (simp; omega)) (fun k hk => (rowLt ROWD.out k hk).1)⟩; have PU := Bx.mk hown3; clear hown3 hgrow hat hlt3)
        go_roundw
        case rel => exact ⟨q + 1, by go_num, by omega, ⟨by rw [dgs_succ, HD.out]; exact PU.out⟩, B4, _, _, _, rfl⟩
        case measure => simp [intOf] <;> omega
      · go_wp2_with fail
        go_quiet (fail)
        obtain ⟨wd, hwd⟩ : ∃ wd, wd = wr.drewN nq := ⟨_, rfl⟩
        have ROWD : Bx (wd.ownsRow w2.heap.size 3 1 (.slice p q c) q (ints (dgs 5 a b q))) := ⟨by rw [hwd]; exact rowDrewN ROW.out _⟩
        have BD : Bx (Below w2.heap.size w2 wd) := ⟨by rw [hwd]; exact hbw.out.trans (belN' _ _ _)⟩
        have hsd : w2.heap.size ≤ wd.heap.size := BD.out.size
        rw [← hwd]
        clear hwd ca cb
        go_wp2_with (at_builtin; refine wpList_append_lies _ rfl (.tmp 43) (.tmp 45) 64 rfl w2.heap.size 3 i0 _ 1 8 Try.underlying64 hi hz0 hz1 hz2 rfl (by omega) _ q (ints (dgs 5 a b q)) rfl (ROWD.out.alloc _) ⟨wd.heap.size, 0, none⟩ 1 1 [.int .i64 0] rfl rfl (World.news_of_block (cs := #[.int .i64 0]) (t := 3) (fr := (0, 0)) (heap_alloc_new _ _)) (by simp [Value.oneCell']) (by omega) (by unfold maxLen; omega) (by omega) (by first | (simp; done) | (simp; omega)) (wd.heap.size + 1) (by simp) ?_; intro g cap w4 hown3 hgrow hat hlt3; have B4 : Bx (Below w2.heap.size w2 w4) := ⟨(BD.out.alloc BD.out.size _).grown hgrow (by first | (simp; done) | (simp; omega)) (fun k hk => (rowLt ROWD.out k hk).1)⟩; have PU := Bx.mk hown3; clear hown3 hgrow hat hlt3)
        go_roundw
        case rel => exact ⟨q + 1, by go_num, by omega, ⟨by rw [dgs_succ, HD.out]; exact PU.out⟩, B4, _, _, _, rfl⟩
        case measure => simp [intOf] <;> omega
      · go_wp2_with fail
        go_quiet (fail)
        obtain ⟨wd, hwd⟩ : ∃ wd, wd = wr.drewN nq := ⟨_, rfl⟩
        have ROWD : Bx (wd.ownsRow w2.heap.size 3 1 (.slice p q c) q (ints (dgs 5 a b q))) := ⟨by rw [hwd]; exact rowDrewN ROW.out _⟩
        have BD : Bx (Below w2.heap.size w2 wd) := ⟨by rw [hwd]; exact hbw.out.trans (belN' _ _ _)⟩
        have hsd : w2.heap.size ≤ wd.heap.size := BD.out.size
        rw [← hwd]
        clear hwd ca cb
        go_wp2_with (at_builtin; refine wpList_append_lies _ rfl (.tmp 43) (.tmp 45) 64 rfl w2.heap.size 3 i0 _ 1 8 Try.underlying64 hi hz0 hz1 hz2 rfl (by omega) _ q (ints (dgs 5 a b q)) rfl (ROWD.out.alloc _) ⟨wd.heap.size, 0, none⟩ 1 1 [.int .i64 0] rfl rfl (World.news_of_block (cs := #[.int .i64 0]) (t := 3) (fr := (0, 0)) (heap_alloc_new _ _)) (by simp [Value.oneCell']) (by omega) (by unfold maxLen; omega) (by omega) (by first | (simp; done) | (simp; omega)) (wd.heap.size + 1) (by simp) ?_; intro g cap w4 hown3 hgrow hat hlt3; have B4 : Bx (Below w2.heap.size w2 w4) := ⟨(BD.out.alloc BD.out.size _).grown hgrow (by first | (simp; done) | (simp; omega)) (fun k hk => (rowLt ROWD.out k hk).1)⟩; have PU := Bx.mk hown3; clear hown3 hgrow hat hlt3)
        go_roundw
        case rel => exact ⟨q + 1, by go_num, by omega, ⟨by rw [dgs_succ, HD.out]; exact PU.out⟩, B4, _, _, _, rfl⟩
        case measure => simp [intOf] <;> omega
      · go_wp2_with fail
        go_quiet (fail)
        obtain ⟨wd, hwd⟩ : ∃ wd, wd = wr.drewN nq := ⟨_, rfl⟩
        have ROWD : Bx (wd.ownsRow w2.heap.size 3 1 (.slice p q c) q (ints (dgs 5 a b q))) := ⟨by rw [hwd]; exact rowDrewN ROW.out _⟩
        have BD : Bx (Below w2.heap.size w2 wd) := ⟨by rw [hwd]; exact hbw.out.trans (belN' _ _ _)⟩
        have hsd : w2.heap.size ≤ wd.heap.size := BD.out.size
        rw [← hwd]
        clear hwd ca cb
        go_wp2_with (at_builtin; refine wpList_append_lies _ rfl (.tmp 43) (.tmp 45) 64 rfl w2.heap.size 3 i0 _ 1 8 Try.underlying64 hi hz0 hz1 hz2 rfl (by omega) _ q (ints (dgs 5 a b q)) rfl (ROWD.out.alloc _) ⟨wd.heap.size, 0, none⟩ 1 1 [.int .i64 1] rfl rfl (World.news_of_block (cs := #[.int .i64 1]) (t := 3) (fr := (0, 0)) (heap_alloc_new _ _)) (by simp [Value.oneCell']) (by omega) (by unfold maxLen; omega) (by omega) (by first | (simp; done) | (simp; omega)) (wd.heap.size + 1) (by simp) ?_; intro g cap w4 hown3 hgrow hat hlt3; have B4 : Bx (Below w2.heap.size w2 w4) := ⟨(BD.out.alloc BD.out.size _).grown hgrow (by first | (simp; done) | (simp; omega)) (fun k hk => (rowLt ROWD.out k hk).1)⟩; have PU := Bx.mk hown3; clear hown3 hgrow hat hlt3)
        go_roundw
        case rel => exact ⟨q + 1, by go_num, by omega, ⟨by rw [dgs_succ, HD.out]; exact PU.out⟩, B4, _, _, _, rfl⟩
        case measure => simp [intOf] <;> omega
    · obtain rfl : q = 64 := by omega
      have CV := Bx.mk (value_own (dgf 5 a b) (fun i _ => dgf_le (by decide) a b i) (B := w2.heap.size) (g := 0) (cap := 0) (w := wr))
      clear CV
      have hp : ∃ g, p = some ⟨g, 0, none⟩ := by
        rcases ROW.out.2 with ⟨hh, h0⟩ | ⟨g, cap, cur, hh, _⟩
        · obtain ⟨_, h3, _⟩ := Value.slice.inj hh; omega
        · exact ⟨g, (Value.slice.inj hh).1⟩
      obtain ⟨g, rfl⟩ := hp
      have cv := value_own (dgf 5 a b) (fun i _ => dgf_le (by decide) a b i) ROW.out
      rw [VV.out] at cv
      have CV := Bx.mk cv
      clear cv
      go_wp2_with (go_at_call 51; ((with_reducible refine (CV.out).mono ?_); rintro e w5 ⟨rfl, rfl⟩))
      go_ret
      exact ⟨rfl, bel' BW.out BW.out.size hbw.out⟩
set_option maxHeartbeats 12800000 in
theorem refReckon_or (a b : Nat) (ha : a < 18446744073709551616) (hb : b < 18446744073709551616) (w : World) :
    Calls Try.prog 49 #[.int .i64 6, .int .u64 (a : Int), .int .u64 (b : Int)] w fun e w' => e = .returned (.int .u64 ((reckM 6 a b : Nat) : Int)) ∧ Below w.heap.size w w' := by
  obtain ⟨i0, hi, hz0, hz1, hz2⟩ := info_parts info_int
  have CB := Bx.mk (fun v hv W => bits_any v hv W)
  have VV : Bx (val (fl (dgf 6 a b)) = reckM 6 a b) := ⟨val_or ha hb⟩
  have HAl := Bx.mk ha; have HBl := Bx.mk hb
  clear ha hb
  have CA := Bx.mk (CB.out a HAl.out)
  have CBB := Bx.mk (CB.out b HBl.out)
  clear CB
  go_enter Try.func49, Try.ntmps49
  go_upto_region 2 with (first
    | (go_at_call 50; ((with_reducible refine (CA.out _).mono ?_); rintro e w1 ⟨ga, ca, rfl, hca, hga, howA, hbA⟩; have OA := Bx.mk howA; have BA := Bx.mk hbA; clear howA hbA CA))
    | (go_at_call 50; ((with_reducible refine (CBB.out _).mono ?_); rintro e w2 ⟨gb, cb, rfl, hcb, hgb, howB, hbB⟩; have OB := Bx.mk howB; have BB := Bx.mk hbB; clear howB hbB)))
  have la : ga < w2.heap.size := Nat.lt_of_lt_of_le (OA.out.lt ga rfl).2 BB.out.size
  have lb : gb < w2.heap.size := (OB.out.lt gb rfl).2
  have HA : Bx (∀ j, j < 64 → w2.cell? ⟨ga, j, none⟩ = some (.int .i64 ((a / 2 ^ j % 2 : Nat) : Int))) := ⟨fun j hj => own_at (f := fun i => a / 2 ^ i % 2) (by have := rowBel OA.out BB.out; rwa [fl_bl] at this) j hj⟩
  have HB : Bx (∀ j, j < 64 → w2.cell? ⟨gb, j, none⟩ = some (.int .i64 ((b / 2 ^ j % 2 : Nat) : Int))) := ⟨fun j hj => own_at (f := fun i => b / 2 ^ i % 2) (by have := OB.out; rwa [fl_bl] at this) j hj⟩
  have BW := Bx.mk (bel BA.out BB.out)
  clear OA OB BA BB CBB
  go_wp2_with fail
  go_loopw [9, 19] (fun v i wr => ∃ k : Nat, i = .int .i64 (k : Int) ∧ k ≤ 64 ∧ Bx (wr.ownsRow w2.heap.size 3 1 v k (ints (dgs 6 a b k))) ∧ Bx (Below w2.heap.size w2 wr) ∧ ∃ p q c, v = .slice p q c) (fun _ i _ => 64 - (intOf i).toNat)
  case atStart => exact ⟨0, rfl, by omega, ⟨World.ownsRow_made w2 #[] 0 (Nat.le_refl _) (by simp) rfl⟩, ⟨aset _ _⟩, _, _, _, rfl⟩
  case round =>
    obtain ⟨k, rfl, hk, ROW, hbw, p, q, c, rfl⟩ := hrel
    obtain rfl : q = k := by
      obtain ⟨_, _, hv⟩ := rowSlice ROW.out
      exact (Value.slice.inj hv).2.1
    by_cases hlt : q < 64
    · have ca := (hbw.out.cell la).trans (HA.out q hlt)
      have cb := (hbw.out.cell lb).trans (HB.out q hlt)
      have hqi : (q : Int) < 64 := by omega
      have hq0 : (0 : Int) ≤ (q : Int) := by omega
      obtain ⟨x, hx⟩ : ∃ x, x = a / 2 ^ q % 2 := ⟨_, rfl⟩
      obtain ⟨y, hy⟩ : ∃ y, y = b / 2 ^ q % 2 := ⟨_, rfl⟩
      rw [← hx] at ca
      rw [← hy] at cb
      have hx1 : x = 0 ∨ x = 1 := by omega
      have hy1 : y = 0 ∨ y = 1 := by omega
      have HD : Bx (dgf 6 a b q = dig 6 x y) := ⟨by unfold dgf; rw [← hx, ← hy]⟩
      have hsq := hbw.out.size
      clear hx hy
      rcases hx1 with rfl | rfl <;> rcases hy1 with rfl | rfl
      · go_wp2_with fail
        go_quiet (fail)
        obtain ⟨wd, hwd⟩ : ∃ wd, wd = wr.drewN nq := ⟨_, rfl⟩
        have ROWD : Bx (wd.ownsRow w2.heap.size 3 1 (.slice p q c) q (ints (dgs 6 a b q))) := ⟨by rw [hwd]; exact rowDrewN ROW.out _⟩
        have BD : Bx (Below w2.heap.size w2 wd) := ⟨by rw [hwd]; exact hbw.out.trans (belN' _ _ _)⟩
        have hsd : w2.heap.size ≤ wd.heap.size := BD.out.size
        rw [← hwd]
        clear hwd ca cb
        go_wp2_with (at_builtin; refine wpList_append_lies _ rfl (.tmp 43) (.tmp 45) 64 rfl w2.heap.size 3 i0 _ 1 8 Try.underlying64 hi hz0 hz1 hz2 rfl (by omega) _ q (ints (dgs 6 a b q)) rfl (ROWD.out.alloc _) ⟨wd.heap.size, 0, none⟩ 1 1 [.int .i64 0] rfl rfl (World.news_of_block (cs := #[.int .i64 0]) (t := 3) (fr := (0, 0)) (heap_alloc_new _ _)) (by simp [Value.oneCell']) (by omega) (by unfold maxLen; omega) (by omega) (by first | (simp; done) | (simp; omega)) (wd.heap.size + 1) (by simp) ?_; intro g cap w4 hown3 hgrow hat hlt3; have B4 : Bx (Below w2.heap.size w2 w4) := ⟨(BD.out.alloc BD.out.size _).grown hgrow (by first | (simp; done) | (simp; omega)) (fun k hk => (rowLt ROWD.out k hk).1)⟩; have PU := Bx.mk hown3; clear hown3 hgrow hat hlt3)
        go_roundw
        case rel => exact ⟨q + 1, by go_num, by omega, ⟨by rw [dgs_succ, HD.out]; exact PU.out⟩, B4, _, _, _, rfl⟩
        case measure => simp [intOf] <;> omega
      · go_wp2_with fail
        go_quiet (fail)
        obtain ⟨wd, hwd⟩ : ∃ wd, wd = wr.drewN nq := ⟨_, rfl⟩
        have ROWD : Bx (wd.ownsRow w2.heap.size 3 1 (.slice p q c) q (ints (dgs 6 a b q))) := ⟨by rw [hwd]; exact rowDrewN ROW.out _⟩
        have BD : Bx (Below w2.heap.size w2 wd) := ⟨by rw [hwd]; exact hbw.out.trans (belN' _ _ _)⟩
        have hsd : w2.heap.size ≤ wd.heap.size := BD.out.size
        rw [← hwd]
        clear hwd ca cb
        go_wp2_with (at_builtin; refine wpList_append_lies _ rfl (.tmp 43) (.tmp 45) 64 rfl w2.heap.size 3 i0 _ 1 8 Try.underlying64 hi hz0 hz1 hz2 rfl (by omega) _ q (ints (dgs 6 a b q)) rfl (ROWD.out.alloc _) ⟨wd.heap.size, 0, none⟩ 1 1 [.int .i64 1] rfl rfl (World.news_of_block (cs := #[.int .i64 1]) (t := 3) (fr := (0, 0)) (heap_alloc_new _ _)) (by simp [Value.oneCell']) (by omega) (by unfold maxLen; omega) (by omega) (by first | (simp; done) | (simp; omega)) (wd.heap.size + 1) (by simp) ?_; intro g cap w4 hown3 hgrow hat hlt3; have B4 : Bx (Below w2.heap.size w2 w4) := ⟨(BD.out.alloc BD.out.size _).grown hgrow (by first | (simp; done) | (simp; omega)) (fun k hk => (rowLt ROWD.out k hk).1)⟩; have PU := Bx.mk hown3; clear hown3 hgrow hat hlt3)
        go_roundw
        case rel => exact ⟨q + 1, by go_num, by omega, ⟨by rw [dgs_succ, HD.out]; exact PU.out⟩, B4, _, _, _, rfl⟩
        case measure => simp [intOf] <;> omega
      · go_wp2_with fail
        go_quiet (fail)
        obtain ⟨wd, hwd⟩ : ∃ wd, wd = wr.drewN nq := ⟨_, rfl⟩
        have ROWD : Bx (wd.ownsRow w2.heap.size 3 1 (.slice p q c) q (ints (dgs 6 a b q))) := ⟨by rw [hwd]; exact rowDrewN ROW.out _⟩
        have BD : Bx (Below w2.heap.size w2 wd) := ⟨by rw [hwd]; exact hbw.out.trans (belN' _ _ _)⟩
        have hsd : w2.heap.size ≤ wd.heap.size := BD.out.size
        rw [← hwd]
        clear hwd ca cb
        go_wp2_with (at_builtin; refine wpList_append_lies _ rfl (.tmp 43) (.tmp 45) 64 rfl w2.heap.size 3 i0 _ 1 8 Try.underlying64 hi hz0 hz1 hz2 rfl (by omega) _ q (ints (dgs 6 a b q)) rfl (ROWD.out.alloc _) ⟨wd.heap.size, 0, none⟩ 1 1 [.int .i64 1] rfl rfl (World.news_of_block (cs := #[.int .i64 1]) (t := 3) (fr := (0, 0)) (heap_alloc_new _ _)) (by simp [Value.oneCell']) (by omega) (by unfold maxLen; omega) (by omega) (by first | (simp; done) | (simp; omega)) (wd.heap.size + 1) (by simp) ?_; intro g cap w4 hown3 hgrow hat hlt3; have B4 : Bx (Below w2.heap.size w2 w4) := ⟨(BD.out.alloc BD.out.size _).grown hgrow (by first | (simp; done) | (simp; omega)) (fun k hk => (rowLt ROWD.out k hk).1)⟩; have PU := Bx.mk hown3; clear hown3 hgrow hat hlt3)
        go_roundw
        case rel => exact ⟨q + 1, by go_num, by omega, ⟨by rw [dgs_succ, HD.out]; exact PU.out⟩, B4, _, _, _, rfl⟩
        case measure => simp [intOf] <;> omega
      · go_wp2_with fail
        go_quiet (fail)
        obtain ⟨wd, hwd⟩ : ∃ wd, wd = wr.drewN nq := ⟨_, rfl⟩
        have ROWD : Bx (wd.ownsRow w2.heap.size 3 1 (.slice p q c) q (ints (dgs 6 a b q))) := ⟨by rw [hwd]; exact rowDrewN ROW.out _⟩
        have BD : Bx (Below w2.heap.size w2 wd) := ⟨by rw [hwd]; exact hbw.out.trans (belN' _ _ _)⟩
        have hsd : w2.heap.size ≤ wd.heap.size := BD.out.size
        rw [← hwd]
        clear hwd ca cb
        go_wp2_with (at_builtin; refine wpList_append_lies _ rfl (.tmp 43) (.tmp 45) 64 rfl w2.heap.size 3 i0 _ 1 8 Try.underlying64 hi hz0 hz1 hz2 rfl (by omega) _ q (ints (dgs 6 a b q)) rfl (ROWD.out.alloc _) ⟨wd.heap.size, 0, none⟩ 1 1 [.int .i64 1] rfl rfl (World.news_of_block (cs := #[.int .i64 1]) (t := 3) (fr := (0, 0)) (heap_alloc_new _ _)) (by simp [Value.oneCell']) (by omega) (by unfold maxLen; omega) (by omega) (by first | (simp; done) | (simp; omega)) (wd.heap.size + 1) (by simp) ?_; intro g cap w4 hown3 hgrow hat hlt3; have B4 : Bx (Below w2.heap.size w2 w4) := ⟨(BD.out.alloc BD.out.size _).grown hgrow (by first | (simp; done) | (simp; omega)) (fun k hk => (rowLt ROWD.out k hk).1)⟩; have PU := Bx.mk hown3; clear hown3 hgrow hat hlt3)
        go_roundw
        case rel => exact ⟨q + 1, by go_num, by omega, ⟨by rw [dgs_succ, HD.out]; exact PU.out⟩, B4, _, _, _, rfl⟩
        case measure => simp [intOf] <;> omega
    · obtain rfl : q = 64 := by omega
      have CV := Bx.mk (value_own (dgf 6 a b) (fun i _ => dgf_le (by decide) a b i) (B := w2.heap.size) (g := 0) (cap := 0) (w := wr))
      clear CV
      have hp : ∃ g, p = some ⟨g, 0, none⟩ := by
        rcases ROW.out.2 with ⟨hh, h0⟩ | ⟨g, cap, cur, hh, _⟩
        · obtain ⟨_, h3, _⟩ := Value.slice.inj hh; omega
        · exact ⟨g, (Value.slice.inj hh).1⟩
      obtain ⟨g, rfl⟩ := hp
      have cv := value_own (dgf 6 a b) (fun i _ => dgf_le (by decide) a b i) ROW.out
      rw [VV.out] at cv
      have CV := Bx.mk cv
      clear cv
      go_wp2_with (go_at_call 51; ((with_reducible refine (CV.out).mono ?_); rintro e w5 ⟨rfl, rfl⟩))
      go_ret
      exact ⟨rfl, bel' BW.out BW.out.size hbw.out⟩
set_option maxHeartbeats 12800000 in
theorem refReckon_shl (a b : Nat) (ha : a < 18446744073709551616) (hb : b < 18446744073709551616) (w : World) :
    Calls Try.prog 49 #[.int .i64 7, .int .u64 (a : Int), .int .u64 (b : Int)] w fun e w' => e = .returned (.int .u64 ((reckM 7 a b : Nat) : Int)) ∧ Below w.heap.size w w' := by
  obtain ⟨i0, hi, hz0, hz1, hz2⟩ := info_parts info_int
  have CB := Bx.mk (fun v hv W => bits_any v hv W)
  obtain ⟨m, hm⟩ : ∃ m, m = b % 64 := ⟨_, rfl⟩
  have hm64 : m < 64 := by omega
  have hm1 : (b : Int).tmod 64 = (m : Int) := by rw [Int.tmod_eq_emod_of_nonneg (by omega)]; omega
  have hm2 : (b : Int) % 64 = (m : Int) := by omega
  have hm3 : IntKind.i64.wrap (m : Int) = (m : Int) := by rw [IntKind.wrap_i64]; omega
  have hm5 : IntKind.u64.wrap (m : Int) = (m : Int) := by rw [IntKind.wrap_u64]; omega
  have hm4 : IntKind.i64.wrap (-(m : Int)) = -(m : Int) := by rw [IntKind.wrap_i64]; omega
  have CM := Bx.mk (fun W => refMove_any a (m : Int) ha (by omega) (by omega) W)
  have VV : Bx (movN a (m : Int) = reckM 7 a b) := ⟨by
    unfold movN reckM
    rw [if_pos (by omega), Int.toNat_natCast, hm]; rfl⟩
  clear hm
  have HAl := Bx.mk ha; have HBl := Bx.mk hb
  clear ha hb
  have CA := Bx.mk (CB.out a HAl.out)
  have CBB := Bx.mk (CB.out b HBl.out)
  clear CB
  go_enter Try.func49, Try.ntmps49
  go_upto_region 2 with (first
    | (go_at_call 50; ((with_reducible refine (CA.out _).mono ?_); rintro e w1 ⟨ga, ca, rfl, hca, hga, howA, hbA⟩; have OA := Bx.mk howA; have BA := Bx.mk hbA; clear howA hbA CA))
    | (go_at_call 50; ((with_reducible refine (CBB.out _).mono ?_); rintro e w2 ⟨gb, cb, rfl, hcb, hgb, howB, hbB⟩; have OB := Bx.mk howB; have BB := Bx.mk hbB; clear howB hbB)))
  have la : ga < w2.heap.size := Nat.lt_of_lt_of_le (OA.out.lt ga rfl).2 BB.out.size
  have lb : gb < w2.heap.size := (OB.out.lt gb rfl).2
  have HA : Bx (∀ j, j < 64 → w2.cell? ⟨ga, j, none⟩ = some (.int .i64 ((a / 2 ^ j % 2 : Nat) : Int))) := ⟨fun j hj => own_at (f := fun i => a / 2 ^ i % 2) (by have := rowBel OA.out BB.out; rwa [fl_bl] at this) j hj⟩
  have HB : Bx (∀ j, j < 64 → w2.cell? ⟨gb, j, none⟩ = some (.int .i64 ((b / 2 ^ j % 2 : Nat) : Int))) := ⟨fun j hj => own_at (f := fun i => b / 2 ^ i % 2) (by have := OB.out; rwa [fl_bl] at this) j hj⟩
  have BW := Bx.mk (bel BA.out BB.out)
  clear OA OB BA BB CBB
  go_wp2_with fail
  go_loopw [9, 19] (fun v i wr => ∃ k : Nat, i = .int .i64 (k : Int) ∧ k ≤ 64 ∧ Bx (wr.ownsRow w2.heap.size 3 1 v k (ints (dgs 7 a b k))) ∧ Bx (Below w2.heap.size w2 wr) ∧ ∃ p q c, v = .slice p q c) (fun _ i _ => 64 - (intOf i).toNat)
  case atStart => exact ⟨0, rfl, by omega, ⟨World.ownsRow_made w2 #[] 0 (Nat.le_refl _) (by simp) rfl⟩, ⟨aset _ _⟩, _, _, _, rfl⟩
  case round =>
    obtain ⟨k, rfl, hk, ROW, hbw, p, q, c, rfl⟩ := hrel
    obtain rfl : q = k := by
      obtain ⟨_, _, hv⟩ := rowSlice ROW.out
      exact (Value.slice.inj hv).2.1
    by_cases hlt : q < 64
    · have ca := (hbw.out.cell la).trans (HA.out q hlt)
      have cb := (hbw.out.cell lb).trans (HB.out q hlt)
      have hqi : (q : Int) < 64 := by omega
      have hq0 : (0 : Int) ≤ (q : Int) := by omega
      obtain ⟨x, hx⟩ : ∃ x, x = a / 2 ^ q % 2 := ⟨_, rfl⟩
      obtain ⟨y, hy⟩ : ∃ y, y = b / 2 ^ q % 2 := ⟨_, rfl⟩
      rw [← hx] at ca
      rw [← hy] at cb
      have hx1 : x = 0 ∨ x = 1 := by omega
      have hy1 : y = 0 ∨ y = 1 := by omega
      have HD : Bx (dgf 7 a b q = dig 7 x y) := ⟨by unfold dgf; rw [← hx, ← hy]⟩
      have hsq := hbw.out.size
      clear hx hy
      rcases hx1 with rfl | rfl <;> rcases hy1 with rfl | rfl
      · go_wp2_with fail
        go_quiet (fail)
        obtain ⟨wd, hwd⟩ : ∃ wd, wd = wr.drewN nq := ⟨_, rfl⟩
        have ROWD : Bx (wd.ownsRow w2.heap.size 3 1 (.slice p q c) q (ints (dgs 7 a b q))) := ⟨by rw [hwd]; exact rowDrewN ROW.out _⟩
        have BD : Bx (Below w2.heap.size w2 wd) := ⟨by rw [hwd]; exact hbw.out.trans (belN' _ _ _)⟩
        have hsd : w2.heap.size ≤ wd.heap.size := BD.out.size
        rw [← hwd]
        clear hwd ca cb
        go_wp2_with (at_builtin; refine wpList_append_lies _ rfl (.tmp 43) (.tmp 45) 64 rfl w2.heap.size 3 i0 _ 1 8 Try.underlying64 hi hz0 hz1 hz2 rfl (by omega) _ q (ints (dgs 7 a b q)) rfl (ROWD.out.alloc _) ⟨wd.heap.size, 0, none⟩ 1 1 [.int .i64 0] rfl rfl (World.news_of_block (cs := #[.int .i64 0]) (t := 3) (fr := (0, 0)) (heap_alloc_new _ _)) (by simp [Value.oneCell']) (by omega) (by unfold maxLen; omega) (by omega) (by first | (simp; done) | (simp; omega)) (wd.heap.size + 1) (by simp) ?_; intro g cap w4 hown3 hgrow hat hlt3; have B4 : Bx (Below w2.heap.size w2 w4) := ⟨(BD.out.alloc BD.out.size _).grown hgrow (by first | (simp; done) | (simp; omega)) (fun k hk => (rowLt ROWD.out k hk).1)⟩; have PU := Bx.mk hown3; clear hown3 hgrow hat hlt3)
        go_roundw
        case rel => exact ⟨q + 1, by go_num, by omega, ⟨by rw [dgs_succ, HD.out]; exact PU.out⟩, B4, _, _, _, rfl⟩
        case measure => simp [intOf] <;> omega
      · go_wp2_with fail
        go_quiet (fail)
        obtain ⟨wd, hwd⟩ : ∃ wd, wd = wr.drewN nq := ⟨_, rfl⟩
        have ROWD : Bx (wd.ownsRow w2.heap.size 3 1 (.slice p q c) q (ints (dgs 7 a b q))) := ⟨by rw [hwd]; exact rowDrewN ROW.out _⟩
        have BD : Bx (Below w2.heap.size w2 wd) := ⟨by rw [hwd]; exact hbw.out.trans (belN' _ _ _)⟩
        have hsd : w2.heap.size ≤ wd.heap.size := BD.out.size
        rw [← hwd]
        clear hwd ca cb
        go_wp2_with (at_builtin; refine wpList_append_lies _ rfl (.tmp 43) (.tmp 45) 64 rfl w2.heap.size 3 i0 _ 1 8 Try.underlying64 hi hz0 hz1 hz2 rfl (by omega) _ q (ints (dgs 7 a b q)) rfl (ROWD.out.alloc _) ⟨wd.heap.size, 0, none⟩ 1 1 [.int .i64 1] rfl rfl (World.news_of_block (cs := #[.int .i64 1]) (t := 3) (fr := (0, 0)) (heap_alloc_new _ _)) (by simp [Value.oneCell']) (by omega) (by unfold maxLen; omega) (by omega) (by first | (simp; done) | (simp; omega)) (wd.heap.size + 1) (by simp) ?_; intro g cap w4 hown3 hgrow hat hlt3; have B4 : Bx (Below w2.heap.size w2 w4) := ⟨(BD.out.alloc BD.out.size _).grown hgrow (by first | (simp; done) | (simp; omega)) (fun k hk => (rowLt ROWD.out k hk).1)⟩; have PU := Bx.mk hown3; clear hown3 hgrow hat hlt3)
        go_roundw
        case rel => exact ⟨q + 1, by go_num, by omega, ⟨by rw [dgs_succ, HD.out]; exact PU.out⟩, B4, _, _, _, rfl⟩
        case measure => simp [intOf] <;> omega
      · go_wp2_with fail
        go_quiet (fail)
        obtain ⟨wd, hwd⟩ : ∃ wd, wd = wr.drewN nq := ⟨_, rfl⟩
        have ROWD : Bx (wd.ownsRow w2.heap.size 3 1 (.slice p q c) q (ints (dgs 7 a b q))) := ⟨by rw [hwd]; exact rowDrewN ROW.out _⟩
        have BD : Bx (Below w2.heap.size w2 wd) := ⟨by rw [hwd]; exact hbw.out.trans (belN' _ _ _)⟩
        have hsd : w2.heap.size ≤ wd.heap.size := BD.out.size
        rw [← hwd]
        clear hwd ca cb
        go_wp2_with (at_builtin; refine wpList_append_lies _ rfl (.tmp 43) (.tmp 45) 64 rfl w2.heap.size 3 i0 _ 1 8 Try.underlying64 hi hz0 hz1 hz2 rfl (by omega) _ q (ints (dgs 7 a b q)) rfl (ROWD.out.alloc _) ⟨wd.heap.size, 0, none⟩ 1 1 [.int .i64 1] rfl rfl (World.news_of_block (cs := #[.int .i64 1]) (t := 3) (fr := (0, 0)) (heap_alloc_new _ _)) (by simp [Value.oneCell']) (by omega) (by unfold maxLen; omega) (by omega) (by first | (simp; done) | (simp; omega)) (wd.heap.size + 1) (by simp) ?_; intro g cap w4 hown3 hgrow hat hlt3; have B4 : Bx (Below w2.heap.size w2 w4) := ⟨(BD.out.alloc BD.out.size _).grown hgrow (by first | (simp; done) | (simp; omega)) (fun k hk => (rowLt ROWD.out k hk).1)⟩; have PU := Bx.mk hown3; clear hown3 hgrow hat hlt3)
        go_roundw
        case rel => exact ⟨q + 1, by go_num, by omega, ⟨by rw [dgs_succ, HD.out]; exact PU.out⟩, B4, _, _, _, rfl⟩
        case measure => simp [intOf] <;> omega
      · go_wp2_with fail
        go_quiet (fail)
        obtain ⟨wd, hwd⟩ : ∃ wd, wd = wr.drewN nq := ⟨_, rfl⟩
        have ROWD : Bx (wd.ownsRow w2.heap.size 3 1 (.slice p q c) q (ints (dgs 7 a b q))) := ⟨by rw [hwd]; exact rowDrewN ROW.out _⟩
        have BD : Bx (Below w2.heap.size w2 wd) := ⟨by rw [hwd]; exact hbw.out.trans (belN' _ _ _)⟩
        have hsd : w2.heap.size ≤ wd.heap.size := BD.out.size
        rw [← hwd]
        clear hwd ca cb
        go_wp2_with (at_builtin; refine wpList_append_lies _ rfl (.tmp 43) (.tmp 45) 64 rfl w2.heap.size 3 i0 _ 1 8 Try.underlying64 hi hz0 hz1 hz2 rfl (by omega) _ q (ints (dgs 7 a b q)) rfl (ROWD.out.alloc _) ⟨wd.heap.size, 0, none⟩ 1 1 [.int .i64 2] rfl rfl (World.news_of_block (cs := #[.int .i64 2]) (t := 3) (fr := (0, 0)) (heap_alloc_new _ _)) (by simp [Value.oneCell']) (by omega) (by unfold maxLen; omega) (by omega) (by first | (simp; done) | (simp; omega)) (wd.heap.size + 1) (by simp) ?_; intro g cap w4 hown3 hgrow hat hlt3; have B4 : Bx (Below w2.heap.size w2 w4) := ⟨(BD.out.alloc BD.out.size _).grown hgrow (by first | (simp; done) | (simp; omega)) (fun k hk => (rowLt ROWD.out k hk).1)⟩; have PU := Bx.mk hown3; clear hown3 hgrow hat hlt3)
        go_roundw
        case rel => exact ⟨q + 1, by go_num, by omega, ⟨by rw [dgs_succ, HD.out]; exact PU.out⟩, B4, _, _, _, rfl⟩
        case measure => simp [intOf] <;> omega
    · obtain rfl : q = 64 := by omega
      go_wp2_with (go_at_call 79; ((with_reducible refine (CM.out _).mono ?_); rintro e w5 ⟨rfl, b5⟩; have B5 := Bx.mk b5; clear b5))
      go_ret
      exact ⟨by rw [VV.out]; rfl, bel (bel' BW.out BW.out.size hbw.out) B5.out⟩
set_option maxHeartbeats 12800000 in
theorem refReckon_shr (a b : Nat) (ha : a < 18446744073709551616) (hb : b < 18446744073709551616) (w : World) :
    Calls Try.prog 49 #[.int .i64 8, .int .u64 (a : Int), .int .u64 (b : Int)] w fun e w' => e = .returned (.int .u64 ((reckM 8 a b : Nat) : Int)) ∧ Below w.heap.size w w' := by
  obtain ⟨i0, hi, hz0, hz1, hz2⟩ := info_parts info_int
  have CB := Bx.mk (fun v hv W => bits_any v hv W)
  obtain ⟨m, hm⟩ : ∃ m, m = b % 64 := ⟨_, rfl⟩
  have hm64 : m < 64 := by omega
  have hm1 : (b : Int).tmod 64 = (m : Int) := by rw [Int.tmod_eq_emod_of_nonneg (by omega)]; omega
  have hm2 : (b : Int) % 64 = (m : Int) := by omega
  have hm3 : IntKind.i64.wrap (m : Int) = (m : Int) := by rw [IntKind.wrap_i64]; omega
  have hm5 : IntKind.u64.wrap (m : Int) = (m : Int) := by rw [IntKind.wrap_u64]; omega
  have hm4 : IntKind.i64.wrap (-(m : Int)) = -(m : Int) := by rw [IntKind.wrap_i64]; omega
  have CM := Bx.mk (fun W => refMove_any a (-(m : Int)) ha (by omega) (by omega) W)
  have VV : Bx (movN a (-(m : Int)) = reckM 8 a b) := ⟨by
    have e : reckM 8 a b = a / 2 ^ m := by rw [hm]; rfl
    rw [e]
    unfold movN
    rcases Nat.eq_zero_or_pos m with h | h
    · rw [h]; simp; omega
    · rw [if_neg (by omega), Int.neg_neg, Int.toNat_natCast]⟩
  clear hm
  have HAl := Bx.mk ha; have HBl := Bx.mk hb
  clear ha hb
  have CA := Bx.mk (CB.out a HAl.out)
  have CBB := Bx.mk (CB.out b HBl.out)
  clear CB
  go_enter Try.func49, Try.ntmps49
  go_upto_region 2 with (first
    | (go_at_call 50; ((with_reducible refine (CA.out _).mono ?_); rintro e w1 ⟨ga, ca, rfl, hca, hga, howA, hbA⟩; have OA := Bx.mk howA; have BA := Bx.mk hbA; clear howA hbA CA))
    | (go_at_call 50; ((with_reducible refine (CBB.out _).mono ?_); rintro e w2 ⟨gb, cb, rfl, hcb, hgb, howB, hbB⟩; have OB := Bx.mk howB; have BB := Bx.mk hbB; clear howB hbB)))
  have la : ga < w2.heap.size := Nat.lt_of_lt_of_le (OA.out.lt ga rfl).2 BB.out.size
  have lb : gb < w2.heap.size := (OB.out.lt gb rfl).2
  have HA : Bx (∀ j, j < 64 → w2.cell? ⟨ga, j, none⟩ = some (.int .i64 ((a / 2 ^ j % 2 : Nat) : Int))) := ⟨fun j hj => own_at (f := fun i => a / 2 ^ i % 2) (by have := rowBel OA.out BB.out; rwa [fl_bl] at this) j hj⟩
  have HB : Bx (∀ j, j < 64 → w2.cell? ⟨gb, j, none⟩ = some (.int .i64 ((b / 2 ^ j % 2 : Nat) : Int))) := ⟨fun j hj => own_at (f := fun i => b / 2 ^ i % 2) (by have := OB.out; rwa [fl_bl] at this) j hj⟩
  have BW := Bx.mk (bel BA.out BB.out)
  clear OA OB BA BB CBB
  go_wp2_with fail
  go_loopw [9, 19] (fun v i wr => ∃ k : Nat, i = .int .i64 (k : Int) ∧ k ≤ 64 ∧ Bx (wr.ownsRow w2.heap.size 3 1 v k (ints (dgs 8 a b k))) ∧ Bx (Below w2.heap.size w2 wr) ∧ ∃ p q c, v = .slice p q c) (fun _ i _ => 64 - (intOf i).toNat)
  case atStart => exact ⟨0, rfl, by omega, ⟨World.ownsRow_made w2 #[] 0 (Nat.le_refl _) (by simp) rfl⟩, ⟨aset _ _⟩, _, _, _, rfl⟩
  case round =>
    obtain ⟨k, rfl, hk, ROW, hbw, p, q, c, rfl⟩ := hrel
    obtain rfl : q = k := by
      obtain ⟨_, _, hv⟩ := rowSlice ROW.out
      exact (Value.slice.inj hv).2.1
    by_cases hlt : q < 64
    · have ca := (hbw.out.cell la).trans (HA.out q hlt)
      have cb := (hbw.out.cell lb).trans (HB.out q hlt)
      have hqi : (q : Int) < 64 := by omega
      have hq0 : (0 : Int) ≤ (q : Int) := by omega
      obtain ⟨x, hx⟩ : ∃ x, x = a / 2 ^ q % 2 := ⟨_, rfl⟩
      obtain ⟨y, hy⟩ : ∃ y, y = b / 2 ^ q % 2 := ⟨_, rfl⟩
      rw [← hx] at ca
      rw [← hy] at cb
      have hx1 : x = 0 ∨ x = 1 := by omega
      have hy1 : y = 0 ∨ y = 1 := by omega
      have HD : Bx (dgf 8 a b q = dig 8 x y) := ⟨by unfold dgf; rw [← hx, ← hy]⟩
      have hsq := hbw.out.size
      clear hx hy
      rcases hx1 with rfl | rfl <;> rcases hy1 with rfl | rfl
      · go_wp2_with fail
        go_quiet (fail)
        obtain ⟨wd, hwd⟩ : ∃ wd, wd = wr.drewN nq := ⟨_, rfl⟩
        have ROWD : Bx (wd.ownsRow w2.heap.size 3 1 (.slice p q c) q (ints (dgs 8 a b q))) := ⟨by rw [hwd]; exact rowDrewN ROW.out _⟩
        have BD : Bx (Below w2.heap.size w2 wd) := ⟨by rw [hwd]; exact hbw.out.trans (belN' _ _ _)⟩
        have hsd : w2.heap.size ≤ wd.heap.size := BD.out.size
        rw [← hwd]
        clear hwd ca cb
        go_wp2_with (at_builtin; refine wpList_append_lies _ rfl (.tmp 43) (.tmp 45) 64 rfl w2.heap.size 3 i0 _ 1 8 Try.underlying64 hi hz0 hz1 hz2 rfl (by omega) _ q (ints (dgs 8 a b q)) rfl (ROWD.out.alloc _) ⟨wd.heap.size, 0, none⟩ 1 1 [.int .i64 0] rfl rfl (World.news_of_block (cs := #[.int .i64 0]) (t := 3) (fr := (0, 0)) (heap_alloc_new _ _)) (by simp [Value.oneCell']) (by omega) (by unfold maxLen; omega) (by omega) (by first | (simp; done) | (simp; omega)) (wd.heap.size + 1) (by simp) ?_; intro g cap w4 hown3 hgrow hat hlt3; have B4 : Bx (Below w2.heap.size w2 w4) := ⟨(BD.out.alloc BD.out.size _).grown hgrow (by first | (simp; done) | (simp; omega)) (fun k hk => (rowLt ROWD.out k hk).1)⟩; have PU := Bx.mk hown3; clear hown3 hgrow hat hlt3)
        go_roundw
        case rel => exact ⟨q + 1, by go_num, by omega, ⟨by rw [dgs_succ, HD.out]; exact PU.out⟩, B4, _, _, _, rfl⟩
        case measure => simp [intOf] <;> omega
      · go_wp2_with fail
        go_quiet (fail)
        obtain ⟨wd, hwd⟩ : ∃ wd, wd = wr.drewN nq := ⟨_, rfl⟩
        have ROWD : Bx (wd.ownsRow w2.heap.size 3 1 (.slice p q c) q (ints (dgs 8 a b q))) := ⟨by rw [hwd]; exact rowDrewN ROW.out _⟩
        have BD : Bx (Below w2.heap.size w2 wd) := ⟨by rw [hwd]; exact hbw.out.trans (belN' _ _ _)⟩
        have hsd : w2.heap.size ≤ wd.heap.size := BD.out.size
        rw [← hwd]
        clear hwd ca cb
        go_wp2_with (at_builtin; refine wpList_append_lies _ rfl (.tmp 43) (.tmp 45) 64 rfl w2.heap.size 3 i0 _ 1 8 Try.underlying64 hi hz0 hz1 hz2 rfl (by omega) _ q (ints (dgs 8 a b q)) rfl (ROWD.out.alloc _) ⟨wd.heap.size, 0, none⟩ 1 1 [.int .i64 1] rfl rfl (World.news_of_block (cs := #[.int .i64 1]) (t := 3) (fr := (0, 0)) (heap_alloc_new _ _)) (by simp [Value.oneCell']) (by omega) (by unfold maxLen; omega) (by omega) (by first | (simp; done) | (simp; omega)) (wd.heap.size + 1) (by simp) ?_; intro g cap w4 hown3 hgrow hat hlt3; have B4 : Bx (Below w2.heap.size w2 w4) := ⟨(BD.out.alloc BD.out.size _).grown hgrow (by first | (simp; done) | (simp; omega)) (fun k hk => (rowLt ROWD.out k hk).1)⟩; have PU := Bx.mk hown3; clear hown3 hgrow hat hlt3)
        go_roundw
        case rel => exact ⟨q + 1, by go_num, by omega, ⟨by rw [dgs_succ, HD.out]; exact PU.out⟩, B4, _, _, _, rfl⟩
        case measure => simp [intOf] <;> omega
      · go_wp2_with fail
        go_quiet (fail)
        obtain ⟨wd, hwd⟩ : ∃ wd, wd = wr.drewN nq := ⟨_, rfl⟩
        have ROWD : Bx (wd.ownsRow w2.heap.size 3 1 (.slice p q c) q (ints (dgs 8 a b q))) := ⟨by rw [hwd]; exact rowDrewN ROW.out _⟩
        have BD : Bx (Below w2.heap.size w2 wd) := ⟨by rw [hwd]; exact hbw.out.trans (belN' _ _ _)⟩
        have hsd : w2.heap.size ≤ wd.heap.size := BD.out.size
        rw [← hwd]
        clear hwd ca cb
        go_wp2_with (at_builtin; refine wpList_append_lies _ rfl (.tmp 43) (.tmp 45) 64 rfl w2.heap.size 3 i0 _ 1 8 Try.underlying64 hi hz0 hz1 hz2 rfl (by omega) _ q (ints (dgs 8 a b q)) rfl (ROWD.out.alloc _) ⟨wd.heap.size, 0, none⟩ 1 1 [.int .i64 1] rfl rfl (World.news_of_block (cs := #[.int .i64 1]) (t := 3) (fr := (0, 0)) (heap_alloc_new _ _)) (by simp [Value.oneCell']) (by omega) (by unfold maxLen; omega) (by omega) (by first | (simp; done) | (simp; omega)) (wd.heap.size + 1) (by simp) ?_; intro g cap w4 hown3 hgrow hat hlt3; have B4 : Bx (Below w2.heap.size w2 w4) := ⟨(BD.out.alloc BD.out.size _).grown hgrow (by first | (simp; done) | (simp; omega)) (fun k hk => (rowLt ROWD.out k hk).1)⟩; have PU := Bx.mk hown3; clear hown3 hgrow hat hlt3)
        go_roundw
        case rel => exact ⟨q + 1, by go_num, by omega, ⟨by rw [dgs_succ, HD.out]; exact PU.out⟩, B4, _, _, _, rfl⟩
        case measure => simp [intOf] <;> omega
      · go_wp2_with fail
        go_quiet (fail)
        obtain ⟨wd, hwd⟩ : ∃ wd, wd = wr.drewN nq := ⟨_, rfl⟩
        have ROWD : Bx (wd.ownsRow w2.heap.size 3 1 (.slice p q c) q (ints (dgs 8 a b q))) := ⟨by rw [hwd]; exact rowDrewN ROW.out _⟩
        have BD : Bx (Below w2.heap.size w2 wd) := ⟨by rw [hwd]; exact hbw.out.trans (belN' _ _ _)⟩
        have hsd : w2.heap.size ≤ wd.heap.size := BD.out.size
        rw [← hwd]
        clear hwd ca cb
        go_wp2_with (at_builtin; refine wpList_append_lies _ rfl (.tmp 43) (.tmp 45) 64 rfl w2.heap.size 3 i0 _ 1 8 Try.underlying64 hi hz0 hz1 hz2 rfl (by omega) _ q (ints (dgs 8 a b q)) rfl (ROWD.out.alloc _) ⟨wd.heap.size, 0, none⟩ 1 1 [.int .i64 2] rfl rfl (World.news_of_block (cs := #[.int .i64 2]) (t := 3) (fr := (0, 0)) (heap_alloc_new _ _)) (by simp [Value.oneCell']) (by omega) (by unfold maxLen; omega) (by omega) (by first | (simp; done) | (simp; omega)) (wd.heap.size + 1) (by simp) ?_; intro g cap w4 hown3 hgrow hat hlt3; have B4 : Bx (Below w2.heap.size w2 w4) := ⟨(BD.out.alloc BD.out.size _).grown hgrow (by first | (simp; done) | (simp; omega)) (fun k hk => (rowLt ROWD.out k hk).1)⟩; have PU := Bx.mk hown3; clear hown3 hgrow hat hlt3)
        go_roundw
        case rel => exact ⟨q + 1, by go_num, by omega, ⟨by rw [dgs_succ, HD.out]; exact PU.out⟩, B4, _, _, _, rfl⟩
        case measure => simp [intOf] <;> omega
    · obtain rfl : q = 64 := by omega
      go_wp2_with (go_at_call 79; ((with_reducible refine (CM.out _).mono ?_); rintro e w5 ⟨rfl, b5⟩; have B5 := Bx.mk b5; clear b5))
      go_ret
      exact ⟨by rw [VV.out]; rfl, bel (bel' BW.out BW.out.size hbw.out) B5.out⟩
end Go.Proofs.Ytccjekgbhablpaa
