/- The laws of layer 4 (pack): PackReads. -/
import Derived.Test.YtdhbeeeofaheeaaPackV
namespace Go.Proofs.Ytdhbeeeofaheeaa
set_option maxRecDepth 100000
open Go.RowKit M

theorem at_eq (b : Nat) (T : ByteArray) (a x : Nat) (w : World) (h : Rd w b T a x) :
    Calls Try.prog 19 #[.pointer (some ⟨b, 0, none⟩)] w fun e w' => e = .returned (.int .i64 (a : Int)) ∧ w = w' := by
  have c1 := h.c1
  clear h
  go_enter Try.func19, Try.ntmps19
  go_wp2
  go_ret
  exact ⟨rfl, rfl⟩
theorem err_eq (b : Nat) (T : ByteArray) (a x : Nat) (w : World) (h : Rd w b T a x) :
    Calls Try.prog 20 #[.pointer (some ⟨b, 0, none⟩)] w fun e w' => e = .returned (.int .i64 (x : Int)) ∧ w = w' := by
  have c2 := h.c2
  clear h
  go_enter Try.func20, Try.ntmps20
  go_wp2
  go_ret
  exact ⟨rfl, rfl⟩
theorem quiet_p {P : Program} {f : FuncId} {args : Array Value} {w : World} {n : Nat} {v : Value} (h : Calls P f args (w.drewN n) fun e w' => e = .returned v ∧ w.drewN n = w') :
    Calls P f args (w.drewN n) fun e w' => e = .returned v ∧ ∃ m, w' = w.drewN m :=
  h.mono fun _ _ hh => ⟨hh.1, n, hh.2.symm⟩
theorem Rd.far {w : World} {b g : Nat} {T : ByteArray} {a x : Nat} (h : Rd w b T a x) (o : Nat) (u : Value) (hne : g ≠ b) : Rd (w.setCell ⟨g, o, none⟩ u) b T a x := by
  have n0 : ∀ j, (⟨g, o, none⟩ : Addr) ≠ ⟨b, j, none⟩ := fun j e => hne (by injection e)
  exact ⟨by rw [World.cell?_setCell_other _ _ _ _ (n0 0)]; exact h.c0, by rw [World.cell?_setCell_other _ _ _ _ (n0 1)]; exact h.c1, by rw [World.cell?_setCell_other _ _ _ _ (n0 2)]; exact h.c2, by rw [frozen_setCell]; exact h.f1, by rw [frozen_setCell]; exact h.f2, h.le, h.sz⟩
theorem Cur.onl {w w' : World} {b r : Nat} {T : ByteArray} {a x : Nat} (h : Cur w b T a x) (o : Onl r w w') (hne : b ≠ r) : Cur w' b T a x := by
  have hlt : b < w.heap.size := World.block_lt_of_cell? w _ h.c0
  have e := o.block b hlt hne
  have ec := fun j => World.cell?_of_block (w := w) (w' := w') (a := ⟨b, j, none⟩) e
  have ef := fun j => World.frozen?_of_block (w := w) (w' := w') (a := ⟨b, j, none⟩) e
  exact ⟨by rw [ec]; exact h.c0, by rw [ec]; exact h.c1, by rw [ec]; exact h.c2, by rw [ef]; exact h.f0, by rw [ef]; exact h.f1, by rw [ef]; exact h.f2⟩
theorem bdrP {B : Nat} {w0 w : World} (h : Below B w0 w) (n : Nat) : Below B w0 (w.drewN n) := ⟨h.os, h.tape, h.output, h.size, h.block⟩
theorem Rd.drew {w : World} {b : Nat} {T : ByteArray} {a x : Nat} (h : Rd w b T a x) : Rd w.drew b T a x := ⟨h.c0, h.c1, h.c2, h.f1, h.f2, h.le, h.sz⟩
theorem keepO {w w' : World} {c r : Nat} {v : Value} (h : w.cell? ⟨c, 2, none⟩ = some v) (o : Onl r w w') (hne : c ≠ r) : w'.cell? ⟨c, 2, none⟩ = some v := by
  rw [o.cell (World.block_lt_of_cell? w _ h) hne]; exact h

set_option maxRecDepth 100000 in
set_option maxHeartbeats 2000000 in
theorem packReads_walk (s0 : ByteArray) (p : Option Addr) (n c : Nat) (K N : Nat → Int) (V : Nat → Nat) (S : Nat → ByteArray) (hn : n ≤ 9223372036854775807) (w : World) (hI : TIn w (.slice p n c) n K N V S) :
    Calls Try.prog 4 #[.string s0, .slice p n c] w fun e w' => e = .returned (.bool true) ∧ Below w.heap.size w w' := by
  have HI := Box.mk hI; clear hI
  have ks := cut_le s0 600
  have c0 : ∀ w, Calls Try.prog 9 #[.string s0, .int .i64 600] w fun e w' => e = .returned (.string (s0.extract 0 600)) ∧ w = w' := fun w => cut_any s0 600 w
  generalize s0.extract 0 600 = T at *
  have cr := fun W => read_any T (by omega) W
  have C0 := Box.mk c0; have CRD := Box.mk cr
  clear c0 cr
  go_enter Try.func4, Try.ntmps4
  go_wp2_with (first
    | (go_at_call 9; ((with_reducible refine (C0.out _).mono ?_); rintro e w' ⟨rfl, rfl⟩))
    | (go_at_call 10; ((with_reducible refine (CRD.out _).mono ?_); rintro e w2 ⟨rfl, r2, b2⟩; have R2 := Box.mk r2; have B2 := Box.mk b2; have hrs : w.heap.size < w2.heap.size := World.block_lt_of_cell? w2 _ r2.c0; have ba := (Below.refl w2.heap.size w2).alloc (Nat.le_refl _) (.cells #[.string T, .int .i64 0, .int .i64 0] 38); have BA := Box.mk ba; clear r2 b2 ba))
    | (go_at_call 7; ((with_reducible refine (awake4_any _).mono ?_); rintro e w3 ⟨rfl, b3⟩; have R3 := Box.mk (rd_below (rd_below R2.out BA.out) b3); have K3 := Box.mk ((Cur.new w2 T 0 0 38).below b3); have B3 := Box.mk (bch (bch B2.out BA.out) b3); clear b3)))
  obtain ⟨cb, hcb⟩ : ∃ b, b = w2.heap.size := ⟨_, rfl⟩
  rw [← hcb] at K3 ⊢
  have hne : cb ≠ w.heap.size := by omega
  have hcw : w.heap.size ≤ cb := by omega
  clear hcb R2 BA B2 hrs CRD C0
  go_loopw [7] (fun i wr => ∃ k a x : Nat, k ≤ n ∧ k ≤ 30 ∧ i = .int .i64 (k : Int) ∧ Box (Rd wr w.heap.size T a x) ∧ Box (Cur wr cb T a x) ∧ Box (Below w.heap.size w wr))
    (fun i _ => 30 - (intOf i).toNat)
  case atStart => exact ⟨0, 0, 0, by omega, by omega, rfl, R3, K3, B3⟩
  case round =>
    obtain ⟨k, a, x, hkn, hk30, rfl, hr, hcu, hb⟩ := hrel
    clear R3 K3 B3
    have hale := hr.out.le
    have hszr : w.heap.size < wr.heap.size := World.block_lt_of_cell? wr _ hr.out.c0
    have hszc : cb < wr.heap.size := World.block_lt_of_cell? wr _ hcu.out.c0
    by_cases hk1 : k < n
    · by_cases hk2 : k < 30
      · obtain ⟨b, off, c', hv, hbl, hcell⟩ := HI.out.cells (by omega)
        obtain ⟨rfl, _, rfl⟩ := Value.slice.inj hv
        obtain ⟨e0, e1, e2, e3⟩ := hcell k hk1
        have e0 : wr.cell? ⟨b, off + k * 4, none⟩ = some (.int .i64 (K k)) := by rw [hb.out.cell hbl]; exact e0
        have e1 : wr.cell? ⟨b, off + k * 4 + 1, none⟩ = some (.int .i64 (N k)) := by rw [hb.out.cell hbl]; exact e1
        have e2 : wr.cell? ⟨b, off + k * 4 + 2, none⟩ = some (.int .u64 ((V k : Nat) : Int)) := by rw [hb.out.cell hbl]; exact e2
        have e3 : wr.cell? ⟨b, off + k * 4 + 3, none⟩ = some (.string (S k)) := by rw [hb.out.cell hbl]; exact e3
        have hnb := HI.out.nb k hk1
        have hnb1 := hnb.1
        have hnb2 := hnb.2
        clear hcell hv hnb
        by_cases k1 : K k = 1
        · rw [k1] at e0
          have hcb := cl18_bd (N k)
          have c1 : ∀ W, Calls Try.prog 11 #[cu T a x, .int .i64 ((cl18 (N k) : Nat) : Int)] W fun e w' => e = .returned (.tuple #[cu T (rawA T a x (cl18 (N k) : Nat)) (rawX T a x (cl18 (N k) : Nat)), .int .u64 (fixU T a x (cl18 (N k)) : Nat)]) ∧ Below W.heap.size W w' := fun W => cfix_any T a x (cl18 (N k)) hale (by omega) hcb.1 hcb.2 W
          have c2 : ∀ W, Rd W w.heap.size T a x → Calls Try.prog 12 #[.pointer (some ⟨w.heap.size, 0, none⟩), .int .i64 (N k)] W (RdQ w.heap.size T (rawA T a x (cl18 (N k) : Nat)) (rawX T a x (cl18 (N k) : Nat)) (.int .u64 (fixU T a x (cl18 (N k)) : Nat)) W) := fun W hW => rfixed_any w.heap.size T a x (N k) W hW
          have hcl : min (max (N k) 1) 8 = ((cl18 (N k) : Nat) : Int) := by unfold cl18; split; omega; split <;> omega
          have hul := fixU_lt64 T a x (cl18 (N k)) hcb.2
          have C1 := Box.mk c1; have C2 := Box.mk c2
          clear c1 c2
          generalize rawA T a x (cl18 (N k) : Nat) = A1 at *
          generalize rawX T a x (cl18 (N k) : Nat) = X1 at *
          generalize fixU T a x (cl18 (N k)) = U at *
          generalize cl18 (N k) = qn at *
          generalize N k = Nk at *
          generalize V k = Vk at *
          generalize S k = Sk at *
          have ht := fresh4 wr (.int .i64 1) (.int .i64 Nk) (.int .u64 (Vk : Int)) (.string Sk) 30
          have hbt : Below wr.heap.size wr (wr.alloc (.cells #[.int .i64 1, .int .i64 Nk, .int .u64 (Vk : Int), .string Sk] 30)) := (Below.refl _ _).alloc (Nat.le_refl _) _
          have kc := hcu.out.below hbt
          have q0 := kc.c0
          have q1 := kc.c1
          have q2 := kc.c2
          have HRT := Box.mk (rd_below hr.out hbt); have HBT := Box.mk (bch hb.out hbt); have HTT := Box.mk ht; have HKC := Box.mk kc
          clear hbt ht kc k1
          unfold cu at C1
          go_wp2_with (first
            | (go_at_call 11; ((with_reducible refine (C1.out _).mono ?_); rintro e w3 ⟨rfl, b3⟩; have Y3 := Box.mk (b3.alloc b3.size (.cells #[.string T, .int .i64 (A1 : Int), .int .i64 (X1 : Int)] 38)); have JC := Box.mk (HKC.out.below Y3.out); have JR := Box.mk (rd_below HRT.out Y3.out); have B3 := Box.mk (bch HBT.out Y3.out); have u0 := JC.out.c0; have u1 := JC.out.c1; have u2 := JC.out.c2; have v0 := JC.out.f0; have v1 := JC.out.f1; have v2 := JC.out.f2; have t1 := cell_keep HTT.out.2.1 Y3.out; have hz := b3.size; have hzt : wr.heap.size < w3.heap.size := Nat.lt_of_lt_of_le (by simp) hz; clear b3 hz))
            | (go_at_call 12; ((with_reducible refine (C2.out _ (((JR.out.far _ _ hne).far _ _ hne).far _ _ hne)).mono ?_); rintro e w4 ⟨rfl, r4, o4⟩; have R4 := Box.mk r4; have K4 := Box.mk ((JC.out.set3 T A1 X1).onl o4 hne); have B4 := Box.mk (bch' (((B3.out.setCell hcw _).setCell hcw _).setCell hcw _) (o4.below (B := w.heap.size) (Nat.le_refl _) (by have := B3.out.size; simpa [World.setCell] using this))); clear r4 o4)))
          have qa : ∀ j, Calls Try.prog 19 #[.pointer (some ⟨w.heap.size, 0, none⟩)] (w4.drewN j) fun e w' => e = .returned (.int .i64 (A1 : Int)) ∧ ∃ m, w' = w4.drewN m := fun j => quiet_p (at_eq _ T A1 X1 _ (R4.out.drewN j))
          have qe : ∀ j, Calls Try.prog 20 #[.pointer (some ⟨w.heap.size, 0, none⟩)] (w4.drewN j) fun e w' => e = .returned (.int .i64 (X1 : Int)) ∧ ∃ m, w' = w4.drewN m := fun j => quiet_p (err_eq _ T A1 X1 _ (R4.out.drewN j))
          have QA := Box.mk qa; have QE := Box.mk qe
          have y1 := K4.out.c1
          have y2 := K4.out.c2
          clear qa qe
          go_quiet (first | (go_at_call 19; exact QA.out _) | (go_at_call 20; exact QE.out _))
          go_wp2_with fail
          go_roundw
          case rel => exact ⟨k + 1, A1, X1, by omega, by omega, by go_num, ⟨R4.out.drewN _⟩, ⟨K4.out.drewN _⟩, ⟨bdrP B4.out _⟩⟩
          case measure => simp [intOf]; omega
        by_cases k2 : K k = 2
        · rw [k2] at e0
          have hcb := cl18_bd (N k)
          have c1 := fun W => cnum_any T a x hale (by omega) W
          have c2 : ∀ W, Rd W w.heap.size T a x → Calls Try.prog 14 #[.pointer (some ⟨w.heap.size, 0, none⟩)] W (RdQ w.heap.size T (numA T a x) (numX T a x) (.int .u64 (numV T a x : Nat)) W) := fun W hW => rnum_any w.heap.size T a x W hW
          have hul := numV_lt T a x
          have C1 := Box.mk c1; have C2 := Box.mk c2
          clear c1 c2
          generalize numA T a x = A1 at *
          generalize numX T a x = X1 at *
          generalize numV T a x = U at *
          generalize N k = Nk at *
          generalize V k = Vk at *
          generalize S k = Sk at *
          have ht := fresh4 wr (.int .i64 2) (.int .i64 Nk) (.int .u64 (Vk : Int)) (.string Sk) 30
          have hbt : Below wr.heap.size wr (wr.alloc (.cells #[.int .i64 2, .int .i64 Nk, .int .u64 (Vk : Int), .string Sk] 30)) := (Below.refl _ _).alloc (Nat.le_refl _) _
          have kc := hcu.out.below hbt
          have q0 := kc.c0
          have q1 := kc.c1
          have q2 := kc.c2
          have HRT := Box.mk (rd_below hr.out hbt); have HBT := Box.mk (bch hb.out hbt); have HTT := Box.mk ht; have HKC := Box.mk kc
          clear hbt ht kc k2
          unfold cu at C1
          go_wp2_with (first
            | (go_at_call 13; ((with_reducible refine (C1.out _).mono ?_); rintro e w3 ⟨rfl, b3⟩; have Y3 := Box.mk (b3.alloc b3.size (.cells #[.string T, .int .i64 (A1 : Int), .int .i64 (X1 : Int)] 38)); have JC := Box.mk (HKC.out.below Y3.out); have JR := Box.mk (rd_below HRT.out Y3.out); have B3 := Box.mk (bch HBT.out Y3.out); have u0 := JC.out.c0; have u1 := JC.out.c1; have u2 := JC.out.c2; have v0 := JC.out.f0; have v1 := JC.out.f1; have v2 := JC.out.f2; have t1 := cell_keep HTT.out.2.1 Y3.out; have hz := b3.size; have hzt : wr.heap.size < w3.heap.size := Nat.lt_of_lt_of_le (by simp) hz; clear b3 hz))
            | (go_at_call 14; ((with_reducible refine (C2.out _ (((JR.out.far _ _ hne).far _ _ hne).far _ _ hne)).mono ?_); rintro e w4 ⟨rfl, r4, o4⟩; have R4 := Box.mk r4; have K4 := Box.mk ((JC.out.set3 T A1 X1).onl o4 hne); have B4 := Box.mk (bch' (((B3.out.setCell hcw _).setCell hcw _).setCell hcw _) (o4.below (B := w.heap.size) (Nat.le_refl _) (by have := B3.out.size; simpa [World.setCell] using this))); clear r4 o4)))
          have qa : ∀ j, Calls Try.prog 19 #[.pointer (some ⟨w.heap.size, 0, none⟩)] (w4.drewN j) fun e w' => e = .returned (.int .i64 (A1 : Int)) ∧ ∃ m, w' = w4.drewN m := fun j => quiet_p (at_eq _ T A1 X1 _ (R4.out.drewN j))
          have qe : ∀ j, Calls Try.prog 20 #[.pointer (some ⟨w.heap.size, 0, none⟩)] (w4.drewN j) fun e w' => e = .returned (.int .i64 (X1 : Int)) ∧ ∃ m, w' = w4.drewN m := fun j => quiet_p (err_eq _ T A1 X1 _ (R4.out.drewN j))
          have QA := Box.mk qa; have QE := Box.mk qe
          have y1 := K4.out.c1
          have y2 := K4.out.c2
          clear qa qe
          go_quiet (first | (go_at_call 19; exact QA.out _) | (go_at_call 20; exact QE.out _))
          go_wp2_with fail
          go_roundw
          case rel => exact ⟨k + 1, A1, X1, by omega, by omega, by go_num, ⟨R4.out.drewN _⟩, ⟨K4.out.drewN _⟩, ⟨bdrP B4.out _⟩⟩
          case measure => simp [intOf]; omega
        by_cases k3 : K k = 3
        · rw [k3] at e0
          have hcb := cl18_bd (N k)
          have c1 := fun W => ctxt_any T a x (N k) hnb1 hnb2 hale (by omega) W
          have c2 : ∀ W, Rd W w.heap.size T a x → Calls Try.prog 16 #[.pointer (some ⟨w.heap.size, 0, none⟩), .int .i64 (N k)] W (RdQ w.heap.size T (txtA T a x (N k)) (txtX T a x (N k)) (.string (txtS T a x (N k))) W) := fun W hW => rtext_any w.heap.size T a x (N k) hnb1 hnb2 W hW
          have C1 := Box.mk c1; have C2 := Box.mk c2
          clear c1 c2
          generalize txtA T a x (N k) = A1 at *
          generalize txtX T a x (N k) = X1 at *
          generalize txtS T a x (N k) = U at *
          generalize N k = Nk at *
          generalize V k = Vk at *
          generalize S k = Sk at *
          have ht := fresh4 wr (.int .i64 3) (.int .i64 Nk) (.int .u64 (Vk : Int)) (.string Sk) 30
          have hbt : Below wr.heap.size wr (wr.alloc (.cells #[.int .i64 3, .int .i64 Nk, .int .u64 (Vk : Int), .string Sk] 30)) := (Below.refl _ _).alloc (Nat.le_refl _) _
          have kc := hcu.out.below hbt
          have q0 := kc.c0
          have q1 := kc.c1
          have q2 := kc.c2
          have HRT := Box.mk (rd_below hr.out hbt); have HBT := Box.mk (bch hb.out hbt); have HTT := Box.mk ht; have HKC := Box.mk kc
          clear hbt ht kc k3
          unfold cu at C1
          go_wp2_with (first
            | (go_at_call 15; ((with_reducible refine (C1.out _).mono ?_); rintro e w3 ⟨rfl, b3⟩; have Y3 := Box.mk (b3.alloc b3.size (.cells #[.string T, .int .i64 (A1 : Int), .int .i64 (X1 : Int)] 38)); have JC := Box.mk (HKC.out.below Y3.out); have JR := Box.mk (rd_below HRT.out Y3.out); have B3 := Box.mk (bch HBT.out Y3.out); have u0 := JC.out.c0; have u1 := JC.out.c1; have u2 := JC.out.c2; have v0 := JC.out.f0; have v1 := JC.out.f1; have v2 := JC.out.f2; have t1 := cell_keep HTT.out.2.1 Y3.out; have hz := b3.size; have hzt : wr.heap.size < w3.heap.size := Nat.lt_of_lt_of_le (by simp) hz; clear b3 hz))
            | (go_at_call 16; ((with_reducible refine (C2.out _ (((JR.out.far _ _ hne).far _ _ hne).far _ _ hne)).mono ?_); rintro e w4 ⟨rfl, r4, o4⟩; have R4 := Box.mk r4; have K4 := Box.mk ((JC.out.set3 T A1 X1).onl o4 hne); have B4 := Box.mk (bch' (((B3.out.setCell hcw _).setCell hcw _).setCell hcw _) (o4.below (B := w.heap.size) (Nat.le_refl _) (by have := B3.out.size; simpa [World.setCell] using this))); clear r4 o4)))
          have qa : ∀ j, Calls Try.prog 19 #[.pointer (some ⟨w.heap.size, 0, none⟩)] (w4.drewN j) fun e w' => e = .returned (.int .i64 (A1 : Int)) ∧ ∃ m, w' = w4.drewN m := fun j => quiet_p (at_eq _ T A1 X1 _ (R4.out.drewN j))
          have qe : ∀ j, Calls Try.prog 20 #[.pointer (some ⟨w.heap.size, 0, none⟩)] (w4.drewN j) fun e w' => e = .returned (.int .i64 (X1 : Int)) ∧ ∃ m, w' = w4.drewN m := fun j => quiet_p (err_eq _ T A1 X1 _ (R4.out.drewN j))
          have QA := Box.mk qa; have QE := Box.mk qe
          have y1 := K4.out.c1
          have y2 := K4.out.c2
          clear qa qe
          go_quiet (first | (go_at_call 19; exact QA.out _) | (go_at_call 20; exact QE.out _))
          go_wp2_with fail
          go_roundw
          case rel => exact ⟨k + 1, A1, X1, by omega, by omega, by go_num, ⟨R4.out.drewN _⟩, ⟨K4.out.drewN _⟩, ⟨bdrP B4.out _⟩⟩
          case measure => simp [intOf]; omega
        by_cases k4 : K k = 4
        · rw [k4] at e0
          have hcb := cl18_bd (N k)
          have c1 := fun W => crawl_any T a x (N k) hale (by omega) W
          have c2 : ∀ W, Rd W w.heap.size T a x → Calls Try.prog 18 #[.pointer (some ⟨w.heap.size, 0, none⟩), .int .i64 (N k)] W (RdQ w.heap.size T (rawA T a x (N k)) (rawX T a x (N k)) (.string (rawS T a x (N k))) W) := fun W hW => rraw_any w.heap.size T a x (N k) W hW
          have C1 := Box.mk c1; have C2 := Box.mk c2
          clear c1 c2
          generalize rawA T a x (N k) = A1 at *
          generalize rawX T a x (N k) = X1 at *
          generalize rawS T a x (N k) = U at *
          generalize N k = Nk at *
          generalize V k = Vk at *
          generalize S k = Sk at *
          have ht := fresh4 wr (.int .i64 4) (.int .i64 Nk) (.int .u64 (Vk : Int)) (.string Sk) 30
          have hbt : Below wr.heap.size wr (wr.alloc (.cells #[.int .i64 4, .int .i64 Nk, .int .u64 (Vk : Int), .string Sk] 30)) := (Below.refl _ _).alloc (Nat.le_refl _) _
          have kc := hcu.out.below hbt
          have q0 := kc.c0
          have q1 := kc.c1
          have q2 := kc.c2
          have HRT := Box.mk (rd_below hr.out hbt); have HBT := Box.mk (bch hb.out hbt); have HTT := Box.mk ht; have HKC := Box.mk kc
          clear hbt ht kc k4
          unfold cu at C1
          go_wp2_with (first
            | (go_at_call 17; ((with_reducible refine (C1.out _).mono ?_); rintro e w3 ⟨rfl, b3⟩; have Y3 := Box.mk (b3.alloc b3.size (.cells #[.string T, .int .i64 (A1 : Int), .int .i64 (X1 : Int)] 38)); have JC := Box.mk (HKC.out.below Y3.out); have JR := Box.mk (rd_below HRT.out Y3.out); have B3 := Box.mk (bch HBT.out Y3.out); have u0 := JC.out.c0; have u1 := JC.out.c1; have u2 := JC.out.c2; have v0 := JC.out.f0; have v1 := JC.out.f1; have v2 := JC.out.f2; have t1 := cell_keep HTT.out.2.1 Y3.out; have hz := b3.size; have hzt : wr.heap.size < w3.heap.size := Nat.lt_of_lt_of_le (by simp) hz; clear b3 hz))
            | (go_at_call 18; ((with_reducible refine (C2.out _ (((JR.out.far _ _ hne).far _ _ hne).far _ _ hne)).mono ?_); rintro e w4 ⟨rfl, r4, o4⟩; have R4 := Box.mk r4; have K4 := Box.mk ((JC.out.set3 T A1 X1).onl o4 hne); have B4 := Box.mk (bch' (((B3.out.setCell hcw _).setCell hcw _).setCell hcw _) (o4.below (B := w.heap.size) (Nat.le_refl _) (by have := B3.out.size; simpa [World.setCell] using this))); clear r4 o4)))
          have qa : ∀ j, Calls Try.prog 19 #[.pointer (some ⟨w.heap.size, 0, none⟩)] (w4.drewN j) fun e w' => e = .returned (.int .i64 (A1 : Int)) ∧ ∃ m, w' = w4.drewN m := fun j => quiet_p (at_eq _ T A1 X1 _ (R4.out.drewN j))
          have qe : ∀ j, Calls Try.prog 20 #[.pointer (some ⟨w.heap.size, 0, none⟩)] (w4.drewN j) fun e w' => e = .returned (.int .i64 (X1 : Int)) ∧ ∃ m, w' = w4.drewN m := fun j => quiet_p (err_eq _ T A1 X1 _ (R4.out.drewN j))
          have QA := Box.mk qa; have QE := Box.mk qe
          have y1 := K4.out.c1
          have y2 := K4.out.c2
          clear qa qe
          go_quiet (first | (go_at_call 19; exact QA.out _) | (go_at_call 20; exact QE.out _))
          go_wp2_with fail
          go_roundw
          case rel => exact ⟨k + 1, A1, X1, by omega, by omega, by go_num, ⟨R4.out.drewN _⟩, ⟨K4.out.drewN _⟩, ⟨bdrP B4.out _⟩⟩
          case measure => simp [intOf]; omega
        · have d1 : (K k == 1) = false := by rw [beq_eq_false_iff_ne]; exact k1
          have d2 : (K k == 2) = false := by rw [beq_eq_false_iff_ne]; exact k2
          have d3 : (K k == 3) = false := by rw [beq_eq_false_iff_ne]; exact k3
          have d4 : (K k == 4) = false := by rw [beq_eq_false_iff_ne]; exact k4
          clear k1 k2 k3 k4
          generalize K k = Kk at *
          generalize N k = Nk at *
          generalize V k = Vk at *
          generalize S k = Sk at *
          have hbt : Below wr.heap.size wr (wr.alloc (.cells #[.int .i64 Kk, .int .i64 Nk, .int .u64 (Vk : Int), .string Sk] 30)) := (Below.refl _ _).alloc (Nat.le_refl _) _
          have R4 := Box.mk (rd_below hr.out hbt); have B4 := Box.mk (bch hb.out hbt); have K4 := Box.mk (hcu.out.below hbt)
          clear hbt
          go_wp2_with fail
          have qa : ∀ j, Calls Try.prog 19 #[.pointer (some ⟨w.heap.size, 0, none⟩)] ((wr.alloc (.cells #[.int .i64 Kk, .int .i64 Nk, .int .u64 (Vk : Int), .string Sk] 30)).drewN j) fun e w' => e = .returned (.int .i64 (a : Int)) ∧ ∃ m, w' = (wr.alloc (.cells #[.int .i64 Kk, .int .i64 Nk, .int .u64 (Vk : Int), .string Sk] 30)).drewN m := fun j => quiet_p (at_eq _ T a x _ (R4.out.drewN j))
          have qe : ∀ j, Calls Try.prog 20 #[.pointer (some ⟨w.heap.size, 0, none⟩)] ((wr.alloc (.cells #[.int .i64 Kk, .int .i64 Nk, .int .u64 (Vk : Int), .string Sk] 30)).drewN j) fun e w' => e = .returned (.int .i64 (x : Int)) ∧ ∃ m, w' = (wr.alloc (.cells #[.int .i64 Kk, .int .i64 Nk, .int .u64 (Vk : Int), .string Sk] 30)).drewN m := fun j => quiet_p (err_eq _ T a x _ (R4.out.drewN j))
          have QA := Box.mk qa; have QE := Box.mk qe
          have y1 := K4.out.c1
          have y2 := K4.out.c2
          clear qa qe
          go_quiet (first | (go_at_call 19; exact QA.out _) | (go_at_call 20; exact QE.out _))
          go_wp2_with fail
          go_roundw
          case rel => exact ⟨k + 1, a, x, by omega, by omega, by go_num, ⟨R4.out.drewN _⟩, ⟨K4.out.drewN _⟩, ⟨bdrP B4.out _⟩⟩
          case measure => simp [intOf]; omega
      · have hkk : ¬ k < n ∨ (k < n ∧ ¬ k < 30) := by omega
        have cd := fun W => cdone_any T a x W
        obtain ⟨x9, hx9⟩ : ∃ y, y = (if x = 0 ∧ a < T.size then 3 else x) := ⟨_, rfl⟩
        rw [← hx9] at cd
        have cr : ∀ W, Rd W w.heap.size T a x → Calls Try.prog 22 #[.pointer (some ⟨w.heap.size, 0, none⟩)] W (RdQ w.heap.size T a x9 (.int .i64 (x9 : Int)) W) := fun W hW => by
          have h := done_any w.heap.size T a x W hW
          rw [← hx9] at h; exact h
        have CD := Box.mk cd; have CR := Box.mk cr
        have q0 := hcu.out.c0
        have q1 := hcu.out.c1
        have q2 := hcu.out.c2
        unfold cu at CD
        clear cd cr hx9
        clear hkk
        go_upto_region 31 with (go_at_call 21; ((with_reducible refine (CD.out _).mono ?_); rintro e w3 ⟨rfl, b3⟩; have JC := Box.mk (hcu.out.below b3); have JR := Box.mk (rd_below hr.out b3); have B3 := Box.mk (bch hb.out b3); have u0 := JC.out.c0; have u1 := JC.out.c1; have u2 := JC.out.c2; have v0 := JC.out.f0; have v1 := JC.out.f1; have v2 := JC.out.f2; clear b3))
        have Z1 := JC.out.set3 T a x9
        have ZR := ((JR.out.far 0 (.string T) hne).far 1 (.int .i64 (a : Int)) hne).far 2 (.int .i64 (x9 : Int)) hne
        have ZB := ((B3.out.setCell (p := ⟨cb, 0, none⟩) hcw (.string T)).setCell (p := ⟨cb, 1, none⟩) hcw (.int .i64 (a : Int))).setCell (p := ⟨cb, 2, none⟩) hcw (.int .i64 (x9 : Int))
        clear JC JR B3 u0 u1 u2 v0 v1 v2 CD hcu hr hb q0 q1 q2
        generalize ((w3.setCell ⟨cb, 0, none⟩ (.string T)).setCell ⟨cb, 1, none⟩ (.int .i64 (a : Int))).setCell ⟨cb, 2, none⟩ (.int .i64 (x9 : Int)) = wz at *
        have Z2 := Z1.c2
        have HR := Box.mk ZR.drew; have HZB := Box.mk ZB.drew
        clear Z1 ZR ZB
        go_region_held3 (fun W => W.cell? ⟨cb, 2, none⟩ = some (.int .i64 (x9 : Int)))
          (first | (exact Z2) | (exact keepO (by assumption) (by assumption) hne))
          (first
            | (go_at_call 22; ((with_reducible refine (CR.out _ HR.out).mono ?_); rintro e w5 ⟨rfl, r5, o5⟩))
            | (go_at_call 20; ((with_reducible refine (err_any _ _ _ _ _ r5).mono ?_); rintro e w6 ⟨rfl, r6, o6⟩)))
        go_wp2_with fail
        go_ret
        have k1 := bch' HZB.out (o5.below (B := w.heap.size) (Nat.le_refl _) HZB.out.size)
        exact ⟨rfl, bch' k1 (o6.below (B := w.heap.size) (Nat.le_refl _) k1.size)⟩
    · have hkk : ¬ k < n ∨ (k < n ∧ ¬ k < 30) := by omega
      have cd := fun W => cdone_any T a x W
      obtain ⟨x9, hx9⟩ : ∃ y, y = (if x = 0 ∧ a < T.size then 3 else x) := ⟨_, rfl⟩
      rw [← hx9] at cd
      have cr : ∀ W, Rd W w.heap.size T a x → Calls Try.prog 22 #[.pointer (some ⟨w.heap.size, 0, none⟩)] W (RdQ w.heap.size T a x9 (.int .i64 (x9 : Int)) W) := fun W hW => by
        have h := done_any w.heap.size T a x W hW
        rw [← hx9] at h; exact h
      have CD := Box.mk cd; have CR := Box.mk cr
      have q0 := hcu.out.c0
      have q1 := hcu.out.c1
      have q2 := hcu.out.c2
      unfold cu at CD
      clear cd cr hx9
      clear hkk
      go_upto_region 31 with (go_at_call 21; ((with_reducible refine (CD.out _).mono ?_); rintro e w3 ⟨rfl, b3⟩; have JC := Box.mk (hcu.out.below b3); have JR := Box.mk (rd_below hr.out b3); have B3 := Box.mk (bch hb.out b3); have u0 := JC.out.c0; have u1 := JC.out.c1; have u2 := JC.out.c2; have v0 := JC.out.f0; have v1 := JC.out.f1; have v2 := JC.out.f2; clear b3))
      have Z1 := JC.out.set3 T a x9
      have ZR := ((JR.out.far 0 (.string T) hne).far 1 (.int .i64 (a : Int)) hne).far 2 (.int .i64 (x9 : Int)) hne
      have ZB := ((B3.out.setCell (p := ⟨cb, 0, none⟩) hcw (.string T)).setCell (p := ⟨cb, 1, none⟩) hcw (.int .i64 (a : Int))).setCell (p := ⟨cb, 2, none⟩) hcw (.int .i64 (x9 : Int))
      clear JC JR B3 u0 u1 u2 v0 v1 v2 CD hcu hr hb q0 q1 q2
      generalize ((w3.setCell ⟨cb, 0, none⟩ (.string T)).setCell ⟨cb, 1, none⟩ (.int .i64 (a : Int))).setCell ⟨cb, 2, none⟩ (.int .i64 (x9 : Int)) = wz at *
      have Z2 := Z1.c2
      have HR := Box.mk ZR.drew; have HZB := Box.mk ZB.drew
      clear Z1 ZR ZB
      go_region_held3 (fun W => W.cell? ⟨cb, 2, none⟩ = some (.int .i64 (x9 : Int)))
        (first | (exact Z2) | (exact keepO (by assumption) (by assumption) hne))
        (first
          | (go_at_call 22; ((with_reducible refine (CR.out _ HR.out).mono ?_); rintro e w5 ⟨rfl, r5, o5⟩))
          | (go_at_call 20; ((with_reducible refine (err_any _ _ _ _ _ r5).mono ?_); rintro e w6 ⟨rfl, r6, o6⟩)))
      go_wp2_with fail
      go_ret
      have k1 := bch' HZB.out (o5.below (B := w.heap.size) (Nat.le_refl _) HZB.out.size)
      exact ⟨rfl, bch' k1 (o6.below (B := w.heap.size) (Nat.le_refl _) k1.size)⟩
end Go.Proofs.Ytdhbeeeofaheeaa
