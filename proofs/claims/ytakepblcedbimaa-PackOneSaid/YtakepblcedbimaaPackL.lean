/- PackOne: the walk. -/
import Derived.Test.YtakepblcedbimaaPackK
import Derived.Test.YtakepblcedbimaaWordN
namespace Go.Proofs.Ytakepblcedbimaa
open Go.RowKit M

theorem cut_le (s : ByteArray) (n : Nat) : (s.extract 0 n).size ≤ n := by simp; omega
theorem fixU_err {T : ByteArray} {a x : Nat} (h : x ≠ 0) : fixU T a x 1 = 0 := fixU_none (by unfold rawX; rw [if_neg h]; exact h)
theorem num_err {T : ByteArray} {a x : Nat} (h : x ≠ 0) : numA T a x = a ∧ numX T a x = x ∧ numV T a x = 0 := by
  have e := fixU_err (T := T) (a := a) h
  refine ⟨?_, ?_, ?_⟩
  · unfold numA; rw [e, if_pos (by omega)]; unfold rawA; rw [if_neg (fun hh => h hh.1)]
  · unfold numX; rw [e, if_pos (by omega)]; unfold rawX; rw [if_neg h]
  · unfold numV; rw [e, if_pos (by omega)]

theorem rd_below {w w' : World} {b : Nat} {T : ByteArray} {a x : Nat} (h : Rd w b T a x) (hb : Below w.heap.size w w') : Rd w' b T a x := by
  have hlt : b < w.heap.size := World.block_lt_of_cell? w _ h.c0
  have hc : ∀ o, w'.cell? ⟨b, o, none⟩ = w.cell? ⟨b, o, none⟩ := fun o => hb.cell (p := ⟨b, o, none⟩) hlt
  have hf : ∀ o, w'.frozen? ⟨b, o, none⟩ = w.frozen? ⟨b, o, none⟩ := fun o => hb.frozen (p := ⟨b, o, none⟩) hlt
  exact ⟨by rw [hc]; exact h.c0, by rw [hc]; exact h.c1, by rw [hc]; exact h.c2, by rw [hf]; exact h.f1, by rw [hf]; exact h.f2, h.le, h.sz⟩
theorem done_zero {x a : Nat} {T : ByteArray} (hle : a ≤ T.size) (h : (if x = 0 ∧ a < T.size then 3 else x) = 0) : x = 0 ∧ a = T.size := by
  by_cases hc : x = 0 ∧ a < T.size
  · rw [if_pos hc] at h; omega
  · rw [if_neg hc] at h; exact ⟨h, by omega⟩

set_option maxRecDepth 100000 in
set_option maxHeartbeats 1000000 in
theorem packOne_walk (s0 : ByteArray) (w : World) :
    Calls Try.prog 6 #[.string s0] w fun e w' => e = .returned (.bool true) ∧ Below w.heap.size w w' := by
  obtain ⟨T, hT⟩ : ∃ T, T = s0.extract 0 300 := ⟨_, rfl⟩
  have hsz : T.size ≤ 300 := by rw [hT]; exact cut_le s0 300
  have cc : Calls Try.prog 11 #[.string s0, .int .i64 300] w fun e w' => e = .returned (.string T) ∧ w = w' := by rw [hT]; exact cut_any s0 300 w
  have hvl := numV_lt T 0 0
  obtain ⟨na, hna⟩ : ∃ q, q = numA T 0 0 := ⟨_, rfl⟩
  obtain ⟨nx, hnx⟩ : ∃ q, q = numX T 0 0 := ⟨_, rfl⟩
  obtain ⟨nv, hnv⟩ : ∃ q, q = numV T 0 0 := ⟨_, rfl⟩
  obtain ⟨ta, hta⟩ : ∃ q, q = txtA T 0 0 300 := ⟨_, rfl⟩
  obtain ⟨tx, htx⟩ : ∃ q, q = txtX T 0 0 300 := ⟨_, rfl⟩
  obtain ⟨S, hS⟩ : ∃ q, q = txtS T 0 0 300 := ⟨_, rfl⟩
  obtain ⟨dr, hdr⟩ : ∃ d, d = if nx = 0 ∧ na < T.size then 3 else nx := ⟨_, rfl⟩
  obtain ⟨dq, hdq⟩ : ∃ d, d = if tx = 0 ∧ ta < T.size then 3 else tx := ⟨_, rfl⟩
  have hnale : na ≤ T.size := by rw [hna]; exact numA_le (by omega)
  have cread := fun W => read_any T (by omega) W
  have cnum : ∀ (W : World) (r : Nat), Rd W r T 0 0 → Calls Try.prog 16 #[.pointer (some ⟨r, 0, none⟩)] W (RdQ r T na nx (.int .u64 (nv : Int)) W) := fun W r hW => by
    rw [hna, hnx, hnv]; exact rnum_any r T 0 0 W hW
  have cdr : ∀ (W : World) (r : Nat), Rd W r T na nx → Calls Try.prog 24 #[.pointer (some ⟨r, 0, none⟩)] W (RdQ r T na dr (.int .i64 (dr : Int)) W) := fun W r hW => by
    rw [hdr]; exact done_any r T na nx W hW
  have ctx : ∀ (W : World) (r : Nat), Rd W r T 0 0 → Calls Try.prog 18 #[.pointer (some ⟨r, 0, none⟩), .int .i64 300] W (RdQ r T ta tx (.string S) W) := fun W r hW => by
    rw [hta, htx, hS]; exact rtext_any r T 0 0 300 (by omega) (by omega) W hW
  have cdq : ∀ (W : World) (r : Nat), Rd W r T ta tx → Calls Try.prog 24 #[.pointer (some ⟨r, 0, none⟩)] W (RdQ r T ta dq (.int .i64 (dq : Int)) W) := fun W r hW => by
    rw [hdq]; exact done_any r T ta tx W hW
  have crn : dr = 0 → ∀ W, Calls Try.prog 26 #[.int .u64 (nv : Int)] W fun e w' => e = .returned (.string T) ∧ Below W.heap.size W w' := fun h0 W => by
    rw [hdr] at h0
    obtain ⟨h1, h2⟩ := done_zero hnale h0
    have hr := num_read (T := T) (by rw [← hnx]; exact h1)
    rw [← hna, ← hnv, h2, List.take_of_length_le (by rw [sb_length]; exact Nat.le_refl _)] at hr
    have c := refNum_any nv (by rw [hnv]; exact hvl) W
    rw [← hr.1, bs_list] at c
    exact c
  have hSz : S.size ≤ 300 ∨ True := .inr trivial
  have crt : dq = 0 → ∀ W, Calls Try.prog 27 #[.string S] W fun e w' => e = .returned (.string T) ∧ Below W.heap.size W w' := fun h0 W => by
    rw [hdq] at h0
    have htale : ta ≤ T.size := by
      by_cases hc : tx = 0 ∧ ta < T.size
      · omega
      · rw [if_neg hc] at h0
        rw [hta]
        unfold txtA
        split
        · unfold rawA
          have := numA_le (T := T) (a := 0) (x := 0) (by omega)
          split <;> omega
        · omega
    obtain ⟨h1, h2⟩ := done_zero htale h0
    have hr := txt_read (T := T) (by omega) (most := 300) (by rw [← htx]; exact h1) (by rw [← hta]; exact h2)
    rw [← hS] at hr
    have hlen : S.size ≤ T.size := by
      have := congrArg List.length hr
      rw [sb_length] at this
      unfold txtL at this
      rw [List.length_append, sb_length] at this
      omega
    have c := refText_any S (by omega) W
    rw [← hr, bs_list] at c
    exact c
  have cf1 : ∀ (W : World) (r : Nat), Rd W r T 0 0 → Calls Try.prog 28 #[.pointer (some ⟨r, 0, none⟩), .int .i64 4] W (RdQ r T 0 4 (.tuple #[]) W) := fun W r hW => fail_any r T 0 0 4 W hW
  have cf2 : ∀ (W : World) (r : Nat), Rd W r T 0 4 → Calls Try.prog 28 #[.pointer (some ⟨r, 0, none⟩), .int .i64 2] W (RdQ r T 0 4 (.tuple #[]) W) := fun W r hW => fail_any r T 0 4 2 W hW
  have cn4 : ∀ (W : World) (r : Nat), Rd W r T 0 4 → Calls Try.prog 16 #[.pointer (some ⟨r, 0, none⟩)] W (RdQ r T 0 4 (.int .u64 0) W) := fun W r hW => by
    have c := rnum_any r T 0 4 W hW
    obtain ⟨e1, e2, e3⟩ := num_err (T := T) (a := 0) (x := 4) (by omega)
    rw [e1, e2, e3] at c
    exact c
  have CC := Box.mk cc; have C1 := Box.mk cread; have C2 := Box.mk cnum; have C3 := Box.mk cdr; have C4 := Box.mk ctx; have C5 := Box.mk cdq; have C6 := Box.mk crn; have C7 := Box.mk crt; have C8 := Box.mk cf1; have C9 := Box.mk cf2; have C10 := Box.mk cn4
  clear cc cread cnum cdr ctx cdq crn crt cf1 cf2 cn4 hT hna hnx hnv hta htx hS hdr hdq hnale hvl hSz
  have BB := Box.mk (Below.refl w.heap.size w)
  rcases Nat.eq_zero_or_pos dr with hd1 | hd1
  · have z1 : ((dr : Int) == 0) = true := by rw [beq_iff_eq]; omega
    rcases Nat.eq_zero_or_pos dq with hd2 | hd2
    · have z2 : ((dq : Int) == 0) = true := by rw [beq_iff_eq]; omega
      have H1 := Box.mk hd1; have H2 := Box.mk hd2
      clear hd1 hd2
      go_enter Try.func6, Try.ntmps6
      go_wp2_with (first
        | (go_at_call 11; refine CC.out.mono ?_; rintro e w' ⟨rfl, rfl⟩)
        | (go_at_call 12; refine (C1.out _).mono ?_; rintro e w1 ⟨rfl, r1, b1⟩; have HS := Box.mk BB.out.size; replace BB := Box.mk (bch BB.out b1); have R := Box.mk r1; clear r1 b1)
        | (go_at_call 16; ((with_reducible refine (C2.out _ _ R.out).mono ?_); rintro e w2 ⟨rfl, r2, o2⟩; replace BB := Box.mk (bch' BB.out (o2.below (B := w.heap.size) HS.out BB.out.size)); have R := Box.mk r2; clear r2 o2))
        | (go_at_call 16; ((with_reducible refine (C10.out _ _ R.out).mono ?_); rintro e w2 ⟨rfl, r2, o2⟩; replace BB := Box.mk (bch' BB.out (o2.below (B := w.heap.size) HS.out BB.out.size)); have R := Box.mk r2; clear r2 o2))
        | (go_at_call 24; ((with_reducible refine (C3.out _ _ R.out).mono ?_); rintro e w2 ⟨rfl, r2, o2⟩; replace BB := Box.mk (bch' BB.out (o2.below (B := w.heap.size) HS.out BB.out.size)); have R := Box.mk r2; clear r2 o2))
        | (go_at_call 24; ((with_reducible refine (C5.out _ _ R.out).mono ?_); rintro e w2 ⟨rfl, r2, o2⟩; replace BB := Box.mk (bch' BB.out (o2.below (B := w.heap.size) HS.out BB.out.size)); have R := Box.mk r2; clear r2 o2))
        | (go_at_call 18; ((with_reducible refine (C4.out _ _ R.out).mono ?_); rintro e w2 ⟨rfl, r2, o2⟩; replace BB := Box.mk (bch' BB.out (o2.below (B := w.heap.size) HS.out BB.out.size)); have R := Box.mk r2; clear r2 o2))
        | (go_at_call 28; ((with_reducible refine (C8.out _ _ R.out).mono ?_); rintro e w2 ⟨rfl, r2, o2⟩; replace BB := Box.mk (bch' BB.out (o2.below (B := w.heap.size) HS.out BB.out.size)); have R := Box.mk r2; clear r2 o2))
        | (go_at_call 28; ((with_reducible refine (C9.out _ _ R.out).mono ?_); rintro e w2 ⟨rfl, r2, o2⟩; replace BB := Box.mk (bch' BB.out (o2.below (B := w.heap.size) HS.out BB.out.size)); have R := Box.mk r2; clear r2 o2))
        | (go_at_call 26; ((with_reducible refine (C6.out H1.out _).mono ?_); rintro e w3 ⟨rfl, b3⟩; replace BB := Box.mk (bch BB.out b3); clear b3))
        | (go_at_call 27; ((with_reducible refine (C7.out H2.out _).mono ?_); rintro e w3 ⟨rfl, b3⟩; replace BB := Box.mk (bch BB.out b3); clear b3))
        | (go_at_call 9; refine (awake4_any _).mono ?_; rintro e w3 ⟨rfl, b3⟩; replace BB := Box.mk (bch BB.out b3); have R9 := Box.mk (rd_below R.out b3); clear b3; have R := R9; clear R9)
        | (go_at_call 21; ((with_reducible refine (at_any _ _ _ _ _ R.out).mono ?_); rintro e w2 ⟨rfl, r2, o2⟩; replace BB := Box.mk (bch' BB.out (o2.below (B := w.heap.size) HS.out BB.out.size)); have R := Box.mk r2; clear r2 o2))
        | (go_at_call 22; ((with_reducible refine (err_any _ _ _ _ _ R.out).mono ?_); rintro e w2 ⟨rfl, r2, o2⟩; replace BB := Box.mk (bch' BB.out (o2.below (B := w.heap.size) HS.out BB.out.size)); have R := Box.mk r2; clear r2 o2)))
      go_ret
      exact ⟨rfl, BB.out⟩
    · have z2 : ((dq : Int) == 0) = false := by rw [beq_eq_false_iff_ne]; omega
      have H1 := Box.mk hd1
      clear hd1
      go_enter Try.func6, Try.ntmps6
      go_wp2_with (first
        | (go_at_call 11; refine CC.out.mono ?_; rintro e w' ⟨rfl, rfl⟩)
        | (go_at_call 12; refine (C1.out _).mono ?_; rintro e w1 ⟨rfl, r1, b1⟩; have HS := Box.mk BB.out.size; replace BB := Box.mk (bch BB.out b1); have R := Box.mk r1; clear r1 b1)
        | (go_at_call 16; ((with_reducible refine (C2.out _ _ R.out).mono ?_); rintro e w2 ⟨rfl, r2, o2⟩; replace BB := Box.mk (bch' BB.out (o2.below (B := w.heap.size) HS.out BB.out.size)); have R := Box.mk r2; clear r2 o2))
        | (go_at_call 16; ((with_reducible refine (C10.out _ _ R.out).mono ?_); rintro e w2 ⟨rfl, r2, o2⟩; replace BB := Box.mk (bch' BB.out (o2.below (B := w.heap.size) HS.out BB.out.size)); have R := Box.mk r2; clear r2 o2))
        | (go_at_call 24; ((with_reducible refine (C3.out _ _ R.out).mono ?_); rintro e w2 ⟨rfl, r2, o2⟩; replace BB := Box.mk (bch' BB.out (o2.below (B := w.heap.size) HS.out BB.out.size)); have R := Box.mk r2; clear r2 o2))
        | (go_at_call 24; ((with_reducible refine (C5.out _ _ R.out).mono ?_); rintro e w2 ⟨rfl, r2, o2⟩; replace BB := Box.mk (bch' BB.out (o2.below (B := w.heap.size) HS.out BB.out.size)); have R := Box.mk r2; clear r2 o2))
        | (go_at_call 18; ((with_reducible refine (C4.out _ _ R.out).mono ?_); rintro e w2 ⟨rfl, r2, o2⟩; replace BB := Box.mk (bch' BB.out (o2.below (B := w.heap.size) HS.out BB.out.size)); have R := Box.mk r2; clear r2 o2))
        | (go_at_call 28; ((with_reducible refine (C8.out _ _ R.out).mono ?_); rintro e w2 ⟨rfl, r2, o2⟩; replace BB := Box.mk (bch' BB.out (o2.below (B := w.heap.size) HS.out BB.out.size)); have R := Box.mk r2; clear r2 o2))
        | (go_at_call 28; ((with_reducible refine (C9.out _ _ R.out).mono ?_); rintro e w2 ⟨rfl, r2, o2⟩; replace BB := Box.mk (bch' BB.out (o2.below (B := w.heap.size) HS.out BB.out.size)); have R := Box.mk r2; clear r2 o2))
        | (go_at_call 26; ((with_reducible refine (C6.out H1.out _).mono ?_); rintro e w3 ⟨rfl, b3⟩; replace BB := Box.mk (bch BB.out b3); clear b3))
        | (go_at_call 27; ((with_reducible refine (C7.out hd2 _).mono ?_); rintro e w3 ⟨rfl, b3⟩; replace BB := Box.mk (bch BB.out b3); clear b3))
        | (go_at_call 9; refine (awake4_any _).mono ?_; rintro e w3 ⟨rfl, b3⟩; replace BB := Box.mk (bch BB.out b3); have R9 := Box.mk (rd_below R.out b3); clear b3; have R := R9; clear R9)
        | (go_at_call 21; ((with_reducible refine (at_any _ _ _ _ _ R.out).mono ?_); rintro e w2 ⟨rfl, r2, o2⟩; replace BB := Box.mk (bch' BB.out (o2.below (B := w.heap.size) HS.out BB.out.size)); have R := Box.mk r2; clear r2 o2))
        | (go_at_call 22; ((with_reducible refine (err_any _ _ _ _ _ R.out).mono ?_); rintro e w2 ⟨rfl, r2, o2⟩; replace BB := Box.mk (bch' BB.out (o2.below (B := w.heap.size) HS.out BB.out.size)); have R := Box.mk r2; clear r2 o2)))
      go_ret
      exact ⟨rfl, BB.out⟩
  · have z1 : ((dr : Int) == 0) = false := by rw [beq_eq_false_iff_ne]; omega
    rcases Nat.eq_zero_or_pos dq with hd2 | hd2
    · have z2 : ((dq : Int) == 0) = true := by rw [beq_iff_eq]; omega
      have H2 := Box.mk hd2
      clear hd2
      go_enter Try.func6, Try.ntmps6
      go_wp2_with (first
        | (go_at_call 11; refine CC.out.mono ?_; rintro e w' ⟨rfl, rfl⟩)
        | (go_at_call 12; refine (C1.out _).mono ?_; rintro e w1 ⟨rfl, r1, b1⟩; have HS := Box.mk BB.out.size; replace BB := Box.mk (bch BB.out b1); have R := Box.mk r1; clear r1 b1)
        | (go_at_call 16; ((with_reducible refine (C2.out _ _ R.out).mono ?_); rintro e w2 ⟨rfl, r2, o2⟩; replace BB := Box.mk (bch' BB.out (o2.below (B := w.heap.size) HS.out BB.out.size)); have R := Box.mk r2; clear r2 o2))
        | (go_at_call 16; ((with_reducible refine (C10.out _ _ R.out).mono ?_); rintro e w2 ⟨rfl, r2, o2⟩; replace BB := Box.mk (bch' BB.out (o2.below (B := w.heap.size) HS.out BB.out.size)); have R := Box.mk r2; clear r2 o2))
        | (go_at_call 24; ((with_reducible refine (C3.out _ _ R.out).mono ?_); rintro e w2 ⟨rfl, r2, o2⟩; replace BB := Box.mk (bch' BB.out (o2.below (B := w.heap.size) HS.out BB.out.size)); have R := Box.mk r2; clear r2 o2))
        | (go_at_call 24; ((with_reducible refine (C5.out _ _ R.out).mono ?_); rintro e w2 ⟨rfl, r2, o2⟩; replace BB := Box.mk (bch' BB.out (o2.below (B := w.heap.size) HS.out BB.out.size)); have R := Box.mk r2; clear r2 o2))
        | (go_at_call 18; ((with_reducible refine (C4.out _ _ R.out).mono ?_); rintro e w2 ⟨rfl, r2, o2⟩; replace BB := Box.mk (bch' BB.out (o2.below (B := w.heap.size) HS.out BB.out.size)); have R := Box.mk r2; clear r2 o2))
        | (go_at_call 28; ((with_reducible refine (C8.out _ _ R.out).mono ?_); rintro e w2 ⟨rfl, r2, o2⟩; replace BB := Box.mk (bch' BB.out (o2.below (B := w.heap.size) HS.out BB.out.size)); have R := Box.mk r2; clear r2 o2))
        | (go_at_call 28; ((with_reducible refine (C9.out _ _ R.out).mono ?_); rintro e w2 ⟨rfl, r2, o2⟩; replace BB := Box.mk (bch' BB.out (o2.below (B := w.heap.size) HS.out BB.out.size)); have R := Box.mk r2; clear r2 o2))
        | (go_at_call 26; ((with_reducible refine (C6.out hd1 _).mono ?_); rintro e w3 ⟨rfl, b3⟩; replace BB := Box.mk (bch BB.out b3); clear b3))
        | (go_at_call 27; ((with_reducible refine (C7.out H2.out _).mono ?_); rintro e w3 ⟨rfl, b3⟩; replace BB := Box.mk (bch BB.out b3); clear b3))
        | (go_at_call 9; refine (awake4_any _).mono ?_; rintro e w3 ⟨rfl, b3⟩; replace BB := Box.mk (bch BB.out b3); have R9 := Box.mk (rd_below R.out b3); clear b3; have R := R9; clear R9)
        | (go_at_call 21; ((with_reducible refine (at_any _ _ _ _ _ R.out).mono ?_); rintro e w2 ⟨rfl, r2, o2⟩; replace BB := Box.mk (bch' BB.out (o2.below (B := w.heap.size) HS.out BB.out.size)); have R := Box.mk r2; clear r2 o2))
        | (go_at_call 22; ((with_reducible refine (err_any _ _ _ _ _ R.out).mono ?_); rintro e w2 ⟨rfl, r2, o2⟩; replace BB := Box.mk (bch' BB.out (o2.below (B := w.heap.size) HS.out BB.out.size)); have R := Box.mk r2; clear r2 o2)))
      go_ret
      exact ⟨rfl, BB.out⟩
    · have z2 : ((dq : Int) == 0) = false := by rw [beq_eq_false_iff_ne]; omega
      go_enter Try.func6, Try.ntmps6
      go_wp2_with (first
        | (go_at_call 11; refine CC.out.mono ?_; rintro e w' ⟨rfl, rfl⟩)
        | (go_at_call 12; refine (C1.out _).mono ?_; rintro e w1 ⟨rfl, r1, b1⟩; have HS := Box.mk BB.out.size; replace BB := Box.mk (bch BB.out b1); have R := Box.mk r1; clear r1 b1)
        | (go_at_call 16; ((with_reducible refine (C2.out _ _ R.out).mono ?_); rintro e w2 ⟨rfl, r2, o2⟩; replace BB := Box.mk (bch' BB.out (o2.below (B := w.heap.size) HS.out BB.out.size)); have R := Box.mk r2; clear r2 o2))
        | (go_at_call 16; ((with_reducible refine (C10.out _ _ R.out).mono ?_); rintro e w2 ⟨rfl, r2, o2⟩; replace BB := Box.mk (bch' BB.out (o2.below (B := w.heap.size) HS.out BB.out.size)); have R := Box.mk r2; clear r2 o2))
        | (go_at_call 24; ((with_reducible refine (C3.out _ _ R.out).mono ?_); rintro e w2 ⟨rfl, r2, o2⟩; replace BB := Box.mk (bch' BB.out (o2.below (B := w.heap.size) HS.out BB.out.size)); have R := Box.mk r2; clear r2 o2))
        | (go_at_call 24; ((with_reducible refine (C5.out _ _ R.out).mono ?_); rintro e w2 ⟨rfl, r2, o2⟩; replace BB := Box.mk (bch' BB.out (o2.below (B := w.heap.size) HS.out BB.out.size)); have R := Box.mk r2; clear r2 o2))
        | (go_at_call 18; ((with_reducible refine (C4.out _ _ R.out).mono ?_); rintro e w2 ⟨rfl, r2, o2⟩; replace BB := Box.mk (bch' BB.out (o2.below (B := w.heap.size) HS.out BB.out.size)); have R := Box.mk r2; clear r2 o2))
        | (go_at_call 28; ((with_reducible refine (C8.out _ _ R.out).mono ?_); rintro e w2 ⟨rfl, r2, o2⟩; replace BB := Box.mk (bch' BB.out (o2.below (B := w.heap.size) HS.out BB.out.size)); have R := Box.mk r2; clear r2 o2))
        | (go_at_call 28; ((with_reducible refine (C9.out _ _ R.out).mono ?_); rintro e w2 ⟨rfl, r2, o2⟩; replace BB := Box.mk (bch' BB.out (o2.below (B := w.heap.size) HS.out BB.out.size)); have R := Box.mk r2; clear r2 o2))
        | (go_at_call 26; ((with_reducible refine (C6.out hd1 _).mono ?_); rintro e w3 ⟨rfl, b3⟩; replace BB := Box.mk (bch BB.out b3); clear b3))
        | (go_at_call 27; ((with_reducible refine (C7.out hd2 _).mono ?_); rintro e w3 ⟨rfl, b3⟩; replace BB := Box.mk (bch BB.out b3); clear b3))
        | (go_at_call 9; refine (awake4_any _).mono ?_; rintro e w3 ⟨rfl, b3⟩; replace BB := Box.mk (bch BB.out b3); have R9 := Box.mk (rd_below R.out b3); clear b3; have R := R9; clear R9)
        | (go_at_call 21; ((with_reducible refine (at_any _ _ _ _ _ R.out).mono ?_); rintro e w2 ⟨rfl, r2, o2⟩; replace BB := Box.mk (bch' BB.out (o2.below (B := w.heap.size) HS.out BB.out.size)); have R := Box.mk r2; clear r2 o2))
        | (go_at_call 22; ((with_reducible refine (err_any _ _ _ _ _ R.out).mono ?_); rintro e w2 ⟨rfl, r2, o2⟩; replace BB := Box.mk (bch' BB.out (o2.below (B := w.heap.size) HS.out BB.out.size)); have R := Box.mk r2; clear r2 o2)))
      go_ret
      exact ⟨rfl, BB.out⟩
end Go.Proofs.Ytakepblcedbimaa
