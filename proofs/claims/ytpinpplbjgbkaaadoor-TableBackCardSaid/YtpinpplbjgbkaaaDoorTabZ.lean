/- Tables: ordeallaw22.TableBack. -/
import Derived.Test.YtpinpplbjgbkaaaDoorTabY
import Derived.BigQuiet
namespace Go.Proofs.YtpinpplbjgbkaaaDoor
set_option maxRecDepth 100000
open Go.RowKit Go.Maps Go.Sort M

theorem bytT_lt (G : List Ent) : ∀ d ∈ bytT G, d < 2 ^ 8 := by
  intro d hd
  rcases List.mem_append.1 hd with h | h
  · exact preL_lt _ _ d h
  · exact shaN_lt _ d h
theorem bytT_len {G : List Ent} (h1 : G.length ≤ 12) (h2 : ∀ x ∈ G, x.text.size ≤ 60) : (bytT G).length ≤ 20000 ∧ 40 ≤ (bytT G).length := by
  unfold bytT encT preL
  rw [List.take_length, List.length_append, List.length_append, List.length_append, shaN_length]
  have a := flat_len G 60 h2
  have b := numL_length G.length
  have c : magL.length = 8 := rfl
  have d : G.length * (41 + 60) ≤ 12 * 101 := Nat.mul_le_mul_right _ h1
  omega
/-- another byte of the seal is another seal -/
theorem seal_bad {G : List Ent} {l : List Nat} {m p z : Nat} (hl : l = bytT G) (hm : l.length = m) (hp : m - 32 ≤ p) (hp2 : p < m) (hz : z ≠ l.getD p 0) :
    (l.set p z).drop (m - 32) ≠ shaN ((l.set p z).take (m - 32)) := by
  have hen : (encT G).length = m - 32 := by
    have h := congrArg List.length hl
    unfold bytT at h
    rw [List.length_append, shaN_length] at h
    omega
  have ht : (l.set p z).take (m - 32) = encT G := by
    rw [List.take_set_of_le hp, hl]
    unfold bytT
    rw [← hen, List.take_left]
  rw [ht]
  intro e
  have hd : l.drop (m - 32) = shaN (encT G) := by
    rw [hl]; unfold bytT; rw [← hen, List.drop_left]
  rw [← hd] at e
  have e2 := congrArg (fun q => q[p - (m - 32)]?) e
  simp only [List.getElem?_drop] at e2
  rw [show m - 32 + (p - (m - 32)) = p by omega, List.getElem?_set_self (by omega)] at e2
  apply hz
  unfold List.getD
  rw [← e2]; rfl

set_option maxRecDepth 100000 in
set_option maxHeartbeats 4000000 in
theorem tableBack_walk (v : Value) (n : Nat) (A B : Nat → ByteArray) (at_ : Int) (by_ : Nat) (w : World) (h : IIn w v n A B) (hn : n ≤ 9223372036854775807) (hby : by_ < 256) (hK : KTab w) :
    Calls Tryd.prog 5 #[v, .int .i64 at_, .int .u8 (by_ : Int)] w fun e w' => e = .returned (.bool true) ∧ Below w.heap.size w w' := by
  obtain ⟨vp, vc, rfl⟩ := h.shape
  have cgr := grow_any _ n A B w h hn hK
  have hk : ∀ W, Below w.heap.size w W → KTab W := fun W h => ktab_below hK h
  have caw := fun W (hb : Below w.heap.size w W) => awake22_any W (hk W hb)
  have CG := Box.mk cgr; have CA := Box.mk caw; have HK := Box.mk hk
  clear cgr caw h hK hk
  go_enter Tryd.func5, Tryd.ntmps5
  go_upto_region 2 with (go_at_call 11; ((with_reducible refine CG.out.mono ?_); rintro e w1 ⟨tb, mo, l, vR, R, rfl, t1, r1, p1, o1, s1, b1, k1, m1⟩; obtain ⟨rp, rc, rfl⟩ := r1.val; have T1 := Box.mk t1; have P1 := Box.mk p1; have S1 := Box.mk s1; have B1 := Box.mk b1; have O1 := Box.mk o1; have R1 := Box.mk r1; clear t1 r1 p1 o1 s1 b1 k1 m1 CG))
  have hll : l.length ≤ 12 := by have := S1.out.length_le; rw [itL_length] at this; omega
  have hRl : R.length ≤ 12 := by have := P1.out.length_eq; omega
  have hlx := itL_text S1.out
  have hRx : ∀ x ∈ R, x.text.size ≤ 60 := fun x hx => hlx x (P1.out.mem_iff.1 hx)
  obtain ⟨L, hL⟩ : ∃ L, L = bytT R := ⟨_, rfl⟩
  obtain ⟨m, hm⟩ : ∃ m, m = L.length := ⟨_, rfl⟩
  have hLb : ∀ d ∈ L, d < 2 ^ 8 := by rw [hL]; exact bytT_lt R
  have hLn : m ≤ 20000 ∧ 40 ≤ m := by rw [hm, hL]; exact bytT_len hRl hRx
  obtain ⟨Sx, hSx⟩ : ∃ S, S = bs L := ⟨_, rfl⟩
  have hsb : sb Sx = L := by rw [hSx]; exact sb_bs L hLb
  have hsz : Sx.size = m := by rw [hSx, bs_size, hm]
  have cbt : ∀ W, Below w1.heap.size w1 W → Calls Tryd.prog 10 #[.pointer (some ⟨tb, 0, none⟩)] W fun e w' => e = .returned (.string Sx) ∧ Below W.heap.size W w' := fun W hb =>
    (tbytes_any tb mo l W (T1.out.below hb) (by omega) (fun x hx => by have := hlx x hx; omega) (HK.out W (B1.out.trans (hb.mono B1.out.size)))).mono fun e w' ⟨ys, h1, h2, h3, h4⟩ => ⟨by rw [h3, rising_one (h1.trans P1.out.symm) h2 O1.out, hSx, hL], h4⟩
  have cps : ∀ W, Below w1.heap.size w1 W → Calls Tryd.prog 8 #[.string Sx] W (ParsG R W) := fun W hb =>
    parseG_any Sx W (by omega) (HK.out W (B1.out.trans (hb.mono B1.out.size))) R (by rw [hsb, hL]) O1.out (fun x hx => by have := hRx x hx; omega) (by omega)
  have csm : ∀ W ub mo2, Below w1.heap.size w1 W → Tab W ub mo2 R.reverse → Calls Tryd.prog 14 #[.pointer (some ⟨ub, 0, none⟩), .slice rp R.length rc] W fun e w' => e = .returned (.int .i64 0) ∧ Below W.heap.size W w' := fun W ub mo2 hb ht =>
    same_any ub mo2 R.reverse R _ W ht (R1.out.below hb) (List.reverse_perm R).symm O1.out (by omega)
  have cbu : ∀ W ub mo2, Below w1.heap.size w1 W → Tab W ub mo2 R.reverse → Calls Tryd.prog 10 #[.pointer (some ⟨ub, 0, none⟩)] W fun e w' => e = .returned (.string Sx) ∧ Below W.heap.size W w' := fun W ub mo2 hb ht =>
    (tbytes_any ub mo2 R.reverse W ht (by rw [List.length_reverse]; omega) (fun x hx => by have := hRx x (List.mem_reverse.1 hx); omega) (HK.out W (B1.out.trans (hb.mono B1.out.size)))).mono fun e w' ⟨ys, h1, h2, h3, h4⟩ => ⟨by rw [h3, rising_one (h1.trans (List.reverse_perm R)) h2 O1.out, hSx, hL], h4⟩
  have sb1 := str_beq Sx Sx
  rw [decide_eq_true rfl] at sb1
  have hlen : ((Sx.size : Nat) : Int) = (m : Int) := by rw [hsz]
  have wm : IntKind.i64.wrap ((m : Int) - 32) = ((m - 32 : Nat) : Int) := by rw [IntWalk.i64_in _ (by omega)]; omega
  have hsl : ∀ W, (Builtin.len_ #[9] 3 #[.string Sx]).run Tryd.prog W = .ok (.int .i64 (m : Int)) W := fun W => by
    rw [← hsz]
    simp [Builtin.len_, run_underlying Tryd.underlying9, Result.andThen]
    rfl
  have CBT := Box.mk cbt; have CPS := Box.mk cps; have CSM := Box.mk csm; have CBU := Box.mk cbu; have HL := Box.mk hL; have HM := Box.mk hm; have HSB := Box.mk hsb; have HSZ := Box.mk hsz; have HLB := Box.mk hLb
  clear cbt cps csm cbu hL hm hsb hsz hLb hlx hRx hSx
  go_upto_region 6 with (first
    | (go_at_call 10; ((with_reducible refine (CBT.out _ (Below.refl _ _)).mono ?_); rintro e w2 ⟨rfl, b2⟩; have X2 := Box.mk b2; clear b2 CBT))
    | (go_at_call 8; ((with_reducible refine (CPS.out _ X2.out).mono ?_); rintro e w3 ⟨b3, ub, mo2, rfl, t3⟩; have X3 := Box.mk (belT X2.out b3); have T3 := Box.mk t3; clear b3 t3))
    | (go_at_call 14; ((with_reducible refine (CSM.out _ _ _ X3.out T3.out).mono ?_); rintro e w4 ⟨rfl, b4⟩; have X4 := Box.mk (belT X3.out b4); have T4 := Box.mk (T3.out.below b4); clear b4))
    | (go_at_call 10; ((with_reducible refine (CBU.out _ _ _ X4.out T4.out).mono ?_); rintro e w5 ⟨rfl, b5⟩; have X5 := Box.mk (belT X4.out b5); clear b5)))
  obtain ⟨k, hkk⟩ : ∃ k, k = m - 32 := ⟨_, rfl⟩
  have wm2 : IntKind.i64.wrap ((m : Int) - 32) = (k : Int) := by rw [wm, hkk]
  have wm3 : (m : Int) - 32 = (k : Int) := by omega
  clear wm
  by_cases hc : (k : Int) ≤ at_ ∧ at_ < (m : Int) ∧ by_ ≠ 0
  · obtain ⟨ha1, ha2, hb0⟩ := hc
    obtain ⟨p, rfl⟩ : ∃ p : Nat, at_ = (p : Int) := ⟨at_.toNat, by omega⟩
    have hp1 : k ≤ p := by omega
    have hp2 : p < m := by omega
    obtain ⟨cap, W6, hcv, hrow, hb6, hlt6⟩ := str_row w5 Sx
    rw [HSZ.out] at hcv hrow
    rw [HSB.out] at hrow
    obtain ⟨d, hd⟩ : ∃ d, d = L.getD p 0 := ⟨_, rfl⟩
    have hd8 : d < 256 := by rw [hd]; exact HLB.out _ (getD_mem (by rw [← HM.out]; exact hp2))
    obtain ⟨z, hz⟩ : ∃ z, z = d ^^^ by_ := ⟨_, rfl⟩
    have hz8 : z < 2 ^ 8 := by rw [hz]; exact Nat.xor_lt_two_pow hd8 hby
    have hzd : z ≠ d := fun e => hb0 (by
      have h1 : d ^^^ (d ^^^ by_) = d ^^^ d := by rw [← hz, e]
      rwa [← Nat.xor_assoc, Nat.xor_self, Nat.zero_xor] at h1)
    have hx8 : bits BinOp.xor IntKind.u8 (d : Int) (by_ : Int) = (z : Int) := by rw [hz]; exact u8_xor_nat _ _ hd8 hby
    have q0 : W6.cell? ⟨w5.heap.size, p, none⟩ = some (.int .u8 (d : Int)) := by rw [hrow.cell p hp2, hd]
    have f0 : W6.frozen? ⟨w5.heap.size, p, none⟩ = false := hrow.free p hp2
    obtain ⟨W7, hW7⟩ : ∃ W, W = W6.setCell ⟨w5.heap.size, p, none⟩ (.int .u8 (z : Int)) := ⟨_, rfl⟩
    have hr7 : RowB W7 w5.heap.size m (L.set p z) := by rw [hW7]; exact hrow.set p z hp2
    obtain ⟨S2, hS2⟩ : ∃ S, S = bs (L.set p z) := ⟨_, rfl⟩
    have hcv2 : (convert 26 9 (.slice (some ⟨w5.heap.size, 0, none⟩) m cap)).run Tryd.prog W7 = .ok (.string S2) W7 := by rw [hS2]; exact conv_row hr7
    have x5 := B1.out.trans (X5.out.mono B1.out.size)
    have x6 : Below w.heap.size w W6 := x5.trans (hb6.mono x5.size)
    have x7 : Below w.heap.size w W7 := by rw [hW7]; exact x6.setCell (p := ⟨w5.heap.size, p, none⟩) x5.size _
    have hs2b : sb S2 = L.set p z := by
      rw [hS2]; refine sb_bs _ fun y hy => ?_
      rcases List.mem_or_eq_of_mem_set hy with e | e
      · exact HLB.out y e
      · rw [e]; exact hz8
    have hs2z : S2.size = m := by rw [hS2, bs_size, List.length_set, ← HM.out]
    have cpb : Calls Tryd.prog 8 #[.string S2] W7 fun e w' => e = .returned (.tuple #[.pointer none, .int .i64 4]) ∧ Below W7.heap.size W7 w' :=
      parseB_any S2 W7 (by omega) (HK.out W7 x7) (by omega) (by rw [hs2b, hs2z]; exact seal_bad HL.out HM.out.symm (by omega) hp2 (by rw [← hd]; exact hzd))
    have CPB := Box.mk cpb; have X7 := Box.mk x7; have HW7 := Box.mk hW7
    have e1 : ((p : Int) < (k : Int)) = False := eq_false (by omega)
    have e2 : ((m : Int) ≤ (p : Int)) = False := eq_false (by omega)
    have e3 : ((by_ : Int) == 0) = false := by simp; omega
    have e4 : ((by_ : Int) = 0) = False := eq_false (by omega)
    have e5 : (by_ = 0) = False := eq_false hb0
    have e6 : (m ≤ p) = False := eq_false (by omega)
    have e7 : (p < k) = False := eq_false (by omega)
    clear cpb x5 x6 x7 hW7 hs2b hs2z hr7 hS2 hzd hz8 hz hd8 hd hrow hb6 hlt6 hb0 ha1 ha2 CPS CSM CBU
    go_upto_region 10 with fail
    rw [← HW7.out]
    go_wp2_with (first
      | (go_at_call 8; ((with_reducible refine CPB.out.mono ?_); rintro e w8 ⟨rfl, b8⟩; have X8 := Box.mk (belT X7.out b8); clear b8 CPB))
      | (go_at_call 9; ((with_reducible refine (CA.out _ X8.out).mono ?_); rintro e w9 ⟨rfl, b9⟩; have X9 := Box.mk (belT X8.out b9); clear b9)))
    go_ret
    exact ⟨rfl, X9.out⟩
  · have x5 := B1.out.trans (X5.out.mono B1.out.size)
    have XX := Box.mk x5
    clear x5 CPS CSM CBU
    by_cases h1 : at_ < (k : Int)
    · have e1 : (at_ < (k : Int)) = True := eq_true h1
      clear hc
      go_wp2_with (go_at_call 9; ((with_reducible refine (CA.out _ XX.out).mono ?_); rintro e w9 ⟨rfl, b9⟩; have X9 := Box.mk (belT XX.out b9); clear b9))
      go_ret
      exact ⟨rfl, X9.out⟩
    · have e1 : (at_ < (k : Int)) = False := eq_false h1
      by_cases h2 : (m : Int) ≤ at_
      · have e2 : ((m : Int) ≤ at_) = True := eq_true h2
        clear hc
        go_wp2_with (go_at_call 9; ((with_reducible refine (CA.out _ XX.out).mono ?_); rintro e w9 ⟨rfl, b9⟩; have X9 := Box.mk (belT XX.out b9); clear b9))
        go_ret
        exact ⟨rfl, X9.out⟩
      · have e2 : ((m : Int) ≤ at_) = False := eq_false h2
        obtain rfl : by_ = 0 := Classical.byContradiction fun e => hc ⟨by omega, by omega, e⟩
        clear hc
        go_wp2_with (go_at_call 9; ((with_reducible refine (CA.out _ XX.out).mono ?_); rintro e w9 ⟨rfl, b9⟩; have X9 := Box.mk (belT XX.out b9); clear b9))
        go_ret
        exact ⟨rfl, X9.out⟩
end Go.Proofs.YtpinpplbjgbkaaaDoor
