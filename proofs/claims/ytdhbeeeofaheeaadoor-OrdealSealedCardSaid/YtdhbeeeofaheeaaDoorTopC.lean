/- The theorems through the layers: OrdealSealed. -/
import Derived.Test.YtdhbeeeofaheeaaDoorPackK
import Derived.Test.YtdhbeeeofaheeaaDoorTopA
import Derived.Deep.RegionWith
import Derived.Deep.RegionHeld3
import Derived.OpenShut
import Derived.Carry
namespace Go.Proofs.YtdhbeeeofaheeaaDoor
set_option maxRecDepth 100000
open Go.RowKit M

section
variable {T : ByteArray} {A M B : List Nat}
theorem tb_mid (hT : sb T = A ++ (M ++ B)) : A.length + M.length ≤ T.size ∧ ((sb T).drop A.length).take M.length = M := by
  constructor
  · have h := congrArg List.length hT
    rw [sb_length, List.length_append, List.length_append] at h; omega
  · rw [hT, List.drop_left, List.take_left]
theorem tb_raw (hT : sb T = A ++ (M ++ B)) : rawA T A.length 0 (M.length : Int) = A.length + M.length ∧ rawX T A.length 0 (M.length : Int) = 0 ∧ sb (rawS T A.length 0 (M.length : Int)) = M := by
  obtain ⟨h1, h2⟩ := tb_mid hT
  have c : 0 ≤ (M.length : Int) ∧ (M.length : Int) ≤ ((T.size - A.length : Nat) : Int) := by omega
  refine ⟨?_, ?_, ?_⟩
  · unfold rawA; rw [if_pos ⟨rfl, c⟩, Int.toNat_natCast]
  · unfold rawX; rw [if_pos rfl, if_pos c]
  · unfold rawS; rw [if_pos ⟨rfl, c⟩, Int.toNat_natCast, sb_part _ _ _ h1, Nat.add_sub_cancel_left, h2]
theorem tb_fix {k : Nat} (hT : sb T = A ++ (M ++ B)) (hk : M.length = k) : fixU T A.length 0 k = un M := by
  unfold fixU
  rw [← hk, (tb_raw hT).2.2]
end
theorem tb_num {T : ByteArray} {A B : List Nat} {v : Nat} (hv : v < 18446744073709551616) (hT : sb T = A ++ (numL v ++ B)) :
    numA T A.length 0 = A.length + (numL v).length ∧ numX T A.length 0 = 0 ∧ numV T A.length 0 = v := by
  by_cases h : v < 248
  · have e : numL v = [v] := by unfold numL; rw [if_pos h]
    rw [e] at hT ⊢
    have f := tb_fix (k := 1) hT rfl
    rw [un_one] at f
    obtain ⟨h1, h2, _⟩ := tb_raw hT
    refine ⟨?_, ?_, ?_⟩
    · unfold numA; rw [f, if_pos h]; exact h1
    · unfold numX; rw [f, if_pos h]; exact h2
    · unfold numV; rw [f, if_pos h]
  · have hz := szN_bd v
    have e : numL v = (247 + szN v) :: fx (szN v) v := by unfold numL; rw [if_neg h]
    rw [e] at hT ⊢
    have hT1 : sb T = A ++ ([247 + szN v] ++ (fx (szN v) v ++ B)) := by rw [hT]; simp
    have hT2 : sb T = (A ++ [247 + szN v]) ++ (fx (szN v) v ++ B) := by rw [hT]; simp
    have f := tb_fix (k := 1) hT1 rfl
    rw [un_one] at f
    obtain ⟨h1, h2, _⟩ := tb_raw hT1
    have h1 : rawA T A.length 0 1 = A.length + 1 := h1
    have h2 : rawX T A.length 0 1 = 0 := h2
    have g0 := tb_raw hT2
    have g3 := tb_fix hT2 (fx_length (szN v) v)
    have hl : (A ++ [247 + szN v]).length = A.length + 1 := by simp
    rw [hl, fx_length] at g0
    rw [hl, un_fx, Nat.mod_eq_of_lt (szN_lt hv)] at g3
    obtain ⟨g1, g2, _⟩ := g0
    have hE : numE T A.length 0 = 0 := by
      unfold numE
      rw [f, Nat.add_sub_cancel_left, h1, h2, g3, g2, if_neg (by omega)]
    have hn : ¬ 247 + szN v < 248 := by omega
    refine ⟨?_, ?_, ?_⟩
    · unfold numA
      rw [f, if_neg hn, hE, if_pos rfl, Nat.add_sub_cancel_left, h1, h2, g1]
      simp [fx_length]; omega
    · unfold numX; rw [f, if_neg hn, hE]
    · unfold numV; rw [f, if_neg hn, hE, if_pos rfl, Nat.add_sub_cancel_left, h1, h2, g3]

/-- a slice of numbers that came in -/
structure UIn (w : World) (v : Value) (n : Nat) (V : Nat → Nat) : Prop where
  shape : ∃ p c, v = .slice p n c
  cells : 0 < n → ∃ b off c, v = .slice (some ⟨b, off, none⟩) n c ∧ b < w.heap.size ∧ ∀ i, i < n → w.cell? ⟨b, off + i, none⟩ = some (.int .u64 ((V i : Nat) : Int))
  vb : ∀ i, i < n → V i < 18446744073709551616
theorem UIn.below {w w' : World} {v : Value} {n : Nat} {V : Nat → Nat} (h : UIn w v n V) (hb : Below w.heap.size w w') : UIn w' v n V :=
  ⟨h.shape, fun hn => by
    obtain ⟨b, off, c, hv, hlt, hc⟩ := h.cells hn
    exact ⟨b, off, c, hv, Nat.lt_of_lt_of_le hlt hb.size, fun i hi => by rw [hb.cell hlt]; exact hc i hi⟩, h.vb⟩

/-- a number as an int64, and folded -/
def i64N (v : Nat) : Int := if v < 9223372036854775808 then (v : Int) else (v : Int) - 18446744073709551616
theorem i64N_wrap {v : Nat} (hv : v < 18446744073709551616) : IntKind.i64.wrap (v : Int) = i64N v := by
  rw [IntKind.wrap_i64]
  unfold i64N
  split <;> omega
theorem i64N_bd {v : Nat} (hv : v < 18446744073709551616) : -9223372036854775808 ≤ i64N v ∧ i64N v ≤ 9223372036854775807 := by
  unfold i64N; split <;> omega
def fdN (v : Nat) : Nat := (foldI (i64N v)).toNat
theorem fdN_eq (v : Nat) : foldI (i64N v) = (fdN v : Int) := by
  obtain ⟨m, hm⟩ := fold_nonneg (i64N v)
  unfold fdN
  rw [hm, Int.toNat_natCast]
theorem fdN_lt {v : Nat} (hv : v < 18446744073709551616) : fdN v < 18446744073709551616 := by
  have h := i64N_bd hv
  have e := fdN_eq v
  unfold foldI at e
  split at e <;> omega
theorem fdN_back (v : Nat) : unfoldI (fdN v) = i64N v := unfold_fold (fdN_eq v)
/-- the numbers' bytes -/
def pkN (V : Nat → Nat) : Nat → List Nat
  | 0 => []
  | k + 1 => pkN V k ++ numL (fdN (V k))
theorem pkN_length (V : Nat → Nat) : ∀ k, (pkN V k).length ≤ 9 * k
  | 0 => by simp [pkN]
  | k + 1 => by
    have h1 := pkN_length V k
    have h2 := (numL_length (fdN (V k))).2
    simp only [pkN, List.length_append]; omega
theorem pkN_lt (V : Nat → Nat) : ∀ k, ∀ d ∈ pkN V k, d < 2 ^ 8
  | 0, d, h => by cases h
  | k + 1, d, h => by
    rcases List.mem_append.1 h with h | h
    · exact pkN_lt V k d h
    · exact numL_lt _ d h
theorem pkN_prefix {V : Nat → Nat} {k : Nat} : ∀ m, k < m → ∃ B, pkN V m = pkN V k ++ (numL (fdN (V k)) ++ B)
  | 0, h => by omega
  | m + 1, h => by
    rcases Nat.lt_or_ge k m with h1 | h1
    · obtain ⟨B, hB⟩ := pkN_prefix m h1 (V := V)
      exact ⟨B ++ numL (fdN (V m)), by rw [pkN, hB]; simp⟩
    · obtain rfl : k = m := by omega
      exact ⟨[], by rw [pkN, List.append_nil]⟩

theorem conv_range {w : World} {g n cap : Nat} {l : List Nat} (hl : l.length = n) (h : w.rangeAt g 0 (byts l)) :
    (convert 38 9 (.slice (some ⟨g, 0, none⟩) n cap)).run Tryd.prog w = .ok (.string (bs l)) w := by
  refine run_convert_bytes_arg (P := Tryd.prog) w 38 5 Tryd.underlying38 Tryd.underlying5 g 0 n cap (l.map fun n => ((n : Nat) : Int)) (by simp [hl]) (fun i hi => ?_) 9 Tryd.underlying9
  have hi' : i < l.length := by omega
  have hg : (byts l)[i]? = some (.int .u8 ((l.getD i 0 : Nat) : Int)) := by simp [byts, List.getD, hi']
  have hc := h i _ hg
  rw [Nat.zero_add] at hc
  rw [Nat.zero_add, hc]
  simp [List.getD, hi']
theorem ext_range {w w' : World} {b g : Nat} {v v' : Value} {l : List Nat} (x : Ext b v v' w w') (h : w.rangeAt g 0 (byts l)) (h1 : g ≠ b) (h2 : v.ownBlock ≠ some g) : w'.rangeAt g 0 (byts l) := fun j u hu => by
  have hc := h j u hu
  have hlt : g < w.heap.size := World.block_lt_of_cell? w _ hc
  rw [World.cell?_of_block (w := w) (x.block g hlt h1 h2)]; exact hc
theorem rd_belowB {B : Nat} {w w' : World} {b : Nat} {T : ByteArray} {a x : Nat} (h : Rd w b T a x) (hb : Below B w w') (hlt : b < B) : Rd w' b T a x := by
  exact ⟨by rw [hb.cell (p := ⟨b, 0, none⟩) hlt]; exact h.c0, by rw [hb.cell (p := ⟨b, 1, none⟩) hlt]; exact h.c1, by rw [hb.cell (p := ⟨b, 2, none⟩) hlt]; exact h.c2, by rw [hb.frozen (p := ⟨b, 1, none⟩) hlt]; exact h.f1, by rw [hb.frozen (p := ⟨b, 2, none⟩) hlt]; exact h.f2, h.le, h.sz⟩

theorem onl_range {w w' : World} {r g : Nat} {l : List Value} (o : Onl r w w') (h : w.rangeAt g 0 l) (hne : g ≠ r) : w'.rangeAt g 0 l := fun j u hu => by
  have hc := h j u hu
  have hlt : g < w.heap.size := World.block_lt_of_cell? w _ hc
  rw [World.cell?_of_block (w := w) (o.block g hlt hne)]; exact hc
set_option maxRecDepth 100000 in
set_option maxHeartbeats 2500000 in
theorem ordealSealed_walk (p : Option Addr) (n c : Nat) (V : Nat → Nat) (cut : Int) (hn : n ≤ 9223372036854775807) (w : World) (hK : KTab w) (hH : Halves w) (hT : Tab64 w) (hI : UIn w (.slice p n c) n V) :
    Calls Tryd.prog 6 #[.slice p n c, .int .i64 cut] w fun e w' => e = .returned (.bool true) ∧ Below w.heap.size w w' := by
  have HI := Box.mk hI
  have clv := live_any w hK hH hT
  have HK := Box.mk hK; have HH := Box.mk hH
  clear hI hT hK hH
  obtain ⟨m, hm⟩ : ∃ m, m = min n 20 := ⟨_, rfl⟩
  have hmn : m ≤ n := by omega
  have hm20 : m ≤ 20 := by omega
  have hmin : min (n : Int) 20 = (m : Int) := by omega
  have hPl := pkN_length V m
  have hPb := pkN_lt V m
  obtain ⟨P, hP⟩ : ∃ P, P = pkN V m := ⟨_, rfl⟩
  rw [← hP] at hPl hPb
  have hsb : sb (bs P) = P := sb_bs _ hPb
  have hs1 : (bs P).size = P.length := bs_size _
  obtain ⟨D, hD⟩ : ∃ D, D = shaN P := ⟨_, rfl⟩
  have hDl : D.length = 32 := by rw [hD]; exact shaN_length P
  have hDb : ∀ d ∈ D, d < 256 := by rw [hD]; exact shaN_lt P
  obtain ⟨C, hC⟩ : ∃ C, C = ofN P := ⟨_, rfl⟩
  have hCl : C < 4294967296 := by rw [hC]; exact more_lt _ _
  have ch := fun W h => shaOf_any (bs P) (by omega) W h
  rw [hsb, ← hD] at ch
  have cc := fun W h => crcOf_any (bs P) (by omega) W h
  rw [hsb, ← hC] at cc
  obtain ⟨s, hs⟩ : ∃ s, s = bs P := ⟨_, rfl⟩
  rw [← hs] at ch cc hs1 hsb
  have hs180 : s.size ≤ 180 := by omega
  obtain ⟨TT, hTT⟩ : ∃ TT, TT = bs (P ++ (fx 4 C ++ D)) := ⟨_, rfl⟩
  have hTb : ∀ d ∈ P ++ (fx 4 C ++ D), d < 2 ^ 8 := fun d hd => by
    rcases List.mem_append.1 hd with h | h
    · exact hPb d h
    · rcases List.mem_append.1 h with h | h
      · exact fx_lt _ _ d h
      · exact hDb d h
  have hTs : sb TT = P ++ (fx 4 C ++ D) := by rw [hTT]; exact sb_bs _ hTb
  have hTz : TT.size = P.length + 36 := by rw [hTT, bs_size]; simp [fx_length, hDl]
  have nC : IntKind.u64.wrap (C : Int) = (C : Int) := u64small (by omega)
  have CL := Box.mk clv; have CH := Box.mk ch; have CC := Box.mk cc; have HP := Box.mk hP; have HPB := Box.mk hPb; have HSB := Box.mk hsb; have HS := Box.mk hs; have HS1 := Box.mk hs1
  have HD := Box.mk hD; have HDL := Box.mk hDl; have HDB := Box.mk hDb; have HC := Box.mk hC; have HTT := Box.mk hTT; have HTS := Box.mk hTs; have HTZ := Box.mk hTz; have HPL := Box.mk hPl
  have hT216 : TT.size ≤ 216 := by omega
  have HM := Box.mk hm
  clear clv ch cc hP hPb hsb hs hs1 hD hDl hDb hC hTT hTb hTs hTz hPl hm
  go_enter Tryd.func6, Tryd.ntmps6
  go_wp2_with (go_at_call 25; ((with_reducible refine CL.out.mono ?_); rintro e w1 ⟨rfl, b1⟩; have B1 := Box.mk b1; have W0 := Box.mk (wr_new w1 w1.heap.size rfl); have BA := Box.mk (b1.alloc b1.size (.cells #[.slice none 0 0] 53)); clear b1))
  obtain ⟨wb, hwb⟩ : ∃ b, b = w1.heap.size := ⟨_, rfl⟩
  have hwbw : w.heap.size ≤ wb := by rw [hwb]; exact B1.out.size
  rw [← hwb] at W0 ⊢
  clear hwb CL B1
  go_loopw [7] (fun i wr => ∃ (k : Nat) (v1 : Value), k ≤ m ∧ i = .int .i64 (k : Int) ∧ Box (Wr wr wb (pkN V k) v1) ∧ Box (Below w.heap.size w wr))
    (fun i _ => m - (intOf i).toNat)
  case atStart => exact ⟨0, _, by omega, rfl, W0, BA⟩
  case round =>
    obtain ⟨k, v1, hkm, rfl, hw, hb⟩ := hrel
    clear W0 BA
    by_cases hlt : k < m
    · obtain ⟨b, off, c', hv, hbl, hcell⟩ := HI.out.cells (by omega)
      obtain ⟨rfl, _, rfl⟩ := Value.slice.inj hv
      have e0 : wr.cell? ⟨b, off + k, none⟩ = some (.int .u64 ((V k : Nat) : Int)) := by rw [hb.out.cell hbl]; exact hcell k (by omega)
      have hvb := HI.out.vb k (by omega)
      have hal := pkN_length V k
      have hz := i64N_wrap hvb
      have hzb := i64N_bd hvb
      have cf := fun W => wordFold_any (i64N (V k)) hzb.1 hzb.2 W
      rw [fdN_eq] at cf
      have cn := num_any wb (pkN V k) v1 (fdN (V k)) (fdN_lt hvb) wr hw.out (by omega)
      have hac : pkN V (k + 1) = pkN V k ++ numL (fdN (V k)) := rfl
      have hfl := fdN_lt hvb
      generalize fdN (V k) = F at *
      generalize i64N (V k) = z at *
      generalize V k = Vk at *
      have CF := Box.mk cf; have CN := Box.mk cn; have HAC := Box.mk hac
      clear cf cn hac hcell hv hal
      go_wp2_with (first
        | (go_at_call 27; ((with_reducible refine (CF.out _).mono ?_); rintro e w' ⟨rfl, rfl⟩))
        | (go_at_call 26; ((with_reducible refine CN.out.mono ?_); rintro e w2 ⟨rfl, v2, q2, x2⟩; have Q2 := Box.mk q2; have B2 := Box.mk (bch' hb.out (x2.below (B := w.heap.size) hwbw hb.out.size (fun k hk => wr_ge hw.out k hk))); clear q2 x2)))
      go_roundw
      case rel => exact ⟨k + 1, v2, by omega, by go_num, ⟨by rw [HAC.out]; exact Q2.out⟩, B2⟩
      case measure => simp [intOf]; omega
    · obtain rfl : k = m := by omega
      rw [← HP.out] at hw
      have cb := bytes_any wb P v1 wr hw.out
      rw [← HS.out] at cb
      have hown : ∀ g, v1.ownBlock = some g → g < wr.heap.size := fun g hg => (hw.out.own.lt g hg).2
      have hwl : wb < wr.heap.size := World.block_lt_of_cell? wr _ hw.out.cell
      have CB := Box.mk cb; have HOWN := Box.mk hown
      clear cb hown
      have cx : ∀ W, Wr W wb P v1 → Calls Tryd.prog 29 #[.pointer (some ⟨wb, 0, none⟩), .int .u64 C, .int .i64 4] W (WrP wb (P ++ fx 4 C) v1 W) := fun W hW => by
        have c := wfixed_any wb P v1 C (by omega) 4 W hW (by have := HPL.out; omega)
        rw [show cl18 4 = 4 by decide] at c; exact c
      have cr : ∀ W v, Wr W wb (P ++ fx 4 C) v → Calls Tryd.prog 31 #[.pointer (some ⟨wb, 0, none⟩), .string (bs D)] W (WrP wb (P ++ (fx 4 C ++ D)) v W) := fun W v hW => by
        have c := raw_any wb _ v (bs D) W hW (by rw [bs_size, HDL.out, List.length_append, fx_length]; have := HPL.out; omega)
        rw [sb_bs _ HDB.out, List.append_assoc] at c; exact c
      have cbb : ∀ W v, Wr W wb (P ++ (fx 4 C ++ D)) v → Calls Tryd.prog 28 #[.pointer (some ⟨wb, 0, none⟩)] W fun e w' => e = .returned (.string TT) ∧ W = w' := fun W v hW => by
        rw [HTT.out]; exact bytes_any wb _ v W hW
      have crd := fun W => read_any TT (by omega) W
      have sD : (bs D).size ≤ 32 := by rw [bs_size, HDL.out]; omega
      have CX := Box.mk cx; have CR := Box.mk cr; have CBB := Box.mk cbb; have CRD := Box.mk crd
      clear cx cr cbb crd
      go_upto_region 14 with (first
        | (go_at_call 28; ((with_reducible refine CB.out.mono ?_); rintro e w' ⟨rfl, rfl⟩))
        | (go_at_call 18; ((with_reducible refine (CH.out _ (ktab_below HK.out hb.out)).mono ?_); rintro e wa ⟨rfl, ba⟩; have BA := Box.mk (bch hb.out ba); have WA := Box.mk (hw.out.below ba); have hga := ba.size; clear ba))
        | ((with_reducible refine at_store 36 (.tmp 9) (.tmp 36) ?_)
           refine wpList_store_mid rfl 36 (.tmp 9) (.tmp 36) rfl wa.heap.size 0 (byts D).toArray rfl rfl (hash_there (there_new wa 36 (byts (List.replicate 32 0)) _ 0 32 rfl (by decide)) HDL.out) (hash_size HDL.out) (all_oneCell_toArray (byts_one _)) ?_
           have y1 : ((wa.alloc (.cells (byts (List.replicate 32 0)).toArray 36)).setCells wa.heap.size 0 (byts D)).rangeAt wa.heap.size 0 (byts D) := World.rangeAt_setCells_same _ _ _ _ (by rw [byts_length, HDL.out]; exact there_new wa 36 (byts (List.replicate 32 0)) _ 0 32 rfl (by decide))
           have y2 : Below w.heap.size w ((wa.alloc (.cells (byts (List.replicate 32 0)).toArray 36)).setCells wa.heap.size 0 (byts D)) := below_setCells BA.out.size _ _ _ _ (BA.out.alloc BA.out.size _)
           have y3 : Wr ((wa.alloc (.cells (byts (List.replicate 32 0)).toArray 36)).setCells wa.heap.size 0 (byts D)) wb P v1 := WA.out.below (below_setCells (Nat.le_refl _) _ _ _ _ ((Below.refl _ _).alloc (Nat.le_refl _) _))
           change wpList _ _ _ _ _ ((wa.alloc (.cells (byts (List.replicate 32 0)).toArray 36)).setCells wa.heap.size 0 (byts D))
           generalize (wa.alloc (.cells (byts (List.replicate 32 0)).toArray 36)).setCells wa.heap.size 0 (byts D) = W2 at y1 y2 y3 ⊢
           obtain ⟨hb', hhb⟩ : ∃ b, b = wa.heap.size := ⟨_, rfl⟩
           rw [← hhb] at y1 hga ⊢
           have Y1 := Box.mk y1; have Y2 := Box.mk y2; have Y3 := Box.mk y3
           have nwb : hb' ≠ wb := by omega
           have nown : v1.ownBlock ≠ some hb' := fun e => by have := HOWN.out _ e; omega
           have NOWN := Box.mk nown
           clear y1 y2 y3 hhb nown)
        | (go_at_call 30; ((with_reducible refine (CC.out _ (halves_below HH.out Y2.out)).mono ?_); rintro e w' ⟨rfl, rfl⟩))
        | (go_at_call 29; ((with_reducible refine (CX.out _ Y3.out).mono ?_); rintro e w3 ⟨rfl, v3, q3, x3⟩; have Q3 := Box.mk q3; have X3 := Box.mk x3; have R3 := Box.mk (ext_range x3 Y1.out nwb NOWN.out); have hcv := conv_range (cap := 32) HDL.out R3.out; have B3 := Box.mk (bch' Y2.out (x3.below (B := w.heap.size) hwbw Y2.out.size (fun k hk => wr_ge Y3.out k hk))); clear q3 x3))
        | (go_at_call 31; ((with_reducible refine (CR.out _ _ Q3.out).mono ?_); rintro e w4 ⟨rfl, v4, q4, x4⟩; have Q4 := Box.mk q4; have B4 := Box.mk (bch' B3.out (x4.below (B := w.heap.size) hwbw B3.out.size (fun k hk => wr_ge Q3.out k hk))); clear q4 x4))
        | (go_at_call 28; ((with_reducible refine (CBB.out _ _ Q4.out).mono ?_); rintro e w' ⟨rfl, rfl⟩))
        | (go_at_call 32; ((with_reducible refine (CRD.out _).mono ?_); rintro e w5 ⟨rfl, r5, b5⟩; have R5 := Box.mk r5; have B5 := Box.mk (bch B4.out b5); have hrb0 := Nat.le_trans B4.out.size (Nat.le_refl _); clear r5 b5)))
      obtain ⟨rb, hrb⟩ : ∃ b, b = w4.heap.size := ⟨_, rfl⟩
      rw [← hrb] at R5 hrb0 ⊢
      clear hrb CX CR CBB CRD CB WA BA Y1 Y2 Y3 Q3 X3 R3 hcv B3 Q4 B4 NOWN HOWN hw hb
      go_wp2_with fail
      go_loopw [11] (fun i wx => ∃ j : Nat, j ≤ k ∧ i = .int .i64 (j : Int) ∧ Box (Rd wx rb TT (pkN V j).length 0) ∧ Box (Below w.heap.size w wx))
        (fun i _ => k - (intOf i).toNat)
      case atStart => exact ⟨0, by omega, rfl, R5, B5⟩
      case round =>
        obtain ⟨j, hjk, rfl, hr, hb⟩ := hrel
        clear R5 B5
        by_cases hlt2 : j < k
        · obtain ⟨b, off, c', hv, hbl, hcell⟩ := HI.out.cells (by omega)
          obtain ⟨rfl, _, rfl⟩ := Value.slice.inj hv
          have e0 : wr.cell? ⟨b, off + j, none⟩ = some (.int .u64 ((V j : Nat) : Int)) := by rw [hb.out.cell hbl]; exact hcell j (by omega)
          have hvb := HI.out.vb j (by omega)
          obtain ⟨BB, hpre⟩ := pkN_prefix k hlt2 (V := V)
          have hT2 : sb TT = pkN V j ++ (numL (fdN (V j)) ++ (BB ++ (fx 4 C ++ D))) := by rw [HTS.out, HP.out, hpre]; simp [List.append_assoc]
          have hfl := fdN_lt hvb
          obtain ⟨g1, g2, g3⟩ := tb_num hfl hT2
          have hz := i64N_wrap hvb
          have c1 : ∀ W, Rd W rb TT (pkN V j).length 0 → Calls Tryd.prog 34 #[.pointer (some ⟨rb, 0, none⟩)] W (RdQ rb TT ((pkN V j).length + (numL (fdN (V j))).length) 0 (.int .u64 ((fdN (V j) : Nat) : Int)) W) := fun W hW => by
            have h := rnum_any rb TT (pkN V j).length 0 W hW
            rw [g1, g2, g3] at h; exact h
          have c2 : ∀ W, Calls Tryd.prog 33 #[.int .u64 ((fdN (V j) : Nat) : Int)] W fun e w' => e = .returned (.int .i64 (i64N (V j))) ∧ W = w' := fun W => by
            have h := wordUnfold_any (fdN (V j)) hfl W
            rw [fdN_back] at h; exact h
          have hac : (pkN V (j + 1)).length = (pkN V j).length + (numL (fdN (V j))).length := by rw [pkN, List.length_append]
          generalize (numL (fdN (V j))).length = q at *
          generalize fdN (V j) = F at *
          generalize i64N (V j) = z at *
          generalize V j = Vj at *
          have hrl : rb < wr.heap.size := World.block_lt_of_cell? wr _ hr.out.c0
          have hblw : b < wr.heap.size := by have := hb.out.size; omega
          have hbr : b ≠ rb := by omega
          have hrt : Rd wr.drew rb TT (pkN V j).length 0 := ⟨hr.out.c0, hr.out.c1, hr.out.c2, hr.out.f1, hr.out.f2, hr.out.le, hr.out.sz⟩
          have C1 := Box.mk c1; have C2 := Box.mk c2; have HAC := Box.mk hac; have HRT := Box.mk hrt; have HBT := Box.mk hb.out.drew; have E0 := Box.mk e0
          clear c1 c2 hac hcell hv hT2 hpre g1 g2 g3 hrt
          go_wp2_with fail
          go_region_with (first
            | (go_at_call 34; ((with_reducible refine (C1.out _ HRT.out).mono ?_); rintro e w3 ⟨rfl, r3, o3⟩; have R3 := Box.mk r3; have B3 := Box.mk (bch' HBT.out (o3.below (B := w.heap.size) hrb0 HBT.out.size)); have t2 := (World.cell?_of_block (w := wr.drew) (w' := w3) (a := ⟨b, off + j, none⟩) (o3.block b hblw hbr)).trans E0.out; clear r3 o3))
            | (go_at_call 33; ((with_reducible refine (C2.out _).mono ?_); rintro e w' ⟨rfl, rfl⟩)))
          all_goals
            go_wp2_with fail
            go_roundw
            case rel => exact ⟨j + 1, by omega, by go_num, ⟨by rw [HAC.out]; exact R3.out⟩, B3⟩
            case measure => simp [intOf]; omega
        · obtain rfl : j = k := by omega
          obtain ⟨u, hu⟩ : ∃ u : Nat, min (max cut 0) (s.size : Int) = u := ⟨(min (max cut 0) (s.size : Int)).toNat, by omega⟩
          have hus : u ≤ s.size := by omega
          have u0 : (0 : Int) ≤ (u : Int) := by omega
          have u1 : (u : Int) ≤ (s.size : Int) := by omega
          have hsp : sb (s.extract 0 u) ++ sb (s.extract u s.size) = P := by
            rw [sb_part _ _ _ hus, sb_part _ _ _ (Nat.le_refl _), ← HSB.out, List.drop_zero, Nat.sub_zero]
            rw [List.take_of_length_le (l := (sb s).drop u) (by rw [List.length_drop, sb_length]; omega), List.take_append_drop]
          obtain ⟨s1, hs1⟩ : ∃ x, x = s.extract 0 u := ⟨_, rfl⟩
          obtain ⟨s2, hs2⟩ : ∃ x, x = s.extract u s.size := ⟨_, rfl⟩
          rw [← hs1, ← hs2] at hsp
          have hz1 : s1.size ≤ 180 := by rw [hs1]; simp; omega
          have hz2 : s2.size ≤ 180 := by rw [hs2]; simp; omega
          have ex1 : s.extract 0 u = s1 := hs1.symm
          have ex2 : s.extract u s.size = s2 := hs2.symm
          have hGl := global_lt HK.out
          have hrl : rb < wr.heap.size := World.block_lt_of_cell? wr _ hr.out.c0
          have hPlen := HPL.out
          have hll : (sb s1).length + (sb s2).length ≤ 180 := by rw [← List.length_append, hsp]; omega
          have hhk : w.heap.size ≤ wr.heap.size := hb.out.size
          have hn0 := has_new wr wr.heap.size rfl
          have bq : Below wr.heap.size wr (wr.alloc (.cells Tryd.zeroCells32 32)) := (Below.refl _ _).alloc (Nat.le_refl _) _
          have cw1 := write_any wr.heap.size [] (List.replicate 64 0) s1 _ hn0 (by simp; omega) (ktab_below HK.out (bch hb.out bq)) (by omega)
          rw [List.nil_append] at cw1
          have cw2 : ∀ W R, HasW W wr.heap.size (sb s1) R → KTab W → Calls Tryd.prog 15 #[.pointer (some ⟨wr.heap.size, 0, none⟩), .string s2] W (WrPost wr.heap.size P W) := fun W R hW hk => by
            have c := write_any wr.heap.size (sb s1) R s2 W hW (by rw [sb_length] at hll ⊢; omega) hk (by omega)
            rw [hsp] at c; exact c
          have hT3 : sb TT = P ++ (fx 4 C ++ D) := HTS.out
          have hT4 : sb TT = (P ++ fx 4 C) ++ (D ++ []) := by rw [HTS.out]; simp
          have g := tb_raw hT3
          have gf := tb_fix hT3 (fx_length 4 C)
          rw [fx_length] at g
          rw [un_fx, Nat.mod_eq_of_lt hCl] at gf
          have gg := tb_raw hT4
          rw [List.length_append, fx_length, HDL.out] at gg
          have gS : rawS TT (P.length + 4) 0 ((32 : Nat) : Int) = bs D := by rw [← bs_list (rawS TT (P.length + 4) 0 ((32 : Nat) : Int)), gg.2.2]
          have cfx : ∀ W, Rd W rb TT P.length 0 → Calls Tryd.prog 35 #[.pointer (some ⟨rb, 0, none⟩), .int .i64 4] W (RdQ rb TT (P.length + 4) 0 (.int .u64 (C : Int)) W) := fun W hW => by
            have h := rfixed_any rb TT P.length 0 4 W hW
            rw [show cl18 4 = 4 by decide, g.1, g.2.1, gf] at h; exact h
          have crw : ∀ W, Rd W rb TT (P.length + 4) 0 → Calls Tryd.prog 36 #[.pointer (some ⟨rb, 0, none⟩), .int .i64 32] W (RdQ rb TT TT.size 0 (.string (bs D)) W) := fun W hW => by
            have h := rraw_any rb TT (P.length + 4) 0 ((32 : Nat) : Int) W hW
            rw [gg.1, gg.2.1, gS, show P.length + 4 + 32 = TT.size by rw [HTZ.out]] at h; exact h
          have cdn : ∀ W, Rd W rb TT TT.size 0 → Calls Tryd.prog 37 #[.pointer (some ⟨rb, 0, none⟩)] W (RdQ rb TT TT.size 0 (.int .i64 0) W) := fun W hW => by
            have h := done_any rb TT TT.size 0 W hW
            rw [if_neg (fun hh => Nat.lt_irrefl _ hh.2)] at h; exact h
          have csm : ∀ W R, HasW W wr.heap.size P R → KTab W → Calls Tryd.prog 16 #[.pointer (some ⟨wr.heap.size, 0, none⟩)] W fun e w' => e = .returned (.agg (byts D).toArray) ∧ Below W.heap.size W w' := fun W R hW hk => by
            rw [HD.out]; exact sum_any wr.heap.size P R W hW (by omega) hk
          have co1 : ∀ W, Halves W → Calls Tryd.prog 30 #[.string s1] W fun e w' => e = .returned (.int .u32 ((ofN (sb s1) : Nat) : Int)) ∧ W = w' := fun W h => crcOf_any s1 (by omega) W h
          have co2 : ∀ W, Halves W → Calls Tryd.prog 38 #[.int .u32 ((ofN (sb s1) : Nat) : Int), .string s2] W fun e w' => e = .returned (.int .u32 (C : Int)) ∧ W = w' := fun W h => by
            have c := crcMore_any (ofN (sb s1)) s2 (more_lt _ _) (by omega) W h
            rw [show ofN (sb s1) = more 0 (sb s1) from rfl, more_append _ _ _ (sb_lt s1), hsp] at c
            rw [HC.out]; exact c
          have hrP := hr.out
          rw [← HP.out] at hrP
          have nC32 : IntKind.u32.wrap (C : Int) = (C : Int) := by rw [IntKind.wrap_u32]; omega
          have CW1 := Box.mk cw1; have CW2 := Box.mk cw2; have CFX := Box.mk cfx; have CRW := Box.mk crw; have CDN := Box.mk cdn; have CSM := Box.mk csm; have CO1 := Box.mk co1; have CO2 := Box.mk co2
          have RQ := Box.mk (rd_belowB (B := wr.heap.size) hrP bq hrl); have BQ := Box.mk (bch hb.out bq)
          clear cw1 cw2 cfx crw cdn csm co1 co2 hrP bq hn0 hsp hs1 hs2 hT3 hT4 g gf gg gS hPlen hll
          go_upto_region 26 with (first
            | (go_at_call 15; ((with_reducible refine CW1.out.mono ?_); rintro e w4 ⟨rfl, ⟨R4, h4⟩, d4⟩; have H4 := Box.mk h4; have E4 := Box.mk (bch' BQ.out (d4.below (B := w.heap.size) hhk (by have := BQ.out.size; exact this))); have F4 := Box.mk (rd_belowB (B := wr.heap.size) RQ.out (d4.below (Nat.le_refl _) (by simp)) hrl); clear h4 d4))
            | (go_at_call 15; ((with_reducible refine (CW2.out _ _ H4.out (ktab_below HK.out E4.out)).mono ?_); rintro e w5 ⟨rfl, ⟨R5, h5⟩, d5⟩; have H5 := Box.mk h5; have E5 := Box.mk (bch' E4.out (d5.below (B := w.heap.size) hhk E4.out.size)); have hl5 : rb < w4.heap.size := World.block_lt_of_cell? w4 _ F4.out.c0; have F5 := Box.mk (rd_belowB (B := wr.heap.size) F4.out (d5.below (Nat.le_refl _) (Nat.le_of_lt (World.block_lt_of_cell? w4 _ H4.out.ln))) hrl); clear h5 d5 hl5))
            | (go_at_call 35; ((with_reducible refine (CFX.out _ F5.out).mono ?_); rintro e w6 ⟨rfl, r6, o6⟩; have F6 := Box.mk r6; have H6 := Box.mk (H5.out.chg (c := rb) ⟨o6.os, o6.tape, o6.output, o6.size, o6.block⟩ (by omega)); have E6 := Box.mk (bch' E5.out (o6.below (B := w.heap.size) hrb0 E5.out.size)); clear r6 o6))
            | (go_at_call 36; ((with_reducible refine (CRW.out _ F6.out).mono ?_); rintro e w7 ⟨rfl, r7, o7⟩; have F7 := Box.mk r7; have H7 := Box.mk (H6.out.chg (c := rb) ⟨o7.os, o7.tape, o7.output, o7.size, o7.block⟩ (by omega)); have E7 := Box.mk (bch' E6.out (o7.below (B := w.heap.size) hrb0 E6.out.size)); clear r7 o7))
            | (go_at_call 16; ((with_reducible refine (CSM.out _ _ H7.out (ktab_below HK.out E7.out)).mono ?_); rintro e w8 ⟨rfl, b8⟩; have E8 := Box.mk (bch E7.out b8); have F8 := Box.mk (rd_belowB (B := w7.heap.size) F7.out b8 (World.block_lt_of_cell? w7 _ F7.out.c0)); clear b8))
            | ((with_reducible refine at_store 36 (.tmp 16) (.tmp 77) ?_)
               refine wpList_store_mid rfl 36 (.tmp 16) (.tmp 77) rfl w8.heap.size 0 (byts D).toArray rfl rfl (hash_there (there_new w8 36 (byts (List.replicate 32 0)) _ 0 32 rfl (by decide)) HDL.out) (hash_size HDL.out) (all_oneCell_toArray (byts_one _)) ?_
               have z1 : ((w8.alloc (.cells (byts (List.replicate 32 0)).toArray 36)).setCells w8.heap.size 0 (byts D)).rangeAt w8.heap.size 0 (byts D) := World.rangeAt_setCells_same _ _ _ _ (by rw [byts_length, HDL.out]; exact there_new w8 36 (byts (List.replicate 32 0)) _ 0 32 rfl (by decide))
               have z8 : Below w8.heap.size w8 ((w8.alloc (.cells (byts (List.replicate 32 0)).toArray 36)).setCells w8.heap.size 0 (byts D)) := below_setCells (Nat.le_refl _) _ _ _ _ ((Below.refl _ _).alloc (Nat.le_refl _) _)
               have z2 := bch E8.out z8
               have hr8 : rb < w8.heap.size := World.block_lt_of_cell? w8 _ F8.out.c0
               have z3 := rd_belowB (B := w8.heap.size) F8.out z8 hr8
               change wpList _ _ _ _ _ ((w8.alloc (.cells (byts (List.replicate 32 0)).toArray 36)).setCells w8.heap.size 0 (byts D))
               clear z8
               generalize (w8.alloc (.cells (byts (List.replicate 32 0)).toArray 36)).setCells w8.heap.size 0 (byts D) = W9 at z1 z2 z3 ⊢
               obtain ⟨xb, hxb⟩ : ∃ b, b = w8.heap.size := ⟨_, rfl⟩
               rw [← hxb] at z1 hr8 ⊢
               have Z1 := Box.mk z1; have Z2 := Box.mk z2; have Z3 := Box.mk z3
               clear z1 z2 z3 hxb))
          clear CW1 CW2 CFX CRW CSM RQ BQ H4 E4 F4 H5 E5 F5 H6 E6 F6 H7 E7 F7 E8 F8
          have nx : xb ≠ rb := by omega
          have HZ3 : Box (Rd W9.drew rb TT TT.size 0) := ⟨⟨Z3.out.c0, Z3.out.c1, Z3.out.c2, Z3.out.f1, Z3.out.f2, Z3.out.le, Z3.out.sz⟩⟩
          have HZ2 := Box.mk Z2.out.drew
          have sD32 : (bs D).size = 32 := by rw [bs_size, HDL.out]
          clear Z3 Z2 CC CH HTT HTS HD HC HP HS HSB HPB HM HPL HTZ HS1
          have hcv9 : (convert 38 9 (.slice (some ⟨xb, 0, none⟩) 32 32)).run Tryd.prog W9.drew = .ok (.string (bs D)) W9.drew := conv_range (cap := 32) HDL.out ((World.rangeAt_drew _ _ _ _).2 Z1.out)
          go_region_held3 (fun wx => (convert 38 9 (.slice (some ⟨xb, 0, none⟩) 32 32)).run Tryd.prog wx = .ok (.string (bs D)) wx) (assumption) (first
            | (go_at_call 37; ((with_reducible refine (CDN.out _ HZ3.out).mono ?_); rintro e w10 ⟨rfl, r10, o10⟩; have E10 := Box.mk (bch' HZ2.out (o10.below (B := w.heap.size) hrb0 HZ2.out.size)); have hcv := conv_range (cap := 32) HDL.out (onl_range (w := W9.drew) o10 ((World.rangeAt_drew _ _ _ _).2 Z1.out) nx); have HH10 := Box.mk (halves_below HH.out E10.out); clear r10 o10))
            | (go_at_call 30; ((with_reducible refine (CO1.out _ HH10.out).mono ?_); rintro e w' ⟨rfl, rfl⟩))
            | (go_at_call 38; ((with_reducible refine (CO2.out _ HH10.out).mono ?_); rintro e w' ⟨rfl, rfl⟩)))
          all_goals
            go_wp2
            go_ret
            exact ⟨rfl, E10.out⟩
section
open Go.ChangeShapes Go.WideShapes
/-- a slice of numbers that came in, opened: for the law's frame -/
theorem open_uin {H : Type} {enc : TypeId × Value → H} {P : Program} {w : World} {b0 : Nat} {held : Bool} {t e : TypeId} {r : Reach} {v : Value} {d : DataW H} {p : List MemPlace}
    (ht : P.underlying t = some (.slice e)) (he : P.underlying e = some (.int .u64)) (hc : P.cellsOf e = 1)
    (hv : Value.okWide P w r b0 t v) (h : DataW.Trod enc P w 0 (fun _ => true) held t v d p) :
    ∃ (V : Nat → Nat) (q : Option Addr) (n c : Nat), v = .slice q n c ∧ n ≤ 9223372036854775807 ∧ UIn w (.slice q n c) n V := by
  obtain ⟨a0, len, cap, rfl⟩ := okWide_slice ht hv
  obtain ⟨fuel, hf⟩ := h
  rcases open_ints ht he hc hf with ⟨hcs, hx⟩ | ⟨a, len', cap', zs, hcs, _, hl, hm, hz, hx, hcell, hws⟩
  · simp [Value.cells] at hcs
    obtain ⟨rfl, rfl, rfl⟩ := hcs
    exact ⟨fun _ => 0, _, _, _, rfl, by omega, ⟨_, _, rfl⟩, fun h => absurd h (by omega), fun i h => absurd h (by omega)⟩
  · simp [Value.cells] at hcs
    obtain ⟨rfl, rfl, rfl⟩ := hcs
    have hz' : zs.length = cap := by simpa using hz
    have hb : ∀ i, i < zs.length → 0 ≤ zs.getD i 0 ∧ zs.getD i 0 ≤ 18446744073709551615 := fun i hi => by
      refine bounds_u64 (hws _ ?_)
      rw [List.getD, List.getElem?_eq_getElem hi]
      exact List.getElem_mem _
    refine ⟨fun i => (zs.getD i 0).toNat, _, _, _, rfl, by unfold maxLen at hm; omega, ⟨_, _, rfl⟩, fun h0 => ?_, fun i hi => by have := hb i (by omega); show (zs.getD i 0).toNat < _; omega⟩
    obtain ⟨b, off, spot⟩ := a
    have hspot : spot = none := by simpa [Addr.add] using World.cell?_spot (hcell 0 (by omega))
    subst hspot
    refine ⟨b, off, _, rfl, ?_, fun i hi => ?_⟩
    · have h1 := World.block_lt_of_cell? w _ (hcell 0 (by omega))
      simpa [Addr.add] using h1
    · have h1 := hcell i (by omega)
      rw [add_plain] at h1
      have h2 := hb i (by omega)
      rw [h1]
      show some (Value.int .u64 (zs.getD i 0)) = some (.int .u64 (((zs.getD i 0).toNat : Nat) : Int))
      rw [Int.toNat_of_nonneg h2.1]
end
end Go.Proofs.YtdhbeeeofaheeaaDoor
