/- Contracts of outcome: Text. -/
import Derived.Test.YtnlcmdgjoikljaaDoorOutG
namespace Go.Proofs.YtnlcmdgjoikljaaDoor
set_option maxRecDepth 100000
open Go.RowKit

/-- word i of a state's text -/
def wordM (t : TestM) (s : StM) (i : Nat) : List UInt8 := nameP t ((slotsM t).getD i (0, 0)) ++ [61] ++ Lib.decDigits (s.v.getD i 0).toNat
def wordsM (t : TestM) (s : StM) (k : Nat) : List (List UInt8) := (List.range k).map (wordM t s)
theorem wordsM_succ (t : TestM) (s : StM) (k : Nat) : wordsM t s (k + 1) = wordsM t s k ++ [wordM t s k] := by simp [wordsM, List.range_succ]
theorem wordsM_len (t : TestM) (s : StM) (k : Nat) : (wordsM t s k).length = k := by simp [wordsM]
def textM (t : TestM) (s : StM) : List UInt8 := Lib.join (wordsM t s (min (slotsM t).length s.n.toNat)) [32]
theorem info_string : (Tryd.prog.info? 9).map (fun i => (i.zero, i.size, i.bytes)) = some (some (.string ⟨#[]⟩), 1, 16) := by kernel_rfl
theorem tailLe (m : Nat) : ∀ (r : List (List UInt8)), (∀ x ∈ r, x.length ≤ m) → (Lib.joinTail [32] r).length ≤ r.length * (m + 1)
  | [], _ => by simp [Lib.joinTail]
  | a :: r, h => by
    have h1 := tailLe m r fun x hx => h x (by simp [hx])
    have h2 := h a (by simp)
    have e : Lib.joinTail [32] (a :: r) = 32 :: a ++ Lib.joinTail [32] r := by simp [Lib.joinTail]
    rw [e, List.length_append, List.length_cons, List.length_cons, Nat.add_mul]
    omega
theorem joinLe (L : List (List UInt8)) (m : Nat) (h : ∀ x ∈ L, x.length ≤ m) : (Lib.join L [32]).length ≤ L.length * (m + 1) := by
  cases L with
  | nil => simp [Lib.join]
  | cons a r =>
    have h1 := tailLe m r fun x hx => h x (by simp [hx])
    have h2 := h a (by simp)
    have e : Lib.join (a :: r) [32] = a ++ Lib.joinTail [32] r := Lib.join_cons a r [32]
    rw [e, List.length_append, List.length_cons, Nat.add_mul]
    omega
def strV (l : List UInt8) : Value := .string (st l)
set_option maxHeartbeats 6400000 in
theorem text_any (b : Nat) (t : TestM) (hk : TestOk t) (s : StM) (M : Nat) (hM : s.n = (M : Int)) (hM40 : M ≤ 40) (w : World) (h : TestAt w b t) (hc40 : (slotsM t).length ≤ 1000000)
    (hn : ∀ p ∈ slotsM t, (nameP t p).length ≤ 1000000 ∧ ∀ W, Below w.heap.size w W → Calls Tryd.prog 30 #[.pointer (some ⟨b, 0, none⟩), .agg #[.int .i64 p.1, .int .i64 p.2]] W fun e w' => e = .returned (.string (st (nameP t p))) ∧ Below W.heap.size W w')
    (hf : ∀ x ∈ s.v, (Lib.decDigits x.toNat).length ≤ 20 ∧ ∀ W, Below w.heap.size w W → Calls Tryd.prog 31 #[.int .u64 x, .int .i64 10] W fun e w' => e = .returned (.string (st (Lib.decDigits x.toNat))) ∧ Below W.heap.size W w') :
    Calls Tryd.prog 15 #[.pointer (some ⟨b, 0, none⟩), .agg (stA s)] w fun e w' => e = .returned (.string (st (textM t s))) ∧ Below w.heap.size w w' := by
  obtain ⟨i0, hi, hz0, hz1, hz2⟩ := info_parts info_string
  have hat := stA_at (heap_alloc_new w (.cells (stA s) 44))
  obtain ⟨h0, hc⟩ := hat
  rw [hM] at h0
  have cs := fun W h => slots_any b t hk W h
  have hsl : s.v.length = 40 := s.len
  have CS := Bx.mk cs; have HA := Bx.mk h; have HN := Bx.mk hn; have HF := Bx.mk hf; have HC := Bx.mk hc; have H0 := Bx.mk h0
  have hbA : Below w.heap.size w (w.alloc (.cells (stA s) 44)) := aset _ _
  have HBA := Bx.mk hbA
  clear cs h hn hf hc h0 hbA
  generalize hSA : stA s = SA at *
  have HSA := Bx.mk hSA
  clear hSA
  go_enter Tryd.func15, Tryd.ntmps15
  go_wp2_with (go_at_call 11; ((with_reducible refine (CS.out _ (HA.out.below HBA.out)).mono ?_); rintro e w2 ⟨u, rfl, hu, hb2⟩; obtain ⟨up, uc, rfl⟩ := rowSlice hu; have HU := Bx.mk hu; have B2 := Bx.mk hb2; clear hu hb2))
  have hrs := (rowSlIn HU.out).1
  have HRS := Bx.mk hrs
  have h02 := cBel H0.out B2.out
  have hbw := bel HBA.out B2.out
  have HBW := Bx.mk hbw
  have H02 := Bx.mk h02
  obtain ⟨N, hN⟩ : ∃ N, N = (slotsM t).length := ⟨_, rfl⟩
  rw [← hN] at hc40 HRS HU ⊢
  have HNN := Bx.mk hN
  have hmin : min (M : Int) 40 = (M : Int) := by omega
  have h2s := B2.out.size
  simp at h2s
  clear hrs h02 hbw hN
  go_loopw [5, 11] (fun v i wr => ∃ k : Nat, i = .int .i64 (k : Int) ∧ k ≤ N ∧ Bx (wr.ownsRow w2.heap.size 9 1 v (wordsM t s (min k M)).length ((wordsM t s (min k M)).map strV)) ∧ Bx (Below w2.heap.size w2 wr) ∧ ∃ p q c, v = .slice p q c) (fun _ i _ => N - (intOf i).toNat)
  case atStart => exact ⟨0, rfl, by omega, ⟨by rw [Nat.zero_min]; exact World.ownsRow_nil _ _ _ _⟩, ⟨Below.refl _ _⟩, _, _, _, rfl⟩
  case round =>
    obtain ⟨k, rfl, hk2, hrow, hb, p3, q3, c3, rfl⟩ := hrel
    obtain rfl : q3 = (wordsM t s (min k M)).length := by
      rcases hrow.out.2 with ⟨hh, h0⟩ | ⟨g, cap, cur, hh, _⟩
      · obtain ⟨_, h3, _⟩ := Value.slice.inj hh; omega
      · obtain ⟨_, h3, _⟩ := Value.slice.inj hh; exact h3
    by_cases hlt : k < N
    · obtain ⟨sb, so, sc, hsv, hsl2, hsc⟩ := HRS.out.at (by omega)
      obtain ⟨rfl, _, rfl⟩ := Value.slice.inj hsv
      obtain ⟨pp, hpp⟩ : ∃ pp, (slotsM t)[k]? = some pp := ⟨_, List.getElem?_eq_getElem (by rw [← HNN.out]; exact hlt)⟩
      have f0 := flatAt slC 2 (fun _ => rfl) (slotsM t) k 0 pp hpp (by decide)
      have f1 := flatAt slC 2 (fun _ => rfl) (slotsM t) k 1 pp hpp (by decide)
      have q0 : wr.cell? ⟨sb, so + k * 2, none⟩ = some (.int .i64 pp.1) := (hb.out.cell hsl2).trans (hsc _ _ f0)
      have q1 : wr.cell? ⟨sb, so + k * 2 + 1, none⟩ = some (.int .i64 pp.2) := by
        rw [Nat.add_assoc]; exact (hb.out.cell hsl2).trans (hsc _ _ f1)
      obtain ⟨hnl, hnc⟩ := HN.out pp (List.mem_of_getElem? hpp)
      have hnn : (wordsM t s k).length = k := wordsM_len t s k
      have e2 : wr.cell? ⟨w.heap.size, 0, none⟩ = some (.int .i64 (M : Int)) := cBel H02.out hb.out
      have e3 : (wr.alloc (.cells #[.int .i64 pp.1, .int .i64 pp.2] 54)).cell? ⟨w.heap.size, 0, none⟩ = some (.int .i64 (M : Int)) := cBel e2 (aset _ _)
      clear f0 f1 hsc hsv
      by_cases hkM : k < M
      · have hkm : min k M = k := by omega
        rw [hkm] at hrow ⊢
        rw [hnn] at hrow ⊢
        have hkm2 : min (k + 1) M = k + 1 := by omega
        obtain ⟨x, hx⟩ : ∃ x, s.v[k]? = some x := ⟨_, List.getElem?_eq_getElem (by omega)⟩
        obtain ⟨hfl, hfc⟩ := HF.out x (List.mem_of_getElem? hx)
        have qx : wr.cell? ⟨w.heap.size, 1 + k, none⟩ = some (.int .u64 x) := cBel (cBel (HC.out k x hx) B2.out) hb.out
        have hkMi : (k : Int) < (M : Int) := by omega
        have hki : (k : Int) < 40 := by omega
        have hword : wordM t s k = nameP t pp ++ [61] ++ Lib.decDigits x.toNat := by
          unfold wordM
          simp [List.getD, hpp, hx]
        have hw1 : st (wordM t s k) = st (nameP t pp) ++ (⟨#[61]⟩ : ByteArray) ++ st (Lib.decDigits x.toNat) := by
          rw [hword, ← st_app, ← st_app]; rfl
        have z1 : (st (nameP t pp)).size ≤ 1000000 := by rw [st_size]; exact hnl
        have z2 : (st (Lib.decDigits x.toNat)).size ≤ 20 := by rw [st_size]; exact hfl
        have z4 : (⟨#[61]⟩ : ByteArray).size = 1 := rfl
        have z3 : (st (nameP t pp) ++ (⟨#[61]⟩ : ByteArray)).size ≤ 1000001 := by rw [ByteArray.size_append, z4]; omega
        generalize st (nameP t pp) = SN at *
        generalize st (Lib.decDigits x.toNat) = SF at *
        have z5 : SN.size ≤ 9223372036854775806 := by omega
        have z6 : SN.size + 1 + SF.size ≤ 9223372036854775807 := by omega
        have HW := Bx.mk hw1
        clear hw1
        obtain ⟨pa, pd⟩ := pp
        simp only at q0 q1 e3
        have HNC := Bx.mk hnc; have HFC := Bx.mk hfc
        clear hpp hx hnc hfc hword
        go_wp2_with fail
        have hsz : wr.heap.size < (wr.alloc (.cells #[.int .i64 pa, .int .i64 pd] 54)).heap.size := by simp
        have qs0 : (wr.alloc (.cells #[.int .i64 pa, .int .i64 pd] 54)).cell? ⟨wr.heap.size, 0, none⟩ = some (.int .i64 pa) := by rw [cOf (heap_alloc_new _ _)]; rfl
        have qs1 : (wr.alloc (.cells #[.int .i64 pa, .int .i64 pd] 54)).cell? ⟨wr.heap.size, 1, none⟩ = some (.int .i64 pd) := by rw [cOf (heap_alloc_new _ _)]; rfl
        have qv : (wr.alloc (.cells #[.int .i64 pa, .int .i64 pd] 54)).cell? ⟨w.heap.size, 1 + k, none⟩ = some (.int .u64 x) := cBel qx (aset _ _)
        have hnr : ∀ b', (Value.slice p3 k c3).ownBlock = some b' → w2.heap.size ≤ b' ∧ b' < wr.heap.size := fun b' e => rowLt hrow.out _ e
        have hrowq := rowBel hrow.out (aset wr (.cells #[.int .i64 pa, .int .i64 pd] 54))
        have hbq : Below w2.heap.size w2 (wr.alloc (.cells #[.int .i64 pa, .int .i64 pd] 54)) := hb.out.alloc hb.out.size _
        generalize (wr.alloc (.cells #[.int .i64 pa, .int .i64 pd] 54)) = wq at *
        have BQ := Bx.mk ((Below.refl wq.heap.size wq).drew)
        have HROW := Bx.mk hrowq; have HNR := Bx.mk hnr; have HBQ := Bx.mk hbq
        clear hrowq hnr hbq q0 q1 e2 e3 qx
        refine wp_region_held_drew (S := fun w' => w'.cell? ⟨wr.heap.size, 0, none⟩ = some (.int .i64 pa) ∧ w'.cell? ⟨wr.heap.size, 1, none⟩ = some (.int .i64 pd) ∧ w'.cell? ⟨w.heap.size, 1 + k, none⟩ = some (.int .u64 x)) (by kernel_rfl) ⟨by simpa using qs0, by simpa using qs1, by simpa using qv⟩ (fun hHeld => ?_)
        clear qs0 qs1 qv
        generalize wq.drew = wd at *
        refine wpAnyH_take (i := 0) (v := .slice p3 k c3) rfl (by kernel_rfl) (by kernel_rfl) (by kernel_rfl) (fun _ _ _ h => h) (Or.inl ⟨by rfl, fun w' hw' => by obtain ⟨s1, s2, s3⟩ := hw'; go_simp; try rfl⟩) hHeld ?_
        refine wpAnyH_take (i := 1) (v := .pointer (some ⟨b, 0, none⟩)) rfl (by kernel_rfl) (by kernel_rfl) (by kernel_rfl) (fun _ _ _ h => h) (Or.inl ⟨by rfl, fun w' hw' => by obtain ⟨s1, s2, s3⟩ := hw'; go_simp; try rfl⟩) hHeld ?_
        refine wpAnyH_take (i := 2) (v := .agg #[.int .i64 pa, .int .i64 pd]) rfl (by kernel_rfl) (by kernel_rfl) (by kernel_rfl) (fun _ _ _ h => h) (Or.inl ⟨by rfl, fun w' hw' => by obtain ⟨s1, s2, s3⟩ := hw'; go_simp; try rfl⟩) hHeld ?_
        refine wpAnyH_take (i := 5) (v := .int .i64 (k : Int)) rfl (by kernel_rfl) (by kernel_rfl) (by kernel_rfl) (fun _ _ _ h => h) (Or.inl ⟨by rfl, fun w' hw' => by obtain ⟨s1, s2, s3⟩ := hw'; go_simp; try rfl⟩) hHeld ?_
        refine wpAnyH_take (i := 6) (v := .pointer (some ⟨w.heap.size, 1, none⟩)) rfl (by kernel_rfl) (by kernel_rfl) (by kernel_rfl) (fun _ _ _ h => h) (Or.inl ⟨by rfl, fun w' hw' => by obtain ⟨s1, s2, s3⟩ := hw'; go_simp; try rfl⟩) hHeld ?_
        refine wpAnyH_take (i := 7) (v := .pointer (some ⟨w.heap.size, 1 + k, none⟩)) rfl (by kernel_rfl) (by kernel_rfl) (by kernel_rfl) (fun _ _ _ h => h) (Or.inl ⟨by rfl, fun w' hw' => by obtain ⟨s1, s2, s3⟩ := hw'; go_simp; try rfl⟩) hHeld ?_
        refine wpAnyH_take (i := 8) (v := .int .u64 x) rfl (by kernel_rfl) (by kernel_rfl) (by kernel_rfl) (fun _ _ _ h => h) (Or.inl ⟨by rfl, fun w' hw' => by obtain ⟨s1, s2, s3⟩ := hw'; go_simp; try rfl⟩) hHeld ?_
        refine wpAnyH_ready (rs := [3]) (by kernel_rfl) (by simp) ?_
        refine AllReadyH.cons rfl (fun K hK => ?_) AllReadyH.nil
        go_simp
        go_at_call 30; ((with_reducible refine (HNC.out _ (bel HBW.out (bel' HBQ.out HBQ.out.size BQ.out))).mono ?_); rintro e w4 ⟨rfl, hb4⟩)
        refine hK.out _ _ ⟨cBel hHeld.1 hb4, cBel hHeld.2.1 hb4, cBel hHeld.2.2 hb4⟩ (fun hHeld => ?_)
        have BQ := Bx.mk (bel BQ.out hb4)
        clear hK K hb4
        refine wpAnyH_take (i := 4) (v := .string (SN ++ ⟨#[61]⟩)) rfl (by kernel_rfl) (by kernel_rfl) (by kernel_rfl) (fun _ _ _ h => h) (Or.inl ⟨by rfl, fun w' hw' => by obtain ⟨s1, s2, s3⟩ := hw'; go_simp; try rfl⟩) hHeld ?_
        refine wpAnyH_ready (rs := [9]) (by kernel_rfl) (by simp) ?_
        refine AllReadyH.cons rfl (fun K hK => ?_) AllReadyH.nil
        go_simp
        go_at_call 31; ((with_reducible refine (HFC.out _ (bel HBW.out (bel' HBQ.out HBQ.out.size BQ.out))).mono ?_); rintro e w5 ⟨rfl, hb5⟩)
        refine hK.out _ _ ⟨cBel hHeld.1 hb5, cBel hHeld.2.1 hb5, cBel hHeld.2.2 hb5⟩ (fun hHeld => ?_)
        have BQ := Bx.mk (bel BQ.out hb5)
        clear hK K hb5
        refine wpAnyH_take (i := 10) (v := .string (SN ++ ⟨#[61]⟩ ++ SF)) rfl (by kernel_rfl) (by kernel_rfl) (by kernel_rfl) (fun _ _ _ h => h) (Or.inl ⟨by rfl, fun w' hw' => by obtain ⟨s1, s2, s3⟩ := hw'; go_simp; try rfl⟩) hHeld ?_
        refine wpAnyH_ready (rs := [11]) (by kernel_rfl) (by simp) ?_
        refine AllReadyH.cons rfl (fun K hK => ?_) AllReadyH.nil
        go_simp
        refine hK.out _ _ ⟨cBel hHeld.1 (aset _ _), cBel hHeld.2.1 (aset _ _), cBel hHeld.2.2 (aset _ _)⟩ (fun hHeld => ?_)
        clear hK K
        have s1 := HBQ.out.size
        have s2 := BQ.out.size
        refine wpAnyH_ready (rs := [12]) (by kernel_rfl) (by simp) ?_
        refine AllReadyH.cons rfl (fun K hK => ?_) AllReadyH.nil
        refine step_append_lies _ (by rfl) _ _ _ (by rfl) w2.heap.size 9 i0 _ 1 16 Tryd.underlying88 hi hz0 hz1 hz2 rfl (by omega) _ _ _ (by rfl) (rowBel HROW.out (bel BQ.out (aset _ _))) ⟨w5.heap.size, 0, none⟩ 1 1 [.string (SN ++ ⟨#[61]⟩ ++ SF)] (by rfl) (by rfl) (World.news_of_block (cs := #[.string (SN ++ ⟨#[61]⟩ ++ SF)]) (t := 9) (fr := (0, 0)) (heap_alloc_new _ _)) (by simp [Value.oneCell']) (by omega) (by unfold maxLen; omega) (by omega) (by simp; omega) (w5.heap.size + 1) (by simp) ?_
        intro gg cc w6 hown1 hgrow hat hlt2'
        have n1 : (Value.slice p3 k c3).ownBlock ≠ some wr.heap.size := fun e => by have := HNR.out _ e; omega
        have n2 : (Value.slice p3 k c3).ownBlock ≠ some w.heap.size := fun e => by have := HNR.out _ e; omega
        refine hK.out _ _ ⟨keepC (grownC (Below.refl _ _) hgrow (World.block_lt_of_cell? _ _ hHeld.1) n1) hHeld.1, keepC (grownC (Below.refl _ _) hgrow (World.block_lt_of_cell? _ _ hHeld.2.1) n1) hHeld.2.1, keepC (grownC (Below.refl _ _) hgrow (World.block_lt_of_cell? _ _ hHeld.2.2) n2) hHeld.2.2⟩ (fun hHeld => ?_)
        clear hK K
        refine wpAnyH_take (i := 13) (v := .slice (some ⟨gg, 0, none⟩) (k + 1) cc) rfl (by kernel_rfl) (by kernel_rfl) (by kernel_rfl) (fun _ _ _ h => h) (Or.inl ⟨by rfl, fun w' hw' => by obtain ⟨s1, s2, s3⟩ := hw'; go_simp; try rfl⟩) hHeld ?_
        refine wpAnyH_done (by kernel_rfl) ?_ _
        have R3 : Bx (w6.ownsRow w2.heap.size 9 1 (.slice (some ⟨gg, 0, none⟩) (k + 1) cc) (wordsM t s (k + 1)).length ((wordsM t s (k + 1)).map strV)) := ⟨by
          rw [wordsM_len, wordsM_succ, List.map_append]
          have ew : [wordM t s k].map strV = [.string (SN ++ ⟨#[61]⟩ ++ SF)] := by show [Value.string (st (wordM t s k))] = _; rw [HW.out]
          rw [ew]; exact hown1⟩
        have B3 : Bx (Below w2.heap.size w2 w6) := ⟨((bel' HBQ.out HBQ.out.size BQ.out).alloc (by omega) _).grown hgrow (by simp; omega) (fun k' e => (HNR.out k' e).1)⟩
        clear hown1 hgrow hat hlt2' n1 n2 hHeld
        go_wp2_with fail
        go_roundw
        case rel => exact ⟨k + 1, by go_num, by omega, by rw [hkm2]; exact R3, B3, _, _, _, rfl⟩
        case measure => simp [intOf] <;> omega
      · have hkm : min k M = M := by omega
        rw [hkm] at hrow ⊢
        have hkm2 : min (k + 1) M = M := by omega
        have hkMi : ¬ ((k : Int) < (M : Int)) := by omega
        clear hpp hnc
        go_wp2
        go_roundw
        case rel => exact ⟨k + 1, by go_num, by omega, by rw [hkm2]; exact ⟨hrow.out.alloc _⟩, ⟨hb.out.alloc hb.out.size _⟩, _, _, _, rfl⟩
        case measure => simp [intOf] <;> omega
    · obtain rfl : k = N := by omega
      have hX : textM t s = Lib.join (wordsM t s (min k M)) [32] := by
        unfold textM
        rw [hM, ← HNN.out]; rfl
      have HX := Bx.mk hX
      have hwl := wordsM_len t s (min k M)
      obtain ⟨q, hq⟩ : ∃ q, q = min k M := ⟨_, rfl⟩
      rw [← hq] at hrow hwl HX ⊢
      have hq40 : q ≤ 40 := by omega
      rw [hwl] at hrow ⊢
      have hwm : ∀ x ∈ wordsM t s q, x.length ≤ 1000021 := fun x hx => by
        obtain ⟨i, hi, rfl⟩ := List.mem_map.1 hx
        have hi := List.mem_range.1 hi
        obtain ⟨p1, hp1⟩ : ∃ p, (slotsM t)[i]? = some p := ⟨_, List.getElem?_eq_getElem (by rw [← HNN.out]; omega)⟩
        obtain ⟨x1, hx1⟩ : ∃ x, s.v[i]? = some x := ⟨_, List.getElem?_eq_getElem (by omega)⟩
        have h1 := (HN.out p1 (List.mem_of_getElem? hp1)).1
        have h2 := (HF.out x1 (List.mem_of_getElem? hx1)).1
        simp only [wordM, List.getD, hp1, hx1, Option.getD_some, List.length_append, List.length_cons, List.length_nil]
        omega
      clear hX hq
      by_cases hz : q = 0
      · subst hz
        have cj := fun a c W => Tryd.strings_Join_none a c ⟨#[32]⟩ W
        have CJ := Bx.mk cj
        clear cj
        go_wp2_with (go_at_call 32; ((with_reducible refine (CJ.out _ _ _).mono ?_); rintro e w' ⟨rfl, rfl⟩))
        go_ret
        exact ⟨by rw [HX.out]; rfl, bel HBW.out hb.out⟩
      · obtain ⟨gb, go', gc, hgv, hgl, hgc⟩ := (rowSlIn hrow.out).1.at (by omega)
        obtain ⟨rfl, _, rfl⟩ := Value.slice.inj hgv
        have hcap : q ≤ c3 := by obtain ⟨_, _, _, e, h⟩ := (rowSlIn hrow.out).2; obtain ⟨_, h2, h3⟩ := Value.slice.inj e; omega
        have hml : ((wordsM t s q).map st).length = q := by rw [List.length_map, hwl]
        have hmm : ((wordsM t s q).map st).map (·.data.toList) = wordsM t s q := by
          rw [List.map_map]
          exact (List.map_congr_left fun x _ => by simp [st]).trans (List.map_id _)
        have hjl := joinLe (wordsM t s q) 1000021 hwm
        rw [hwl] at hjl
        have hjl : (Lib.join (wordsM t s q) [32]).length ≤ 140737488355328 := by omega
        have cj := Tryd.strings_Join gb go' c3 ((wordsM t s q).map st) ⟨#[32]⟩ wr (fun j x hx => hgc j _ (by
          rw [List.getElem?_map] at hx ⊢
          cases e : (wordsM t s q)[j]? with
          | none => rw [e] at hx; cases hx
          | some y => rw [e] at hx; cases hx; rfl)) hgl (by omega) (by omega) (by rw [hmm]; exact hjl)
        rw [hmm, hml] at cj
        have CJ := Bx.mk cj
        clear cj hgv hgc
        go_wp2_with (go_at_call 32; ((with_reducible refine (CJ.out).mono ?_); rintro e w' ⟨rfl, hb4⟩))
        go_ret
        exact ⟨by rw [HX.out]; rfl, bel (bel HBW.out hb.out) hb4⟩
end Go.Proofs.YtnlcmdgjoikljaaDoor
