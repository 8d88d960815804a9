/- Contracts of sha: padding, Sum, Of. -/
import Derived.Test.YtdhbeeeofaheeaaDoorShaE
import Derived.Test.YtdhbeeeofaheeaaDoorShelf
namespace Go.Proofs.YtdhbeeeofaheeaaDoor
set_option maxRecDepth 100000
open Go.RowKit M

theorem fx8 (v : Nat) : fx 8 v = be8 v := by simp [fx, bytesN, List.range_succ, byt, be8]
theorem fx4 {v : Nat} (h : v < 4294967296) : fx 4 v = be4 v := by
  simp [fx, bytesN, List.range_succ, byt, be4]; omega
theorem bs_rep (z : Nat) : (⟨(Lib.repeatL (⟨#[0]⟩ : ByteArray).data.toList z).toArray⟩ : ByteArray) = bs (List.replicate z 0) := by
  have h : ∀ z, Lib.repeatL [(0 : UInt8)] z = List.replicate z 0 := fun z => by
    induction z with
    | zero => rfl
    | succ z ih => simp [Lib.repeatL, ih, List.replicate_succ]
  show (⟨(Lib.repeatL [(0 : UInt8)] z).toArray⟩ : ByteArray) = _
  rw [h]
  apply ByteArray.ext
  apply Array.ext'
  simp [bs, strOfNums]

theorem padding_any (n : Nat) (hn : n < 4294967296) (w : World) : Calls Tryd.prog 51 #[.int .u64 n] w fun e w' => e = .returned (.string (bs (padN n))) ∧ Below w.heap.size w w' := by
  obtain ⟨z, hz⟩ : ∃ z, z = (64 - (n + 9) % 64) % 64 := ⟨_, rfl⟩
  have hz64 : z < 64 := by omega
  have e0 : (n : Int) + 1 + 8 = ((n + 9 : Nat) : Int) := by omega
  have c1 := fun w => Tryd.strings_Repeat ⟨#[0]⟩ z w (by omega) (by show 1 * z ≤ _; omega)
  rw [bs_rep z] at c1
  have c2 : ∀ w, Calls Tryd.prog 52 #[.int .u64 (8 * (n : Int)), .int .i64 8] w fun e w' => e = .returned (.string (bs (fx 8 (8 * n)))) ∧ Below w.heap.size w w' := fun w => by
    have h := hf8_any (8 * n) (by omega) w
    rwa [show ((8 * n : Nat) : Int) = 8 * (n : Int) by omega] at h
  have hfin : (⟨#[128]⟩ : ByteArray) ++ bs (List.replicate z 0) ++ bs (fx 8 (8 * n)) = bs (padN n) := by
    rw [show (⟨#[128]⟩ : ByteArray) = bs [128] by decide, bs_append, bs_append, fx8, hz]
    simp [padN]
  have e1 : (64 - ((n : Int) + 1 + 8) % 64) % 64 = (z : Int) := by omega
  have s1 : (bs (List.replicate z 0)).size ≤ 64 := by rw [bs_size]; simp; omega
  have s2 : (bs (fx 8 (8 * n))).size ≤ 8 := by rw [bs_size, fx_length]; omega
  have C1 := Box.mk c1; have C2 := Box.mk c2; have HF := Box.mk hfin; have HZ := Box.mk hz
  clear c1 c2 hfin hz e0
  go_enter Tryd.func51, Tryd.ntmps51
  go_wp2_with (first
    | (go_at_call 76; ((with_reducible refine (C1.out _).mono ?_); rintro e w1 ⟨rfl, b1⟩))
    | (go_at_call 52; ((with_reducible refine (C2.out _).mono ?_); rintro e w2 ⟨rfl, b2⟩)))
  go_ret
  refine ⟨?_, bch b1 b2⟩
  rw [← HF.out]
  rfl

/-- the cells of a hasher -/
def hcl (m R : List Nat) : List Value := v8c (stOf m) ++ (byts R ++ [.int .u64 (m.length : Nat)])
theorem hcl_length {m R : List Nat} (h : R.length = 64) : (hcl m R).length = 73 := by simp [hcl, v8c, byts_length, h]
theorem hcl_one (m R : List Nat) : ∀ v ∈ hcl m R, v.oneCell' = true := by
  intro v hv
  simp only [hcl, List.mem_append] at hv
  rcases hv with h | h | h
  · exact w32_one (stOf m).l v h
  · exact byts_one _ v h
  · simp at h; subst h; rfl
theorem has_to {w : World} {b : Nat} {m R : List Nat} (h : HasW w b m R) : w.rangeAt b 0 (hcl m R) := fun j v hv => by
  have h8 : (v8c (stOf m)).length = 8 := rfl
  have h64 : (byts R).length = 64 := by rw [byts_length, h.has.len]
  unfold hcl at hv
  by_cases h1 : j < 8
  · rw [List.getElem?_append_left (by omega)] at hv
    exact h.st j v hv
  · rw [List.getElem?_append_right (by omega), h8] at hv
    by_cases h2 : j < 72
    · rw [List.getElem?_append_left (by omega)] at hv
      have := h.rs (j - 8) v hv
      rwa [show 8 + (j - 8) = 0 + j by omega] at this
    · rw [List.getElem?_append_right (by omega), h64] at hv
      have hj : j - 8 - 64 < 1 := by
        have := (List.getElem?_eq_some_iff.1 hv).1
        simpa using this
      obtain rfl : j = 72 := by omega
      simp at hv
      rw [← hv]
      exact h.ln
theorem has_of {w : World} {b : Nat} {m R : List Nat} (h : HasR m R) (hr : w.rangeAt b 0 (hcl m R)) (ht : w.there b 0 73) : HasW w b m R := by
  have h8 : (v8c (stOf m)).length = 8 := rfl
  have h64 : (byts R).length = 64 := by rw [byts_length, h.len]
  refine ⟨h, fun j v hv => ?_, fun j v hv => ?_, ?_, ht⟩
  · refine hr j v ?_
    have := (List.getElem?_eq_some_iff.1 hv).1
    rw [hcl, List.getElem?_append_left this]; exact hv
  · have hj := (List.getElem?_eq_some_iff.1 hv).1
    have := hr (8 + j) v (by rw [hcl, List.getElem?_append_right (by omega), h8, show 8 + j - 8 = j by omega, List.getElem?_append_left hj]; exact hv)
    rwa [Nat.zero_add] at this
  · have := hr 72 (.int .u64 (m.length : Nat)) (by rw [hcl, List.getElem?_append_right (by omega), h8, List.getElem?_append_right (by omega), h64]; rfl)
    exact this
theorem hasR_nil : HasR [] (List.replicate 64 0) := ⟨by simp, by intro d hd; simp at hd; omega, by simp⟩
theorem global_lt {w : World} (hK : KTab w) : 1 < w.heap.size := World.block_lt_of_cell? w _ (hK 0 (by decide))

theorem there_arr (w : World) (T : TypeId) (C : Array Value) (b : Nat) (n : Nat) (hb : b = w.heap.size) (h : C.size = n) : (w.alloc (.cells C T)).there b 0 n := by
  have := there_new w T C.toList b 0 n hb (by simp [h])
  simpa using this
theorem bs_cells (l : List Nat) (h : ∀ d ∈ l, d < 2 ^ 8) : ((bs l).data.toList.map fun q => Value.int .u8 (q.toNat : Int)) = byts l := by
  have e := sb_data (bs l)
  rw [sb_bs l h] at e
  have e2 : byts l = byts ((bs l).data.toList.map UInt8.toNat) := congrArg byts e
  rw [e2]
  simp only [byts, List.map_map]
  rfl
theorem has_new (w : World) (b : Nat) (hb : b = w.heap.size) : HasW (w.alloc (.cells Tryd.zeroCells32 32)) b [] (List.replicate 64 0) := by
  have e : Tryd.zeroCells32 = (hcl [] (List.replicate 64 0)).toArray := by kernel_rfl
  refine has_of hasR_nil ?_ ?_
  · rw [e]; exact range_new w _ _ b hb
  · exact there_arr w _ _ b 73 hb (by kernel_rfl)
/-- the digest, as far as it is written -/
def dgl (v : V8) (k : Nat) : List Nat := (digV v).take (4 * k) ++ List.replicate (32 - 4 * k) 0
theorem dgl_zero (v : V8) : dgl v 0 = List.replicate 32 0 := by simp [dgl]
theorem dgl_full (v : V8) : dgl v 8 = digV v := by
  unfold dgl; rw [List.take_of_length_le (by rw [digV_length]; omega)]; simp
theorem dgl_length (v : V8) {k : Nat} (h : k ≤ 8) : (dgl v k).length = 32 := by simp [dgl, digV_length]; omega
theorem be4_length (x : Nat) : (be4 x).length = 4 := rfl
theorem dgl_fill (v : V8) {k : Nat} (h : k < 8) : fillR (dgl v k) (be4 (v.l.getD k 0)) (4 * k) = dgl v (k + 1) := by
  rcases (by omega : k = 0 ∨ k = 1 ∨ k = 2 ∨ k = 3 ∨ k = 4 ∨ k = 5 ∨ k = 6 ∨ k = 7) with rfl | rfl | rfl | rfl | rfl | rfl | rfl | rfl
  all_goals rfl

theorem step_copy_str {w : World} {ops : Array Oper} {o : Oper} {a : Act} {K : Act → World → Prop} {Q : Exit → Act → World → Prop} {E : Prop} (hgd : o.guard = none) (d s : Operand) (dT sT : TypeId)
    (ho : o.op = .call { callee := .builtin .copy, args := #[d, s], argTypes := #[dT, sT] }) (elem : TypeId) (hu : Tryd.prog.underlying dT = some (.slice elem)) (hsz : (Tryd.prog.info? elem).map (fun i => i.size) = some 1)
    (b off dLen dCap : Nat) (x : ByteArray) (hd : a.eval d = .slice (some ⟨b, off, none⟩) dLen dCap) (hs : a.eval s = .string x)
    (cs : List Value) (hcs : cs = ((x.data.toList.take dLen).map fun y => Value.int .u8 (y.toNat : Int))) (hc : w.there b off cs.length)
    (h : K (a.put o.dst (goInt cs.length)) (w.setCells b off cs)) :
    if Region.wanted o (yielded ops a.tmps) = true then Oper.wp Tryd.prog o a w K Q else E := by
  have hw : Region.wanted o (yielded ops a.tmps) = true := by simp [Region.wanted, hgd]
  rw [if_pos hw]
  have hrun := run_copy_str w dT sT o.type elem b off dLen dCap x cs hcs hu hsz hc
  unfold Oper.wp
  simp [execOp, ho, resolve, invoke, builtin, hd, hs, hrun, Result.andThen]
  exact h

set_option maxRecDepth 100000 in
set_option maxHeartbeats 400000 in
theorem sum_any (b : Nat) (m R : List Nat) (w : World) (hW : HasW w b m R) (hl : m.length < 4294967000) (hK : KTab w) :
    Calls Tryd.prog 16 #[.pointer (some ⟨b, 0, none⟩)] w fun e w' => e = .returned (.agg (byts (shaN m)).toArray) ∧ Below w.heap.size w w' := by
  have hGl := global_lt hK
  have hbl : b < w.heap.size := World.block_lt_of_cell? w _ hW.ln
  have HW := Box.mk hW; clear hW
  have HK := Box.mk hK; clear hK
  go_enter Tryd.func16, Tryd.ntmps16
  have hcl1 : (hcl m R).length = 73 := hcl_length HW.out.has.len
  have f1 := has_to HW.out
  have i1 : (Tryd.prog.info? 32).map (fun i => i.size) = some (hcl m R).length := by rw [hcl1]; kernel_rfl
  have i2 : (Tryd.prog.info? 32).map (fun i => i.size) = some (hcl m R).toArray.size := by rw [List.size_toArray, hcl1]; kernel_rfl
  have F1 := Box.mk f1; have I1 := Box.mk i1; have I2 := Box.mk i2; have HC := Box.mk hcl1
  clear f1 i1 i2 hcl1
  obtain ⟨W1, hW1⟩ : ∃ W1, W1 = ((w.alloc (.cells (byts (List.replicate 32 0)).toArray 36)).alloc (.cells Tryd.zeroCells32 32)).setCells (w.heap.size + 1) 0 (hcl m R) := ⟨_, rfl⟩
  have hA : Below w.heap.size w ((w.alloc (.cells (byts (List.replicate 32 0)).toArray 36)).alloc (.cells Tryd.zeroCells32 32)) := ((Below.refl _ _).alloc (Nat.le_refl _) _).alloc (by simp) _
  have tA : ((w.alloc (.cells (byts (List.replicate 32 0)).toArray 36)).alloc (.cells Tryd.zeroCells32 32)).there (w.heap.size + 1) 0 73 :=
    there_arr _ 32 Tryd.zeroCells32 _ 73 (by simp) (by kernel_rfl)
  have tR : ((w.alloc (.cells (byts (List.replicate 32 0)).toArray 36)).alloc (.cells Tryd.zeroCells32 32)).there w.heap.size 0 32 :=
    World.there_alloc (there_new w 36 (byts (List.replicate 32 0)) _ 0 32 rfl (by decide)) _
  have tA2 : ((w.alloc (.cells (byts (List.replicate 32 0)).toArray 36)).alloc (.cells Tryd.zeroCells32 32)).there (w.heap.size + 1) 0 (hcl m R).toArray.size := by
    have e : (hcl m R).toArray.size = 73 := by simp [HC.out]
    rw [e]; exact tA
  have k1 : Below w.heap.size w W1 := by rw [hW1]; exact below_setCells (by omega) _ _ _ _ hA
  have k2 : W1.there w.heap.size 0 32 := by rw [hW1]; exact World.there_setCells tR _ _ _
  have k3 : W1.there (w.heap.size + 1) 0 73 := by rw [hW1]; exact World.there_setCells tA _ _ _
  have k4 : W1.rangeAt (w.heap.size + 1) 0 (hcl m R) := by
    rw [hW1]; exact World.rangeAt_setCells_same _ _ _ _ (by rw [HC.out]; exact tA)
  have k5 : HasW W1 (w.heap.size + 1) m R := has_of HW.out.has k4 k3
  have k6 := HW.out.below k1
  have c72 : W1.cell? ⟨b, 72, none⟩ = some (.int .u64 (m.length : Nat)) := k6.ln
  have T1 := Box.mk tA2; have HW1 := Box.mk hW1; have K1 := Box.mk k1; have K2 := Box.mk k2; have K5 := Box.mk k5
  clear hW1 hA tA tR tA2 k1 k2 k3 k4 k5 k6
  go_upto_region 2 with (first
    | ((with_reducible refine at_load 32 (.tmp 8) ?_); refine wpList_load_mid rfl 32 (.tmp 8) rfl b 0 rfl (hcl m R) _ (World.rangeAt_alloc F1.out _) Tryd.underlying32 rfl I1.out ?_)
    | ((with_reducible refine at_store 32 (.tmp 3) (.tmp 9) ?_); refine wpList_store_mid rfl 32 (.tmp 3) (.tmp 9) rfl (w.heap.size + 1) 0 (hcl m R).toArray rfl rfl T1.out I2.out (all_oneCell_toArray (hcl_one m R)) ?_; change wpList _ _ _ _ _ (((w.alloc (.cells (byts (List.replicate 32 0)).toArray 36)).alloc (.cells Tryd.zeroCells32 32)).setCells (w.heap.size + 1) 0 (hcl m R)); rw [← HW1.out]))
  obtain ⟨P, hP⟩ : ∃ P, P = padN m.length := ⟨_, rfl⟩
  have hPl := padN_length m.length
  have hPf := padN_full m.length
  rw [← hP] at hPl hPf
  have cp : ∀ w, Calls Tryd.prog 51 #[.int .u64 (m.length : Nat)] w fun e w' => e = .returned (.string (bs P)) ∧ Below w.heap.size w w' := fun w => by rw [hP]; exact padding_any m.length (by omega) w
  have hsb : sb (bs P) = P := sb_bs P (by rw [hP]; exact padN_lt _)
  have hbsz : (bs P).size ≤ 80 := by rw [bs_size]; omega
  have CP := Box.mk cp; have HP := Box.mk hP; have HSB := Box.mk hsb; have HPF := Box.mk hPf; have HBS := Box.mk hbsz
  clear cp hP hsb hPl hPf hbsz
  go_upto_region 3 with (first
    | (go_at_call 51; ((with_reducible refine (CP.out _).mono ?_); rintro e w3 ⟨rfl, b3⟩; have k7 := K5.out.below b3; have KT := ktab_below HK.out (bch K1.out b3); have Y1 := Box.mk (bch K1.out b3); have Y2 := Box.mk (there_below b3 K2.out); have K7 := Box.mk k7; have KT3 := Box.mk KT; clear k7 KT b3))
    | (go_at_call 15; refine (write_any (w.heap.size + 1) m R (bs P) _ K7.out (by have := HBS.out; omega) KT3.out (by omega)).mono ?_; rintro e w4 ⟨rfl, ⟨R4, h4⟩, d4⟩; have Y3 := Box.mk (bch' Y1.out (d4.below (B := w.heap.size) (by omega) Y1.out.size)); have Y4 := Box.mk (d4.there Y2.out (by omega)); have Y5 := Box.mk h4; clear h4 d4))
  obtain ⟨D, hD⟩ : ∃ D, D = stOf (m ++ sb (bs P)) := ⟨_, rfl⟩
  have hdig : digV D = shaN m := by
    rw [hD, HSB.out]
    unfold shaN stOf
    have hl2 : (m ++ P).length = m.length + P.length := by simp
    have hpl : 9 ≤ P.length := by rw [HP.out, padN_length]; omega
    have := HPF.out
    rw [hl2, if_neg (by omega), HP.out]
  have hDok : D.ok := by rw [hD]; exact stOf_ok _
  obtain ⟨g, hg⟩ : ∃ g, g = w4.heap.size := ⟨_, rfl⟩
  have z1 : (w4.alloc (.cells (byts (List.replicate 32 0)).toArray 36)).there g 0 32 := there_new w4 36 (byts (List.replicate 32 0)) g 0 32 hg (by decide)
  have z2 : (w4.alloc (.cells (byts (List.replicate 32 0)).toArray 36)).rangeAt g 0 (byts (List.replicate 32 0)) := range_new w4 _ _ g hg
  have z3 : (w4.alloc (.cells (byts (List.replicate 32 0)).toArray 36)).there w.heap.size 0 32 := World.there_alloc Y4.out _
  have z4 : Below w.heap.size w (w4.alloc (.cells (byts (List.replicate 32 0)).toArray 36)) := Y3.out.alloc Y3.out.size _
  have z5 : (w4.alloc (.cells (byts (List.replicate 32 0)).toArray 36)).rangeAt (w.heap.size + 1) 0 (v8c D) := World.rangeAt_alloc (by rw [hD]; exact Y5.out.st) _
  have hgw : w.heap.size ≤ g := by rw [hg]; exact Y3.out.size
  have hgn : w.heap.size < g := by
    rw [hg]
    exact World.block_lt_of_cell? w4 _ (Option.isSome_iff_exists.1 (Y4.out 0 (by omega)).1).choose_spec
  have Z1 := Box.mk z1; have Z2 := Box.mk z2; have Z3 := Box.mk z3; have Z4 := Box.mk z4; have Z5 := Box.mk z5; have HG := Box.mk hg; have HD := Box.mk hD; have HDG := Box.mk hdig; have HDK := Box.mk hDok
  clear z1 z2 z3 z4 z5 hg hD hdig hDok
  go_wp2_with (first
    | ((with_reducible refine at_load 28 (.tmp 16) ?_); refine wpList_load_mid rfl 28 (.tmp 16) rfl (w.heap.size + 1) 0 rfl (v8c D) _ Z5.out Tryd.underlying28 rfl (by kernel_rfl) ?_))
  rw [← HG.out]
  go_loopw [5, 6, 18] (fun _ _ i wr => ∃ k : Nat, k ≤ 8 ∧ i = .int .i64 k ∧ Box (wr.rangeAt g 0 (byts (dgl D k))) ∧ Box (wr.there g 0 32) ∧ Box (wr.there w.heap.size 0 32) ∧ Box (Below w.heap.size w wr))
    (fun _ _ i _ => 8 - (intOf i).toNat)
  case atStart => exact ⟨0, by omega, rfl, ⟨by rw [dgl_zero]; exact Z2.out⟩, Z1, Z3, Z4⟩
  case round =>
    clear Z1 Z2 Z3 Z4 Z5 Y1 Y2 Y3 Y4 Y5 K7 KT3
    obtain ⟨k, hk, rfl, f1, f2, f3, f4⟩ := hrel
    by_cases hlt : k < 8
    · have ix := fun w => index_arr (T := 28) (E := 27) (cs := v8c D) (v := .int .u32 ((D.l.getD k 0 : Nat) : Int)) w Tryd.underlying28 (by kernel_rfl) Tryd.underlying27 rfl k hlt (w32_get (l := D.l) (by simpa [V8.l] using hlt))
      have hfill := dgl_fill D hlt
      have hlen := dgl_length D hk
      have L2 : D.l.getD k 0 < 4294967296 := V8.l_lt HDK.out k
      obtain ⟨y, hy⟩ : ∃ y, y = D.l.getD k 0 := ⟨_, rfl⟩
      rw [← hy] at ix hfill L2
      obtain ⟨x0, hx0⟩ : ∃ x, x = 4 * k := ⟨_, rfl⟩
      have n0 : IntKind.i64.wrap (4 * (k : Int)) = x0 := by rw [i64_in (by omega) (by omega)]; omega
      have i00 : (0 : Int) ≤ (x0 : Int) := by omega
      have i01 : (x0 : Int) < 32 := by omega
      have i02 : x0 < 32 := by omega
      have hsl := fun w => slice_from (T := 36) (E := 5) (n := 32) g 0 x0 .i64 Tryd.underlying36 (by kernel_rfl) i02 w
      simp only [Nat.zero_add] at hsl
      have hcs : byts (be4 y) = (((bs (fx 4 y)).data.toList.take (32 - x0)).map fun q => Value.int .u8 (q.toNat : Int)) := by
        rw [List.take_of_length_le (by have : (bs (fx 4 y)).data.toList.length = (bs (fx 4 y)).size := by simp
                                       rw [this, bs_size, fx_length]; omega), ← fx4 L2, bs_cells (fx 4 y) (fx_lt 4 y)]
      have ny : IntKind.u64.wrap (y : Int) = (y : Int) := u64small (by omega)
      have tf : ∀ W : World, W.there g 0 32 → W.there g x0 (byts (be4 y)).length := fun W h => there_mono h (by omega) (by rw [byts_length, be4_length]; omega)
      have TF := Box.mk tf; have HCS := Box.mk hcs; have HX0 := Box.mk hx0; have HY := Box.mk hy; have HFI := Box.mk hfill; have HLE := Box.mk hlen
      clear tf hcs hx0 hy hfill hlen
      have t1 := f2.out
      have t2 := f3.out
      have t3 := f4.out
      go_wp2_with fail
      have HGW := Box.mk hgw; have HGN := Box.mk hgn
      clear hgn hgw hl hGl hbl t2 t3 c72
      go_region_held3 (fun w' => w'.there g 0 32)
        (first
          | (exact t1)
          | (exact there_below (by assumption) (by assumption))
          | (exact World.there_setCells (by assumption) _ _ _))
        (first
          | (go_at_call 52; ((with_reducible refine (hf4_any y _).mono ?_); rintro e w1 ⟨rfl, b1⟩))
          | (refine step_copy_str rfl (.tmp 24) (.tmp 27) 38 9 rfl 5 Tryd.underlying38 (by kernel_rfl) g x0 (32 - x0) (32 - x0) (bs (fx 4 y)) rfl rfl (byts (be4 y)) HCS.out (TF.out _ (by assumption)) ?_))
      go_wp2_with fail
      go_roundw
      case rel =>
        refine ⟨k + 1, by omega, by go_num, ⟨?_⟩, ⟨?_⟩, ⟨?_⟩, ⟨?_⟩⟩
        · have h := range_fill (w := w1) (o := 0) (p := x0) (l := dgl D k) (t := be4 y) (range_below (w := wr.drew) b1 ((World.rangeAt_drew _ _ _ _).2 f1.out)) (by rw [HLE.out, be4_length]; have := HX0.out; omega)
          rw [Nat.zero_add, HX0.out, HFI.out] at h
          rw [HX0.out]
          exact h
        · exact World.there_setCells (there_below (w := wr.drew) b1 ((World.there_drew _ _ _ _).2 f2.out)) _ _ _
        · exact World.there_setCells (there_below (w := wr.drew) b1 ((World.there_drew _ _ _ _).2 f3.out)) _ _ _
        · exact below_setCells HGW.out _ _ _ _ (bch f4.out.drew b1)
      case measure => simp [intOf]; omega
    · obtain rfl : 8 = k := by omega
      have h1 := f1.out
      rw [dgl_full, HDG.out] at h1
      have hlen : (byts (shaN m)).length = 32 := by rw [byts_length, shaN_length]
      have u1 : (Tryd.prog.info? 36).map (fun i => i.size) = some (byts (shaN m)).length := by rw [hlen]; kernel_rfl
      have u2 : (Tryd.prog.info? 36).map (fun i => i.size) = some (byts (shaN m)).toArray.size := by
        have e : (byts (shaN m)).toArray.size = 32 := by simp [hlen]
        have k0 : (Tryd.prog.info? 36).map (fun i => i.size) = some 32 := by kernel_rfl
        rw [e]; exact k0
      have u3 : wr.there w.heap.size 0 (byts (shaN m)).toArray.size := by
        have e : (byts (shaN m)).toArray.size = 32 := by simp [hlen]
        rw [e]; exact f3.out
      obtain ⟨s1, s2⟩ := store_arr (T := 36) (cs := byts (shaN m)) (by rw [hlen]; exact f3.out) u1 (byts_one _) Tryd.underlying36 rfl
      have b9 := below_setCells (b := w.heap.size) (Nat.le_refl _) (byts (shaN m)) 0 w wr f4.out
      have H1 := Box.mk h1; have U1 := Box.mk u1; have U2 := Box.mk u2; have U3 := Box.mk u3; have S2 := Box.mk s2; have B9 := Box.mk b9
      clear h1 u1 u2 u3 s1 s2 b9 hlen
      go_wp2_with (first
        | ((with_reducible refine at_load 36 (.tmp 4) ?_); refine wpList_load_mid rfl 36 (.tmp 4) rfl g 0 rfl (byts (shaN m)) _ H1.out Tryd.underlying36 rfl U1.out ?_)
        | ((with_reducible refine at_store 36 (.tmp 2) (.tmp 30) ?_); refine wpList_store_mid rfl 36 (.tmp 2) (.tmp 30) rfl w.heap.size 0 (byts (shaN m)).toArray rfl rfl U3.out U2.out (all_oneCell_toArray (byts_one _)) ?_))
      refine bodyPost_ret (v := .agg (byts (shaN m)).toArray) (results_one rfl rfl S2.out) rfl ⟨rfl, B9.out⟩
end Go.Proofs.YtdhbeeeofaheeaaDoor
