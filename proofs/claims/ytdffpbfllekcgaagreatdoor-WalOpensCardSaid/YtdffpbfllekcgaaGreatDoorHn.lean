/- PackI, PackJ, PackK, PackL, in one text. -/
import Derived.Test.YtdffpbfllekcgaaGreatDoorHm
import Derived.Deep.RegionWith
import Derived.Deep.RegionHeld3
import Derived.Test.YtdffpbfllekcgaaGreatDoorHc
namespace Go.Proofs.YtdffpbfllekcgaaGreatDoor
set_option maxRecDepth 100000
open Go.RowKit M

set_option maxRecDepth 100000 in
set_option maxHeartbeats 600000 in
theorem refFixed_any (v n : Nat) (hv : v < 18446744073709551616) (h1 : 1 ≤ n) (h8 : n ≤ 8) (w : World) :
    Calls Tryz.prog 106 #[.int .u64 v, .int .i64 n] w fun e w' => e = .returned (.string (bs (fx n v))) ∧ Below w.heap.size w w' := by
  obtain ⟨l, hl⟩ : ∃ l, l = bytesN n v := ⟨_, rfl⟩
  have hll : l.length = n := by rw [hl, bytesN_length]
  have hlt : ∀ d ∈ l, d < 2 ^ 8 := by rw [hl]; exact bytesN_lt n v
  have cb := refBytes_any v (n : Int) hv w
  rw [show cl8 (n : Int) = n by unfold cl8; rw [if_neg (by omega), if_neg (by omega), Int.toNat_natCast], ← hl] at cb
  obtain ⟨S, hS⟩ : ∃ S, S = bs l := ⟨_, rfl⟩
  have hSs : S.size = n := by rw [hS, bs_size, hll]
  have hbn : ∀ j, j < n → bn S j = l.getD j 0 := fun j hj => by rw [hS]; exact bn_bs l hlt j (by omega)
  have hfin : bs (fx n v) = bs l.reverse := by rw [hl]; rfl
  rw [← hS] at cb
  rw [hfin]
  have CB := Box.mk cb; have HL := Box.mk hll; have HLT := Box.mk hlt; have HBN := Box.mk hbn; have HSS := Box.mk hSs
  clear cb hl hll hlt hS hSs hbn hfin
  go_enter Tryz.func106, Tryz.ntmps106
  go_wp2_with (go_at_call 119; refine CB.out.mono ?_; rintro e w1 ⟨rfl, b1⟩; obtain ⟨cap, W, hcv, hcell, hbW, hltW⟩ := str_bytes w1 S; rw [HSS.out] at hcv hcell; have HCL := Box.mk hcell; have HB := Box.mk (bch b1 hbW); have HLW := Box.mk hltW; clear hcell b1 hbW hltW)
  clear hcv
  obtain ⟨g, hg⟩ : ∃ g, g = w1.heap.size := ⟨_, rfl⟩
  rw [← hg]
  have hc2 := HCL.out
  have hlw := HLW.out
  rw [← hg] at hc2 hlw
  have HC2 := Box.mk hc2; have HLW2 := Box.mk hlw
  clear hc2 hlw HCL HLW hg
  go_loopw [5, 7, 13] (fun x _ i wr => ∃ k : Nat, k ≤ n ∧ i = .int .i64 k ∧ x = .string (bs (l.take k).reverse) ∧ Box (∀ j, j < n → wr.cell? ⟨g, j, none⟩ = some (.int .u8 ((bn S j : Nat) : Int))) ∧ Box (Below w.heap.size w wr)) (fun _ _ i _ => n - (intOf i).toNat)
  case atStart => exact ⟨0, by omega, rfl, rfl, HC2, HB⟩
  case round =>
    obtain ⟨k, hk, rfl, rfl, hc, hb⟩ := hrel
    clear HC2 HB HLW2
    by_cases hlt2 : k < n
    · have hcell := hc.out k hlt2
      rw [HBN.out k hlt2] at hcell
      have hsn : (l.take (k + 1)).reverse = l.getD k 0 :: (l.take k).reverse := by
        rw [List.take_succ_eq_append_getElem (by rw [HL.out]; exact hlt2)]
        simp [List.getD, HL.out, hlt2]
      have hd : l.getD k 0 < 256 := HLT.out _ (getD_mem (by rw [HL.out]; exact hlt2))
      generalize l.getD k 0 = d at *
      have hconv := conv_one wr d
      have s1 : (bs (l.take k).reverse).size ≤ 8 := by rw [bs_size]; simp; omega
      have s2 : (bs [d]).size ≤ 1 := by rw [bs_size]; simp
      have HSN := Box.mk hsn; clear hsn
      go_wp2
      go_roundw
      case rel =>
        refine ⟨k + 1, by omega, by go_num, by rw [bs_append, HSN.out]; rfl, ⟨fun j hj => ?_⟩, ⟨hb.out.alloc hb.out.size _⟩⟩
        have h := hc.out j hj
        rw [World.cell?_alloc_lt _ _ _ (World.block_lt_of_cell? wr _ h)]
        exact h
      case measure => simp [intOf]; omega
    · obtain rfl : n = k := by omega
      have e : l.take n = l := List.take_of_length_le (by rw [HL.out]; omega)
      go_wp2
      go_ret
      exact ⟨by rw [e]; rfl, hb.out⟩

theorem conv_cell (w : World) (g b : Nat) (h : w.cell? ⟨g, 0, none⟩ = some (.int .u8 (b : Int))) : (convert 52 9 (.slice (some ⟨g, 0, none⟩) 1 1)).run Tryz.prog w = .ok (.string (bs [b])) w := by
  refine run_convert_bytes_arg (P := Tryz.prog) _ 52 5 Tryz.underlying52 Tryz.underlying5 g 0 1 1 [(b : Int)] rfl (fun i hi => ?_) 9 Tryz.underlying9
  obtain rfl : i = 0 := by omega
  exact h
theorem field_some {v k : Nat} (hv : v < 18446744073709551616) (h1 : 1 ≤ k) (h7 : k ≤ 7) : (0 < fieldN v (8 * (k : Int)) 64) ↔ k < szN v := by
  have e : fieldN v (8 * (k : Int)) 64 = v / 2 ^ (8 * k) := by
    unfold fieldN
    rw [if_pos (by omega), show cl 64 = 64 by decide, show (8 * (k : Int)).toNat = 8 * k by omega]
    refine Nat.mod_eq_of_lt (Nat.lt_of_le_of_lt (Nat.div_le_self _ _) ?_)
    have h3 : (2 : Nat) ^ 64 = 18446744073709551616 := by decide
    omega
  rw [e]
  rcases (by omega : k = 1 ∨ k = 2 ∨ k = 3 ∨ k = 4 ∨ k = 5 ∨ k = 6 ∨ k = 7) with rfl | rfl | rfl | rfl | rfl | rfl | rfl
  all_goals
    unfold szN
    constructor
    · intro h
      have := Nat.pos_of_ne_zero (fun e => by rw [e] at h; omega : v / _ ≠ 0)
      simp at h
      (repeat' split) <;> omega
    · intro h
      simp
      (repeat' split at h) <;> omega

end Go.Proofs.YtdffpbfllekcgaaGreatDoor
namespace Go.Proofs.YtdffpbfllekcgaaGreatDoor
set_option maxRecDepth 100000
open Go.RowKit M

theorem numV_lt (T : ByteArray) (a x : Nat) : numV T a x < 18446744073709551616 := by
  unfold numV
  have h1 := fixU_lt T a x 1 (by omega)
  split
  · omega
  · split
    · exact fixU_lt64 _ _ _ _ (by omega)
    · omega
theorem numA_le {T : ByteArray} {a x : Nat} (h : a ≤ T.size) : numA T a x ≤ T.size := by
  have hr : ∀ (a' x' : Nat) (n : Int), a' ≤ T.size → rawA T a' x' n ≤ T.size := fun a' x' n h' => by
    unfold rawA; split <;> omega
  unfold numA
  split
  · exact hr _ _ _ h
  · split
    · exact hr _ _ _ (hr _ _ _ h)
    · exact h

def txtE (T : ByteArray) (a x : Nat) (most : Int) : Nat := if max most 0 < (numV T a x : Int) then (if numX T a x = 0 then 12 else numX T a x) else numX T a x
def txtK (T : ByteArray) (a x : Nat) : Int := IntKind.i64.wrap (numV T a x : Int)
def txtX (T : ByteArray) (a x : Nat) (most : Int) : Nat := rawX T (numA T a x) (txtE T a x most) (txtK T a x)
def txtA (T : ByteArray) (a x : Nat) (most : Int) : Nat := if txtX T a x most = 0 then rawA T (numA T a x) (txtE T a x most) (txtK T a x) else a
def txtS (T : ByteArray) (a x : Nat) (most : Int) : ByteArray := rawS T (numA T a x) (txtE T a x most) (txtK T a x)

end Go.Proofs.YtdffpbfllekcgaaGreatDoor
namespace Go.Proofs.YtdffpbfllekcgaaGreatDoor
set_option maxRecDepth 100000
open Go.RowKit M

theorem sb_part (T : ByteArray) (a b : Nat) (_h : b ≤ T.size) : sb (T.extract a b) = ((sb T).drop a).take (b - a) := by
  rw [sb_data, sb_data, ByteArray.data_extract, Array.toList_extract, List.extract_eq_take_drop, List.map_take, List.map_drop]
theorem raw_ok {T : ByteArray} {a x : Nat} {n : Int} (h : rawX T a x n = 0) : x = 0 ∧ 0 ≤ n ∧ n ≤ ((T.size - a : Nat) : Int) ∧ rawA T a x n = a + n.toNat ∧ rawS T a x n = T.extract a (a + n.toNat) := by
  unfold rawX at h
  by_cases hx : x = 0
  · rw [if_pos hx] at h
    by_cases hn : 0 ≤ n ∧ n ≤ ((T.size - a : Nat) : Int)
    · refine ⟨hx, hn.1, hn.2, ?_, ?_⟩
      · unfold rawA; rw [if_pos ⟨hx, hn⟩]
      · unfold rawS; rw [if_pos ⟨hx, hn⟩]
    · rw [if_neg hn] at h; omega
  · rw [if_neg hx] at h; omega

/-- what is read as a number is its bytes -/
theorem num_read {T : ByteArray} (h : numX T 0 0 = 0) : (sb T).take (numA T 0 0) = numL (numV T 0 0) ∧ numA T 0 0 ≤ T.size := by
  have hf1 := fixU_lt T 0 0 1 (by omega)
  by_cases hs : fixU T 0 0 1 < 248
  · have e1 : numX T 0 0 = rawX T 0 0 ((1 : Nat) : Int) := by unfold numX; rw [if_pos hs]; rfl
    rw [e1] at h
    obtain ⟨_, _, hle, hA, hS⟩ := raw_ok h
    have e2 : numA T 0 0 = 1 := by unfold numA; rw [if_pos hs]; exact hA
    have e3 : numV T 0 0 = fixU T 0 0 1 := by unfold numV; rw [if_pos hs]
    have hu : fixU T 0 0 1 = un ((sb T).take 1) := by
      unfold fixU; rw [hS]
      have := sb_part T 0 1 (by omega)
      rw [List.drop_zero] at this
      exact congrArg un this
    rw [e2, e3]
    refine ⟨?_, by omega⟩
    unfold numL
    rw [if_pos hs, hu]
    have hl : ((sb T).take 1).length = 1 := by rw [List.length_take, sb_length]; omega
    match hm : (sb T).take 1, hl with
    | [c], _ => rw [un_one]
  · have hb := fun (hE : numE T 0 0 = 0) => hE
    have e1 : numX T 0 0 = numE T 0 0 := by unfold numX; rw [if_neg hs]
    rw [e1] at h
    obtain ⟨k, hk⟩ : ∃ k, k = fixU T 0 0 1 - 247 := ⟨_, rfl⟩
    have hk8 : 1 ≤ k ∧ k ≤ 8 := by omega
    have h' := h
    unfold numE at h'
    rw [← hk] at h'
    by_cases hc : fixU T (rawA T 0 0 1) (rawX T 0 0 1) k < 248 ∨ szN (fixU T (rawA T 0 0 1) (rawX T 0 0 1) k) ≠ k
    · rw [if_pos hc] at h'
      split at h'
      · omega
      · rename_i hh; exact absurd h' hh
    · rw [if_neg hc] at h'
      obtain ⟨hx1, _, hle2, hA2, hS2⟩ := raw_ok h'
      obtain ⟨_, _, hle1, hA1, hS1⟩ := raw_ok hx1
      have ha1 : rawA T 0 0 1 = 1 := hA1
      rw [ha1] at hc hle2 hA2 hS2
      rw [hx1] at hc hA2 hS2
      have hT : 1 + k ≤ T.size := by omega
      have e2 : numA T 0 0 = 1 + k := by
        unfold numA; rw [if_neg hs, if_pos h, ← hk, ha1, hx1, hA2, Int.toNat_natCast]
      have e3 : numV T 0 0 = fixU T 1 0 k := by unfold numV; rw [if_neg hs, if_pos h, ← hk, ha1, hx1]
      have hu : fixU T 1 0 k = un (((sb T).drop 1).take k) := by
        unfold fixU; rw [hS2, Int.toNat_natCast, sb_part T 1 (1 + k) hT, show 1 + k - 1 = k by omega]
      have hf : fixU T 0 0 1 = un ((sb T).take 1) := by
        unfold fixU
        have hS1' : rawS T 0 0 ((1 : Nat) : Int) = T.extract 0 (0 + 1) := hS1
        rw [hS1']
        have := sb_part T 0 1 (by omega)
        rw [List.drop_zero] at this
        exact congrArg un this
      rw [e2, e3]
      refine ⟨?_, hT⟩
      have hne : ¬ fixU T 1 0 k < 248 := fun hh => hc (.inl hh)
      have hsz : szN (fixU T 1 0 k) = k := by
        by_cases he : szN (fixU T 1 0 k) = k
        · exact he
        · exact absurd (.inr he) hc
      unfold numL
      rw [if_neg hne, hsz, hu]
      have hlk : (((sb T).drop 1).take k).length = k := by rw [List.length_take, List.length_drop, sb_length]; omega
      have hfx := fx_un (l := ((sb T).drop 1).take k) (fun d hd => sb_lt T d (List.mem_of_mem_drop (List.mem_of_mem_take hd)))
      rw [hlk] at hfx
      rw [hfx]
      have hl1 : ((sb T).take 1).length = 1 := by rw [List.length_take, sb_length]; omega
      rw [List.take_add]
      match hm : (sb T).take 1, hl1 with
      | [c], _ =>
        rw [hm, un_one] at hf
        rw [show 247 + k = c by omega]
        rfl

theorem txt_read {T : ByteArray} (_hT : T.size ≤ 1000000) {most : Int} (h : txtX T 0 0 most = 0) (ha : txtA T 0 0 most = T.size) : sb T = txtL (sb (txtS T 0 0 most)) := by
  have hX := h
  unfold txtX at hX
  obtain ⟨hE, hk0, hk1, hA, hS⟩ := raw_ok hX
  have hE' := hE
  unfold txtE at hE'
  by_cases hc : max most 0 < (numV T 0 0 : Int)
  · rw [if_pos hc] at hE'
    split at hE'
    · omega
    · rename_i hh; exact absurd hE' hh
  · rw [if_neg hc] at hE'
    obtain ⟨hn, hnle⟩ := num_read hE'
    have ha2 := ha
    unfold txtA at ha2
    rw [if_pos h, hA] at ha2
    have hvl := numV_lt T 0 0
    have hK : txtK T 0 0 = (numV T 0 0 : Int) := by
      unfold txtK at hk0 hk1 ⊢
      rw [IntKind.wrap_i64] at hk0 hk1 ⊢
      omega
    rw [hK, Int.toNat_natCast] at ha2
    have hS' : txtS T 0 0 most = T.extract (numA T 0 0) (numA T 0 0 + numV T 0 0) := by
      unfold txtS; rw [hS, hK, Int.toNat_natCast]
    have hsb : sb (txtS T 0 0 most) = (sb T).drop (numA T 0 0) := by
      rw [hS', sb_part _ _ _ (by omega), List.take_of_length_le (by rw [List.length_drop, sb_length]; omega)]
    have hlen : (sb (txtS T 0 0 most)).length = numV T 0 0 := by rw [hsb, List.length_drop, sb_length]; omega
    unfold txtL
    rw [hlen, ← hn, hsb, List.take_append_drop]
end Go.Proofs.YtdffpbfllekcgaaGreatDoor
namespace Go.Proofs.YtdffpbfllekcgaaGreatDoor
set_option maxRecDepth 100000
open Go.RowKit M

theorem cut_le (s : ByteArray) (n : Nat) : (s.extract 0 n).size ≤ n := by simp; omega
theorem fixU_err {T : ByteArray} {a x : Nat} (h : x ≠ 0) : fixU T a x 1 = 0 := fixU_none (by unfold rawX; rw [if_neg h]; exact h)
theorem num_err {T : ByteArray} {a x : Nat} (h : x ≠ 0) : numA T a x = a ∧ numX T a x = x ∧ numV T a x = 0 := by
  have e := fixU_err (T := T) (a := a) h
  refine ⟨?_, ?_, ?_⟩
  · unfold numA; rw [e, if_pos (by omega)]; unfold rawA; rw [if_neg (fun hh => h hh.1)]
  · unfold numX; rw [e, if_pos (by omega)]; unfold rawX; rw [if_neg h]
  · unfold numV; rw [e, if_pos (by omega)]

theorem rd_below {w w' : World} {b : Nat} {T : ByteArray} {a x : Nat} (h : Rd w b T a x) (hb : Below w.heap.size w w') : Rd w' b T a x := by
  have hlt : b < w.heap.size := World.block_lt_of_cell? w _ h.c0
  have hc : ∀ o, w'.cell? ⟨b, o, none⟩ = w.cell? ⟨b, o, none⟩ := fun o => hb.cell (p := ⟨b, o, none⟩) hlt
  have hf : ∀ o, w'.frozen? ⟨b, o, none⟩ = w.frozen? ⟨b, o, none⟩ := fun o => hb.frozen (p := ⟨b, o, none⟩) hlt
  exact ⟨by rw [hc]; exact h.c0, by rw [hc]; exact h.c1, by rw [hc]; exact h.c2, by rw [hf]; exact h.f1, by rw [hf]; exact h.f2, h.le, h.sz⟩
theorem done_zero {x a : Nat} {T : ByteArray} (hle : a ≤ T.size) (h : (if x = 0 ∧ a < T.size then 3 else x) = 0) : x = 0 ∧ a = T.size := by
  by_cases hc : x = 0 ∧ a < T.size
  · rw [if_pos hc] at h; omega
  · rw [if_neg hc] at h; exact ⟨h, by omega⟩

end Go.Proofs.YtdffpbfllekcgaaGreatDoor
