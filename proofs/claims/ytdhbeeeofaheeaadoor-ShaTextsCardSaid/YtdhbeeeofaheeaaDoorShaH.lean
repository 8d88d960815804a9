/- Contracts of sha: the text of a digest. -/
import Derived.Test.YtdhbeeeofaheeaaDoorShaG
import Derived.Deep.AppendLies
import Derived.Deep.RegionHeld3
namespace Go.Proofs.YtdhbeeeofaheeaaDoor
set_option maxRecDepth 100000
open Go.RowKit M

/-- a digit -/
def hexd (q : Nat) : Nat := if q < 10 then 48 + q else 87 + q
/-- the digits of bytes -/
def hexL : List Nat → List Nat
  | [] => []
  | v :: l => hexd (v / 16) :: hexd (v % 16) :: hexL l
theorem hexL_append (l m : List Nat) : hexL (l ++ m) = hexL l ++ hexL m := by
  induction l with
  | nil => rfl
  | cons v l ih => simp [hexL, ih]
theorem hexL_length (l : List Nat) : (hexL l).length = 2 * l.length := by
  induction l with
  | nil => rfl
  | cons v l ih => simp [hexL, ih]; omega
theorem hexd_lt {q : Nat} (h : q < 16) : hexd q < 256 := by unfold hexd; split <;> omega
theorem hexL_lt (l : List Nat) (h : ∀ d ∈ l, d < 256) : ∀ d ∈ hexL l, d < 2 ^ 8 := by
  induction l with
  | nil => simp [hexL]
  | cons v l ih =>
    have hv := h v (by simp)
    intro d hd
    simp only [hexL, List.mem_cons] at hd
    rcases hd with rfl | rfl | hd
    · exact hexd_lt (by omega)
    · exact hexd_lt (by omega)
    · exact ih (fun x hx => h x (by simp [hx])) d hd
theorem hex_str : ∀ q : Fin 16, ((⟨#[48, 49, 50, 51, 52, 53, 54, 55, 56, 57, 97, 98, 99, 100, 101, 102]⟩ : ByteArray)[q.val]?).map UInt8.toNat = some (hexd q.val) := by decide
theorem hex_index {q : Nat} (h : q < 16) (w : World) : (Instr.index 9 (.string ⟨#[48, 49, 50, 51, 52, 53, 54, 55, 56, 57, 97, 98, 99, 100, 101, 102]⟩) (.int .u8 (q : Int))).run Tryd.prog w = .ok (.int .u8 (hexd q : Nat)) w := by
  have e := hex_str ⟨q, h⟩
  simp only at e
  cases hc : (⟨#[48, 49, 50, 51, 52, 53, 54, 55, 56, 57, 97, 98, 99, 100, 101, 102]⟩ : ByteArray)[q]? with
  | none => rw [hc] at e; simp at e
  | some c =>
    rw [hc] at e
    simp at e
    simp [Instr.index, run_underlying Tryd.underlying9, asIntOf, go_sem, hc, e]

theorem and8_15 {v r : Nat} (h : v < 256) (hr : r = v % 16) : bits BinOp.and IntKind.u8 (v : Int) 15 = (r : Int) := by
  have e := u8_and_nat v 15 h (by omega)
  rw [nat_mask4] at e
  rw [hr]; exact e

set_option maxRecDepth 100000 in
set_option maxHeartbeats 400000 in
theorem text_any (l : List Nat) (hl : l.length = 32) (hlt : ∀ d ∈ l, d < 256) (w : World) :
    Calls Tryd.prog 23 #[.agg (byts l).toArray] w fun e w' => e = .returned (.string (bs (hexL l))) ∧ Below w.heap.size w w' := by
  obtain ⟨i0, hi, hz0, hz1, hz2⟩ := info_parts info_byte
  have hsz : (Tryd.prog.info? 36).map (fun i => i.size) = some (byts l).length := by
    have := hash_size hl
    simpa using this
  have HSZ := Box.mk hsz; have HL := Box.mk hl; have HLT := Box.mk hlt
  clear hsz hl hlt
  go_enter Tryd.func23, Tryd.ntmps23
  have r0 : (w.alloc (.cells (byts l).toArray 36)).rangeAt w.heap.size 0 (byts l) := range_new w _ _ _ rfl
  have R0 := Box.mk r0; clear r0
  go_wp2_with (first
    | (at_make; refine wpList_make_own _ rfl (.const (.int .i64 0)) (.const (.int .i64 64)) 38 rfl w.heap.size 5 i0 (.int .u8 0) 1 Tryd.underlying38 hi hz0 hz1 .i64 .i64 64 64 rfl rfl rfl (by rw [hz2]; omega) (by unfold maxLen; omega) (by simp) ?_; intro w1 hown hg; have R1 : Box (w1.rangeAt w.heap.size 0 (byts l)) := ⟨fun j v hv => hg.cell (R0.out j v hv) (by simp)⟩; have O1 := Box.mk hown; have G1 := Box.mk hg; clear hown hg)
    | ((with_reducible refine at_load 36 (.tmp 1) ?_); refine wpList_load_mid rfl 36 (.tmp 1) rfl w.heap.size 0 rfl (byts l) _ R1.out Tryd.underlying36 rfl HSZ.out ?_))
  have hb0 : Below w.heap.size w w1 := ((Below.refl _ _).alloc (Nat.le_refl _) _).grown G1.out (by simp) (fun k h => by cases h)
  have HB0 := Box.mk hb0; clear hb0
  go_loopw [3, 5, 8] (fun o _ i wr => ∃ k : Nat, k ≤ 32 ∧ i = .int .i64 k ∧ Box (wr.ownsRow w.heap.size 5 1 o (2 * k) (byts (hexL (l.take k)))) ∧ Box (Below w.heap.size w wr) ∧ ∃ g cap, o = .slice (some ⟨g, 0, none⟩) (2 * k) cap)
    (fun _ _ i _ => 32 - (intOf i).toNat)
  case atStart => exact ⟨0, by omega, rfl, ⟨by have h := O1.out; rw [show (w.alloc (Obj.cells (byts l).toArray 36)).heap.size = w.heap.size + 1 by simp] at h; exact h⟩, HB0, _, _, rfl⟩
  case round =>
    obtain ⟨k, hk, rfl, hown, hb, g, cap, rfl⟩ := hrel
    clear R0 R1 O1 G1 HB0
    by_cases hlt : k < 32
    · obtain ⟨v, hv⟩ : ∃ v, v = l.getD k 0 := ⟨_, rfl⟩
      have hv256 : v < 256 := by rw [hv]; exact HLT.out _ (getD_mem (by rw [HL.out]; exact hlt))
      have ix := fun w => index_arr (T := 36) (E := 5) (n := 32) (cs := byts l) (v := .int .u8 ((v : Nat) : Int)) w Tryd.underlying36 (by kernel_rfl) Tryd.underlying5 rfl k hlt (by rw [hv]; simp [byts, List.getD, HL.out, hlt])
      obtain ⟨q, hq⟩ : ∃ q, q = v / 16 := ⟨_, rfl⟩
      obtain ⟨r, hr⟩ : ∃ r, r = v % 16 := ⟨_, rfl⟩
      have e1 : (v : Int) / 16 = (q : Int) := by omega
      have e2 : bits BinOp.and IntKind.u8 (v : Int) 15 = (r : Int) := and8_15 hv256 hr
      have hx1 := fun w => hex_index (q := q) (by omega) w
      have hx2 := fun w => hex_index (q := r) (by omega) w
      have hsn : hexL (l.take (k + 1)) = hexL (l.take k) ++ [hexd q, hexd r] := by
        rw [List.take_succ_eq_append_getElem (by rw [HL.out]; exact hlt), hexL_append, hq, hr, hv]
        simp [hexL, List.getD, HL.out, hlt]
      obtain ⟨d1, hd1⟩ : ∃ d, d = hexd q := ⟨_, rfl⟩
      obtain ⟨d2, hd2⟩ : ∃ d, d = hexd r := ⟨_, rfl⟩
      rw [← hd1] at hx1 hsn
      rw [← hd2] at hx2 hsn
      have HSN := Box.mk hsn; have HQ := Box.mk hq; have HR := Box.mk hr; have HV := Box.mk hv; have HD1 := Box.mk hd1; have HD2 := Box.mk hd2
      clear hsn hq hr hv hd1 hd2
      go_wp2_with fail
      have hnb := hb.out.size
      have hO := hown.out
      go_region_held3 (fun _ => True) (trivial)
        ((refine step_append_lies _ (by rfl) _ _ _ (by rfl) w.heap.size 5 i0 _ 1 1 Tryd.underlying38 hi hz0 hz1 hz2 rfl (by omega) _ _ _ (by rfl) ((hO.alloc _).drew) ⟨wr.heap.size, 0, none⟩ 2 2 [.int .u8 (d1 : Int), .int .u8 (d2 : Int)] (by rfl) (by rfl) (World.news_of_block (cs := #[.int .u8 (d1 : Int), .int .u8 (d2 : Int)]) (t := 5) (fr := (0, 0)) (heap_alloc_new _ _)) (by simp [Value.oneCell']) (by omega) (by unfold maxLen; omega) (by omega) (by simp; omega) (wr.heap.size + 1) (by simp) ?_; intro gg cc w1 hown1 hgrow hat hlt2))
      all_goals
        go_wp2_with fail
        go_roundw
        case rel =>
          refine ⟨k + 1, by omega, by go_num, ⟨?_⟩, ⟨?_⟩, gg, cc, ?_⟩
          · rw [HSN.out, show 2 * (k + 1) = 2 * k + 2 by omega]
            simpa [byts] using hown1
          · exact ((hb.out.alloc hnb _).drew).grown hgrow (by simp; omega) (fun q hq => (hO.lt q hq).1)
          · rw [show 2 * (k + 1) = 2 * k + 2 by omega]
        case measure => simp [intOf]; omega
    · obtain rfl : 32 = k := by omega
      have ho := hown.out
      rw [List.take_of_length_le (by rw [HL.out]; omega)] at ho
      have hconv := conv_bytes ho
      have HO := Box.mk ho; clear ho
      go_wp2
      go_ret
      exact ⟨rfl, hb.out⟩
end Go.Proofs.YtdhbeeeofaheeaaDoor
