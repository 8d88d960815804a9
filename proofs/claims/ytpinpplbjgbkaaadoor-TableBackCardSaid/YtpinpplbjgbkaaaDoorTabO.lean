/- Tables' reference: lists of entries as structs of two strings; Find. -/
import Derived.Test.YtpinpplbjgbkaaaDoorTabM
import Derived.BigQuiet
namespace Go.Proofs.YtpinpplbjgbkaaaDoor
set_option maxRecDepth 100000
open Go.RowKit Go.Maps Go.Sort M

def rcE (x : Ent) : List Value := [.string (bs x.key), .string x.text]
theorem info_ref : (Tryd.prog.info? 73).map (fun i => (i.zero, i.size, i.bytes)) = some (some (.agg #[.string ⟨#[]⟩, .string ⟨#[]⟩]), 2, 32) := by kernel_rfl
theorem aset22 (w : World) (o : Obj) : Below w.heap.size w (w.alloc o) := (Below.refl _ _).alloc (Nat.le_refl _) _
/-- a slice that holds the entries -/
structure RefIn (w : World) (v : Value) (R : List Ent) : Prop where
  val : ∃ q c, v = .slice q R.length c
  cells : 0 < R.length → ∃ g c, v = .slice (some ⟨g, 0, none⟩) R.length c ∧ g < w.heap.size ∧ ∀ i x, R[i]? = some x → w.cell? ⟨g, i * 2, none⟩ = some (.string (bs x.key)) ∧ w.cell? ⟨g, i * 2 + 1, none⟩ = some (.string x.text)
theorem RefIn.below {w W : World} {v : Value} {R : List Ent} (h : RefIn w v R) (hb : Below w.heap.size w W) : RefIn W v R :=
  ⟨h.val, fun h0 => by
    obtain ⟨g, c, e, hg, hc⟩ := h.cells h0
    exact ⟨g, c, e, Nat.lt_of_lt_of_le hg hb.size, fun i x hx => ⟨(hb.cell hg).trans (hc i x hx).1, (hb.cell hg).trans (hc i x hx).2⟩⟩⟩
theorem flat2 : ∀ (R : List Ent) (i c : Nat) (x : Ent), R[i]? = some x → c < 2 → (R.flatMap rcE)[i * 2 + c]? = (rcE x)[c]?
  | [], i, c, x, h, _ => by simp at h
  | y :: R, 0, c, x, h, hc => by
    have h : y = x := by simpa using h
    subst h
    rw [List.flatMap_cons, Nat.zero_mul, Nat.zero_add, List.getElem?_append_left (by simpa [rcE] using hc)]
  | y :: R, i + 1, c, x, h, hc => by
    rw [List.flatMap_cons, List.getElem?_append_right (by simp [rcE]; omega)]
    rw [show (i + 1) * 2 + c - (rcE y).length = i * 2 + c by simp [rcE]; omega]
    exact flat2 R i c x (by simpa using h) hc
theorem RefIn.own {w : World} {B : Nat} {v : Value} {R : List Ent} (h : w.ownsRow B 73 2 v R.length (R.flatMap rcE)) : RefIn w v R := by
  rcases h.2 with ⟨hh, h0⟩ | ⟨g, cap, cur, hh, hg⟩
  · exact ⟨⟨_, _, by rw [hh, h0]⟩, fun h => absurd h (by omega)⟩
  · refine ⟨⟨_, _, hh⟩, fun _ => ⟨g, cap, hh, ?_, fun i x hx => ?_⟩⟩
    · rw [hh] at h; exact (h.lt g rfl).2
    · rw [hh] at h
      have hi := (List.getElem?_eq_some_iff.1 hx).1
      have c0 := h.cellAt (i * 2) (by omega)
      have c1 := h.cellAt (i * 2 + 1) (by omega)
      rw [show (R.flatMap rcE)[i * 2]? = (R.flatMap rcE)[i * 2 + 0]? from rfl, flat2 R i 0 x hx (by omega)] at c0
      rw [flat2 R i 1 x hx (by omega)] at c1
      exact ⟨c0, c1⟩

theorem bsk_eq {x y : Ent} : bs x.key = bs y.key ↔ x.key = y.key :=
  ⟨fun h => bs_inj (fun d hd => by have := x.kb d hd; omega) (fun d hd => by have := y.kb d hd; omega) h, fun h => by rw [h]⟩
/-- what Find answers -/
def FindP (R : List Ent) (x : Ent) (w : World) (e : Ending) (w' : World) : Prop :=
  Below w.heap.size w w' ∧ ((e = .returned (.int .i64 (-1)) ∧ ∀ y ∈ R, y.key ≠ x.key) ∨ ∃ (i : Nat) (y : Ent), e = .returned (.int .i64 (i : Int)) ∧ R[i]? = some y ∧ y.key = x.key)

set_option maxHeartbeats 1000000 in
theorem find_any (R : List Ent) (x : Ent) (v : Value) (w : World) (h : RefIn w v R) (hR : R.length ≤ 1000000) :
    Calls Tryd.prog 43 #[v, .string (bs x.key)] w (FindP R x w) := by
  obtain ⟨tq, tc, rfl⟩ := h.val
  have H := Box.mk h
  obtain ⟨S, hS⟩ : ∃ S, S = bs x.key := ⟨_, rfl⟩
  have hSK : ∀ y : Ent, (((bs y.key).toList == S.toList) = true ↔ y.key = x.key) := fun y => by
    rw [str_beq, decide_eq_true_iff, hS]; exact bsk_eq
  rw [← hS]
  have SK := Box.mk hSK
  clear h hS hSK
  go_enter Tryd.func43, Tryd.ntmps43
  go_wp2_with fail
  go_loopw [9] (fun i wr => ∃ (k : Nat), i = .int .i64 (k : Int) ∧ k ≤ R.length ∧ Box (∀ y ∈ R.take k, y.key ≠ x.key) ∧ Box (Below w.heap.size w wr)) (fun i _ => R.length - (intOf i).toNat)
  case atStart => exact ⟨0, rfl, by omega, ⟨fun y hy => by simp at hy⟩, ⟨Below.refl _ _⟩⟩
  case round =>
    obtain ⟨k, rfl, hk, hn, hb⟩ := hrel
    by_cases hlt : k < R.length
    · obtain ⟨g, c, hv, hg, hc⟩ := H.out.cells (by omega)
      obtain ⟨rfl, _, rfl⟩ := Value.slice.inj hv
      obtain ⟨y, hy⟩ : ∃ y, R[k]? = some y := ⟨_, List.getElem?_eq_getElem hlt⟩
      obtain ⟨c0, c1⟩ := hc k y hy
      have q0 : wr.cell? ⟨g, k * 2, none⟩ = some (.string (bs y.key)) := (hb.out.cell hg).trans c0
      have q1 : wr.cell? ⟨g, k * 2 + 1, none⟩ = some (.string y.text) := (hb.out.cell hg).trans c1
      have HB := Box.mk (hb.out.trans ((aset22 wr (.cells #[.string (bs y.key), .string y.text] 73)).mono hb.out.size))
      have hke : R.take (k + 1) = R.take k ++ [y] := by rw [List.take_add_one, hy, Option.toList_some]
      have KE := Box.mk hke
      have HY := Box.mk hy
      have hsz := hb.out.size
      have skk := SK.out y
      obtain ⟨A, hA⟩ : ∃ A, A = bs y.key := ⟨_, rfl⟩
      rw [← hA] at q0 HB skk
      clear hv hc c0 c1 hy hke hA
      obtain ⟨E, hE⟩ : ∃ E, (A.toList == S.toList) = E := ⟨_, rfl⟩
      rw [hE] at skk
      have SKK := Box.mk skk
      clear skk
      cases E with
      | true =>
        go_wp2_with fail
        go_ret
        exact ⟨HB.out, .inr ⟨k, y, rfl, HY.out, SKK.out.1 (by simp)⟩⟩
      | false =>
        go_wp2_with fail
        go_roundw
        case rel => exact ⟨k + 1, by go_num, by omega, ⟨fun z hz => by
          rw [KE.out] at hz
          rcases List.mem_append.1 hz with h | h
          · exact hn.out z h
          · have : z = y := by simpa using h
            rw [this]; intro e; have := SKK.out.2 e; cases this⟩, HB⟩
        case measure => simp [intOf] <;> omega
    · obtain rfl : k = R.length := by omega
      have HN := Box.mk (show ∀ y ∈ R, y.key ≠ x.key from fun y hy => hn.out y (by rw [List.take_length]; exact hy))
      clear hn
      go_wp2_with fail
      go_ret
      exact ⟨hb.out, .inl ⟨rfl, HN.out⟩⟩
end Go.Proofs.YtpinpplbjgbkaaaDoor
