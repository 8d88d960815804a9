/- TabM, TabO, TabP, in one text. -/
import Derived.Test.YtacfdnjdjgdbcaaGreatDoorTe
import Derived.BigQuiet
namespace Go.Proofs.YtacfdnjdjgdbcaaGreatDoor
set_option maxRecDepth 100000
open Go.RowKit Go.Maps Go.Sort M

theorem TExt.below {b B : Nat} {mo mo' : Option Nat} {w w' : World} (h : TExt b mo mo' w w') (hB : B ≤ b) (hs : B ≤ w.heap.size) (hm : ∀ m, mo = some m → B ≤ m) : Below B w w' :=
  ⟨h.os, h.tape, h.output, h.size, fun k hk => h.block k (by omega) (by omega) (fun e => by have := hm k e; omega)⟩

/-! ### bytes that are read as a table are its bytes -/
theorem trising_one {xs ys : List Ent} (hp : xs.Perm ys) (h1 : Rising xs) (h2 : Rising ys) : xs = ys := by
  refine List.Perm.eq_of_pairwise (le := fun a b => cfE a b < 0) (fun a b _ _ h1 h2 => ?_) h1 h2 hp
  have := cb_trans _ _ _ h1 h2
  rw [cb_self] at this
  exact absurd this (by decide)
end Go.Proofs.YtacfdnjdjgdbcaaGreatDoor
namespace Go.Proofs.YtacfdnjdjgdbcaaGreatDoor
set_option maxRecDepth 100000
open Go.RowKit Go.Maps Go.Sort M

def rcE (x : Ent) : List Value := [.string (bs x.key), .string x.text]
theorem info_ref : (Tryz.prog.info? 71).map (fun i => (i.zero, i.size, i.bytes)) = some (some (.agg #[.string ⟨#[]⟩, .string ⟨#[]⟩]), 2, 32) := by kernel_rfl
theorem aset22 (w : World) (o : Obj) : Below w.heap.size w (w.alloc o) := (Below.refl _ _).alloc (Nat.le_refl _) _
/-- a slice that holds the entries -/
structure RefIn (w : World) (v : Value) (R : List Ent) : Prop where
  val : ∃ q c, v = .slice q R.length c
  cells : 0 < R.length → ∃ g c, v = .slice (some ⟨g, 0, none⟩) R.length c ∧ g < w.heap.size ∧ ∀ i x, R[i]? = some x → w.cell? ⟨g, i * 2, none⟩ = some (.string (bs x.key)) ∧ w.cell? ⟨g, i * 2 + 1, none⟩ = some (.string x.text)
theorem RefIn.below {w W : World} {v : Value} {R : List Ent} (h : RefIn w v R) (hb : Below w.heap.size w W) : RefIn W v R :=
  ⟨h.val, fun h0 => by
    obtain ⟨g, c, e, hg, hc⟩ := h.cells h0
    exact ⟨g, c, e, Nat.lt_of_lt_of_le hg hb.size, fun i x hx => ⟨(hb.cell hg).trans (hc i x hx).1, (hb.cell hg).trans (hc i x hx).2⟩⟩⟩
theorem flat2 : ∀ (R : List Ent) (i c : Nat) (x : Ent), R[i]? = some x → c < 2 → (R.flatMap rcE)[i * 2 + c]? = (rcE x)[c]?
  | [], i, c, x, h, _ => by simp at h
  | y :: R, 0, c, x, h, hc => by
    have h : y = x := by simpa using h
    subst h
    rw [List.flatMap_cons, Nat.zero_mul, Nat.zero_add, List.getElem?_append_left (by simpa [rcE] using hc)]
  | y :: R, i + 1, c, x, h, hc => by
    rw [List.flatMap_cons, List.getElem?_append_right (by simp [rcE]; omega)]
    rw [show (i + 1) * 2 + c - (rcE y).length = i * 2 + c by simp [rcE]; omega]
    exact flat2 R i c x (by simpa using h) hc
theorem RefIn.own {w : World} {B : Nat} {v : Value} {R : List Ent} (h : w.ownsRow B 71 2 v R.length (R.flatMap rcE)) : RefIn w v R := by
  rcases h.2 with ⟨hh, h0⟩ | ⟨g, cap, cur, hh, hg⟩
  · exact ⟨⟨_, _, by rw [hh, h0]⟩, fun h => absurd h (by omega)⟩
  · refine ⟨⟨_, _, hh⟩, fun _ => ⟨g, cap, hh, ?_, fun i x hx => ?_⟩⟩
    · rw [hh] at h; exact (h.lt g rfl).2
    · rw [hh] at h
      have hi := (List.getElem?_eq_some_iff.1 hx).1
      have c0 := h.cellAt (i * 2) (by omega)
      have c1 := h.cellAt (i * 2 + 1) (by omega)
      rw [show (R.flatMap rcE)[i * 2]? = (R.flatMap rcE)[i * 2 + 0]? from rfl, flat2 R i 0 x hx (by omega)] at c0
      rw [flat2 R i 1 x hx (by omega)] at c1
      exact ⟨c0, c1⟩

theorem bsk_eq {x y : Ent} : bs x.key = bs y.key ↔ x.key = y.key :=
  ⟨fun h => bs_inj (fun d hd => by have := x.kb d hd; omega) (fun d hd => by have := y.kb d hd; omega) h, fun h => by rw [h]⟩
/-- what Find answers -/
def FindP (R : List Ent) (x : Ent) (w : World) (e : Ending) (w' : World) : Prop :=
  Below w.heap.size w w' ∧ ((e = .returned (.int .i64 (-1)) ∧ ∀ y ∈ R, y.key ≠ x.key) ∨ ∃ (i : Nat) (y : Ent), e = .returned (.int .i64 (i : Int)) ∧ R[i]? = some y ∧ y.key = x.key)

set_option maxHeartbeats 1000000 in
theorem tfind_any (R : List Ent) (x : Ent) (v : Value) (w : World) (h : RefIn w v R) (hR : R.length ≤ 1000000) :
    Calls Tryz.prog 92 #[v, .string (bs x.key)] w (FindP R x w) := by
  obtain ⟨tq, tc, rfl⟩ := h.val
  have H := Box.mk h
  obtain ⟨S, hS⟩ : ∃ S, S = bs x.key := ⟨_, rfl⟩
  have hSK : ∀ y : Ent, (((bs y.key).toList == S.toList) = true ↔ y.key = x.key) := fun y => by
    rw [str_beq, decide_eq_true_iff, hS]; exact bsk_eq
  rw [← hS]
  have SK := Box.mk hSK
  clear h hS hSK
  go_enter Tryz.func92, Tryz.ntmps92
  go_wp2_with fail
  go_loopw [9] (fun i wr => ∃ (k : Nat), i = .int .i64 (k : Int) ∧ k ≤ R.length ∧ Box (∀ y ∈ R.take k, y.key ≠ x.key) ∧ Box (Below w.heap.size w wr)) (fun i _ => R.length - (intOf i).toNat)
  case atStart => exact ⟨0, rfl, by omega, ⟨fun y hy => by simp at hy⟩, ⟨Below.refl _ _⟩⟩
  case round =>
    obtain ⟨k, rfl, hk, hn, hb⟩ := hrel
    by_cases hlt : k < R.length
    · obtain ⟨g, c, hv, hg, hc⟩ := H.out.cells (by omega)
      obtain ⟨rfl, _, rfl⟩ := Value.slice.inj hv
      obtain ⟨y, hy⟩ : ∃ y, R[k]? = some y := ⟨_, List.getElem?_eq_getElem hlt⟩
      obtain ⟨c0, c1⟩ := hc k y hy
      have q0 : wr.cell? ⟨g, k * 2, none⟩ = some (.string (bs y.key)) := (hb.out.cell hg).trans c0
      have q1 : wr.cell? ⟨g, k * 2 + 1, none⟩ = some (.string y.text) := (hb.out.cell hg).trans c1
      have HB := Box.mk (hb.out.trans ((aset22 wr (.cells #[.string (bs y.key), .string y.text] 71)).mono hb.out.size))
      have hke : R.take (k + 1) = R.take k ++ [y] := by rw [List.take_add_one, hy, Option.toList_some]
      have KE := Box.mk hke
      have HY := Box.mk hy
      have hsz := hb.out.size
      have skk := SK.out y
      obtain ⟨A, hA⟩ : ∃ A, A = bs y.key := ⟨_, rfl⟩
      rw [← hA] at q0 HB skk
      clear hv hc c0 c1 hy hke hA
      obtain ⟨E, hE⟩ : ∃ E, (A.toList == S.toList) = E := ⟨_, rfl⟩
      rw [hE] at skk
      have SKK := Box.mk skk
      clear skk
      cases E with
      | true =>
        go_wp2_with fail
        go_ret
        exact ⟨HB.out, .inr ⟨k, y, rfl, HY.out, SKK.out.1 (by simp)⟩⟩
      | false =>
        go_wp2_with fail
        go_roundw
        case rel => exact ⟨k + 1, by go_num, by omega, ⟨fun z hz => by
          rw [KE.out] at hz
          rcases List.mem_append.1 hz with h | h
          · exact hn.out z h
          · have : z = y := by simpa using h
            rw [this]; intro e; have := SKK.out.2 e; cases this⟩, HB⟩
        case measure => simp [intOf] <;> omega
    · obtain rfl : k = R.length := by omega
      have HN := Box.mk (show ∀ y ∈ R, y.key ≠ x.key from fun y hy => hn.out y (by rw [List.take_length]; exact hy))
      clear hn
      go_wp2_with fail
      go_ret
      exact ⟨hb.out, .inl ⟨rfl, HN.out⟩⟩
end Go.Proofs.YtacfdnjdjgdbcaaGreatDoor
namespace Go.Proofs.YtacfdnjdjgdbcaaGreatDoor
set_option maxRecDepth 100000
open Go.RowKit Go.Maps Go.Sort M

theorem bl_cb : ∀ a b : List UInt8, a.length = b.length → Op.bytesLess a b = decide (Lib.compareBytes a b < 0)
  | [], [], _ => rfl
  | [], _ :: _, h => by simp at h
  | _ :: _, [], h => by simp at h
  | x :: a, y :: b, h => by
    have ih := bl_cb a b (by simpa using h)
    by_cases p1 : x < y
    · simp only [Op.bytesLess, Lib.compareBytes, p1]; rfl
    · by_cases p2 : y < x
      · have n : (x == y) = false := by
          rw [beq_eq_false_iff_ne]; intro e; rw [e] at p2; exact p1 (by rw [e]; exact p2)
        simp only [Op.bytesLess, Lib.compareBytes, if_pos p2, p1, n]; rfl
      · have e : x = y := by
          rw [UInt8.lt_iff_toNat_lt] at p1 p2
          exact UInt8.toNat_inj.1 (by omega)
        subst e
        simp only [Op.bytesLess, Lib.compareBytes, p1, ih]
        simp
theorem bs_u8 (x : Ent) : (bs x.key).toList = kkE x := by
  unfold bs kkE u8l; rw [Lib.strOfNums_toList]; simp [Lib.bytesOf]
theorem ent_less (x y : Ent) : Op.bytesLess (bs x.key).toList (bs y.key).toList = decide (cfE x y < 0) := by
  rw [bs_u8, bs_u8]
  exact bl_cb _ _ (by unfold kkE u8l; rw [List.length_map, List.length_map, x.kl, y.kl])

def tstR (x : Ent) (s : List Ent × Bool) (e : Ent) : List Ent × Bool := if s.2 = false ∧ cfE x e < 0 then (s.1 ++ [x] ++ [e], true) else (s.1 ++ [e], s.2)
def fdR (x : Ent) (R : List Ent) : List Ent × Bool := R.foldl (tstR x) ([], false)
def insR (x : Ent) : List Ent → List Ent
  | [] => [x]
  | e :: R => if cfE x e < 0 then x :: e :: R else e :: insR x R
theorem fdR_take (x : Ent) {R : List Ent} {k : Nat} {e : Ent} (h : R[k]? = some e) : fdR x (R.take (k + 1)) = tstR x (fdR x (R.take k)) e := by
  unfold fdR
  rw [List.take_add_one, h, Option.toList_some, List.foldl_append]; rfl
theorem fold_true (x : Ent) : ∀ (R o : List Ent), R.foldl (tstR x) (o, true) = (o ++ R, true)
  | [], o => by simp
  | e :: R, o => by
    rw [List.foldl_cons]
    have : tstR x (o, true) e = (o ++ [e], true) := by simp [tstR]
    rw [this, fold_true x R]; simp
theorem fold_false (x : Ent) : ∀ (R o : List Ent), R.foldl (tstR x) (o, false) = (o ++ insR x R, true) ∨ (R.foldl (tstR x) (o, false) = (o ++ R, false) ∧ insR x R = R ++ [x])
  | [], o => .inr (by simp [insR])
  | e :: R, o => by
    rw [List.foldl_cons]
    by_cases h : cfE x e < 0
    · have : tstR x (o, false) e = (o ++ [x] ++ [e], true) := by simp [tstR, h]
      rw [this, fold_true]
      exact .inl (by simp [insR, h])
    · have : tstR x (o, false) e = (o ++ [e], false) := by simp [tstR, h]
      rw [this]
      rcases fold_false x R (o ++ [e]) with q | ⟨q, r⟩
      · exact .inl (by rw [q]; simp [insR, h])
      · exact .inr ⟨by rw [q]; simp, by simp [insR, h, r]⟩
theorem fdR_true {x : Ent} {R E : List Ent} (h : fdR x R = (E, true)) : E = insR x R := by
  rcases fold_false x R [] with q | ⟨q, _⟩
  · unfold fdR at h; rw [q] at h; injection h with h _; simpa using h.symm
  · unfold fdR at h; rw [q] at h; injection h with _ h; cases h
theorem fdR_false {x : Ent} {R E : List Ent} (h : fdR x R = (E, false)) : E ++ [x] = insR x R := by
  rcases fold_false x R [] with q | ⟨q, r⟩
  · unfold fdR at h; rw [q] at h; injection h with _ h; cases h
  · unfold fdR at h; rw [q] at h; injection h with h _; rw [r, ← h]; simp
theorem insR_perm (x : Ent) : ∀ R, (insR x R).Perm (x :: R)
  | [] => List.Perm.refl _
  | e :: R => by
    unfold insR
    split
    · exact List.Perm.refl _
    · exact ((insR_perm x R).cons e).trans (List.Perm.swap x e R)
theorem cfE_anti (x y : Ent) : cfE x y = - cfE y x := cb_anti _ _
theorem cfE_zero {x y : Ent} (h : cfE x y = 0) : x.key = y.key := kkE_eq (cb_zero _ _ h)
theorem insR_rising (x : Ent) : ∀ R, Rising R → (∀ y ∈ R, y.key ≠ x.key) → Rising (insR x R)
  | [], _, _ => List.pairwise_singleton _ _
  | e :: R, h, hn => by
    have h1 := List.pairwise_cons.1 h
    unfold insR
    split
    · rename_i hx
      refine List.pairwise_cons.2 ⟨fun z hz => ?_, h⟩
      rcases List.mem_cons.1 hz with e1 | e1
      · rw [e1]; exact hx
      · exact cb_trans _ _ _ hx (h1.1 z e1)
    · rename_i hx
      have ih := insR_rising x R h1.2 fun y hy => hn y (List.mem_cons_of_mem _ hy)
      refine List.pairwise_cons.2 ⟨fun z hz => ?_, ih⟩
      rcases List.mem_cons.1 ((insR_perm x R).mem_iff.1 hz) with e1 | e1
      · have n0 : cfE x e ≠ 0 := fun q => hn e (List.mem_cons_self ..) (cfE_zero q).symm
        have := cfE_anti x e
        rw [e1]
        show cfE e x < 0
        omega
      · exact h1.1 z e1
end Go.Proofs.YtacfdnjdjgdbcaaGreatDoor
