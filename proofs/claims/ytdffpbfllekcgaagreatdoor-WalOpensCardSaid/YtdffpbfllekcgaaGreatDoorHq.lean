/- DiskN, DiskO, DiskP, in one text. -/
import Derived.Test.YtdffpbfllekcgaaGreatDoorHj
import Derived.RangeFuncNested
import Derived.RangeFuncBound
import Derived.RangeFuncCalls
import Derived.RangeFuncLeaves
import Derived.Sort.MapsRangeIn
import Derived.Sort.KeysCollected
import Derived.OwnWalkIn
import Derived.TacticsInMore
import Derived.RegionIn
import Derived.LoopNIn
import Derived.LoopIn
import Derived.Maps.AppendAt
import Derived.Maps.OwnIn
namespace Go.Proofs.YtdffpbfllekcgaaGreatDoor
set_option maxRecDepth 100000
open Go.RowKit M

def newOwn (H : Nat) : Nat → Tag := fun k => if k = H then .names else if k = H + 1 then .safe else if k = H + 2 then .disk else .free
def newL (H : Nat) : Lay := ⟨H + 2, H, H + 1, fun _ => 0, fun _ => .slice none 0 0, .slice none 0 0, newOwn H⟩

theorem newDisk (w : World) (room : Int) : DiskAt (((w.alloc (.map #[] 0)).alloc (.map #[] 0)).alloc (.cells #[.map (some w.heap.size), .map (some (w.heap.size + 1)), .slice none 0 0, .int .i64 0, .int .i64 (max room 0), .int .i64 0, .int .i64 (-1), .int .i64 (-1), .bool false, .int .i64 0] 46)) (newL w.heap.size) (newS room) := by
  have b1 : Below w.heap.size w ((w.alloc (.map #[] 0)).alloc (.map #[] 0)) := ((Below.refl _ _).alloc (Nat.le_refl _) _).alloc (by simp) _
  have m0 := mapL_new w (fun _ => 0)
  have m1 := mapL_new (w.alloc (.map #[] 0)) (fun _ => 0)
  have e0 : (((w.alloc (.map #[] 0)).alloc (.map #[] 0)).alloc (.cells #[.map (some w.heap.size), .map (some (w.heap.size + 1)), .slice none 0 0, .int .i64 0, .int .i64 (max room 0), .int .i64 0, .int .i64 (-1), .int .i64 (-1), .bool false, .int .i64 0] 46)).heap[w.heap.size]? = (w.alloc (.map #[] 0)).heap[w.heap.size]? := by
    rw [Below.heap_alloc _ _ _ (by simp; omega), Below.heap_alloc _ _ _ (by simp)]
  have e1 : (((w.alloc (.map #[] 0)).alloc (.map #[] 0)).alloc (.cells #[.map (some w.heap.size), .map (some (w.heap.size + 1)), .slice none 0 0, .int .i64 0, .int .i64 (max room 0), .int .i64 0, .int .i64 (-1), .int .i64 (-1), .bool false, .int .i64 0] 46)).heap[w.heap.size + 1]? = ((w.alloc (.map #[] 0)).alloc (.map #[] 0)).heap[(w.alloc (.map #[] 0)).heap.size]? := by
    rw [Below.heap_alloc _ _ _ (by simp)]; simp
  have e2 := (MapKept.heap_alloc ((w.alloc (.map #[] 0)).alloc (.map #[] 0)) (.cells #[.map (some w.heap.size), .map (some (w.heap.size + 1)), .slice none 0 0, .int .i64 0, .int .i64 (max room 0), .int .i64 0, .int .i64 (-1), .int .i64 (-1), .bool false, .int .i64 0] 46)).1
  have hz : ((w.alloc (.map #[] 0)).alloc (.map #[] 0)).heap.size = w.heap.size + 2 := by simp
  have hz1 : (w.alloc (.map #[] 0)).heap.size = w.heap.size + 1 := by simp
  have hs : (((w.alloc (.map #[] 0)).alloc (.map #[] 0)).alloc (.cells #[.map (some w.heap.size), .map (some (w.heap.size + 1)), .slice none 0 0, .int .i64 0, .int .i64 (max room 0), .int .i64 0, .int .i64 (-1), .int .i64 (-1), .bool false, .int .i64 0] 46)).heap.size = w.heap.size + 3 := by simp
  rw [hz] at e2
  rw [hz1] at e1 m1
  generalize ((w.alloc (.map #[] 0)).alloc (.map #[] 0)).alloc (.cells #[.map (some w.heap.size), .map (some (w.heap.size + 1)), .slice none 0 0, .int .i64 0, .int .i64 (max room 0), .int .i64 0, .int .i64 (-1), .int .i64 (-1), .bool false, .int .i64 0] 46) = W at *
  have hc : ∀ j, W.cell? ⟨w.heap.size + 2, j, none⟩ = #[Value.map (some w.heap.size), .map (some (w.heap.size + 1)), .slice none 0 0, .int .i64 0, .int .i64 (max room 0), .int .i64 0, .int .i64 (-1), .int .i64 (-1), .bool false, .int .i64 0][j]? := fun j => by simp [World.cell?, e2]
  refine ⟨⟨by rw [show (newL w.heap.size).b = w.heap.size + 2 from rfl, hc]; rfl, by rw [show (newL w.heap.size).b = w.heap.size + 2 from rfl, hc]; rfl, by rw [show (newL w.heap.size).b = w.heap.size + 2 from rfl, hc]; rfl, by rw [show (newL w.heap.size).b = w.heap.size + 2 from rfl, hc]; rfl, by rw [show (newL w.heap.size).b = w.heap.size + 2 from rfl, hc]; rfl, by rw [show (newL w.heap.size).b = w.heap.size + 2 from rfl, hc]; rfl, by rw [show (newL w.heap.size).b = w.heap.size + 2 from rfl, hc]; rfl, by rw [show (newL w.heap.size).b = w.heap.size + 2 from rfl, hc]; rfl, by rw [show (newL w.heap.size).b = w.heap.size + 2 from rfl, hc]; rfl, by rw [show (newL w.heap.size).b = w.heap.size + 2 from rfl, hc]; rfl, fun o => ?_⟩,
    m0.keep e0, m1.keep e1, fun n h1 h2 => absurd (show n ≤ 0 from h2) (by omega), World.ownsRow_nil _ _ _ _, ⟨?_, ?_, ?_, (fun k e => by cases e), fun n h1 h2 => absurd (show n ≤ 0 from h2) (by omega), fun n h1 h2 => absurd (show n ≤ 0 from h2) (by omega), fun k hk => ?_⟩⟩
  · show World.frozen? _ ⟨w.heap.size + 2, o, none⟩ = false
    unfold World.frozen?; simp [e2]
  · show newOwn w.heap.size (w.heap.size + 2) = _
    unfold newOwn; rw [if_neg (by omega), if_neg (by omega), if_pos rfl]
  · show newOwn w.heap.size w.heap.size = _
    unfold newOwn; rw [if_pos rfl]
  · show newOwn w.heap.size (w.heap.size + 1) = _
    unfold newOwn; rw [if_neg (by omega), if_pos rfl]
  · show newOwn w.heap.size k = _
    rw [hs] at hk
    unfold newOwn; rw [if_neg (by omega), if_neg (by omega), if_neg (by omega)]

/-- a new disk -/
def NewP (room : Int) (w : World) (e : Ending) (w' : World) : Prop :=
  ∃ L, e = .returned (.pointer (some ⟨L.b, 0, none⟩)) ∧ DiskAt w' L (newS room) ∧ Below w.heap.size w w' ∧ (∀ k, k < w.heap.size → L.own k = .free)

set_option maxHeartbeats 400000 in
theorem new_any (room : Int) (w : World) (h1 : -9223372036854775808 ≤ room) (h2 : room ≤ 9223372036854775807) : Calls Tryz.prog 4 #[.int .i64 room] w (NewP room w) := by
  have hn := newDisk w room
  have hb : Below w.heap.size w (((w.alloc (.map #[] 0)).alloc (.map #[] 0)).alloc (.cells #[.map (some w.heap.size), .map (some (w.heap.size + 1)), .slice none 0 0, .int .i64 0, .int .i64 (max room 0), .int .i64 0, .int .i64 (-1), .int .i64 (-1), .bool false, .int .i64 0] 46)) := (((Below.refl _ _).alloc (Nat.le_refl _) _).alloc (by simp) _).alloc (by simp; omega) _
  have hf : ∀ k, k < w.heap.size → (newL w.heap.size).own k = .free := fun k hk => by
    show newOwn w.heap.size k = _
    unfold newOwn; rw [if_neg (by omega), if_neg (by omega), if_neg (by omega)]
  have hmm := @run_makeMap Tryz.prog
  rcases Int.lt_or_le room 0 with hl | hl
  · have e : max room 0 = 0 := by omega
    rw [e] at hn hb
    have HN := Box.mk hn; have HB := Box.mk hb; have HF := Box.mk hf
    clear hn hb hf e
    have e3 : decide (room < 0) = true := by simpa using hl
    go_enter Tryz.func4, Tryz.ntmps4
    go_wp2
    go_ret
    exact ⟨_, rfl, HN.out, HB.out, HF.out⟩
  · have e : max room 0 = room := by omega
    rw [e] at hn hb
    have HN := Box.mk hn; have HB := Box.mk hb; have HF := Box.mk hf
    clear hn hb hf e
    have e3 : decide (room < 0) = false := by simpa using hl
    go_enter Tryz.func4, Tryz.ntmps4
    go_wp2
    go_ret
    exact ⟨_, rfl, HN.out, HB.out, HF.out⟩

end Go.Proofs.YtdffpbfllekcgaaGreatDoor
namespace Go.Proofs.YtdffpbfllekcgaaGreatDoor
set_option maxRecDepth 100000
open Go.RowKit Go.Maps Go.Sort M
attribute [local go_sem] Oper.semAt_some

/-- a pointer to a block -/
abbrev encP (n : Nat) : Value := .pointer (some ⟨n, 0, none⟩)
def ptrR {H : Type} (v : Value) : Option (DataW H × List MemPlace) :=
  match v with
  | .pointer (some ⟨b, 0, none⟩) => some (.lit (.int .i64 (b : Int)), [])
  | _ => none
theorem ptrR_mk {H : Type} (n : Nat) : ptrR (H := H) (encP n) = some (.lit (.int .i64 (n : Int)), []) := rfl
theorem ptrR_inv {H : Type} {v : Value} {y : DataW H × List MemPlace} (h : ptrR v = some y) : ∃ n, v = encP n ∧ y = (.lit (.int .i64 (n : Int)), []) := by
  unfold ptrR at h
  split at h
  · exact ⟨_, rfl, (Option.some.inj h).symm⟩
  · cases h

/-- which blocks the files of a map have -/
def locs (loc : Nat → Nat) (l : KL) : List Nat := l.map fun p => loc p.2

theorem MapL.owns {H : Type} {P : Program} {k : TypeId} {w : World} {b : Nat} {loc : Nat → Nat} {l : KL} (h : MapL w b loc l) (hk : P.underlying k = some .string) :
    ∃ D0 : DataW H, w.ownsMap P k ptrR b l.length D0 := by
  obtain ⟨es, clock, hb, h2, h3⟩ := h.ex
  have hl : es.size = l.length := by have := h3.length_eq; simpa using this
  refine ⟨_, es, clock, hb, ⟨by rw [hl]; exact Nat.le_of_lt h.size, h2, fun x hx => ?_⟩, Nat.le_of_eq hl, rfl⟩
  obtain ⟨kl, hkey⟩ := h.keysOf hk h3 x hx
  have hm : (x.key, x.val) ∈ l.map (kent loc) := h3.mem_iff.1 (List.mem_map.2 ⟨x, hx, rfl⟩)
  obtain ⟨p, hp, ep⟩ := List.mem_map.1 hm
  have e2 : x.val = encP (loc p.2) := (congrArg Prod.snd ep).symm
  exact ⟨_, WideElems.rd_mk hkey (by rw [e2]; exact ptrR_mk _)⟩

/-- what a look-up tells of the datum -/
theorem atKey_mapL {H : Type} {P : Program} {k t e : TypeId} {w : World} {b n : Nat} {loc : Nat → Nat} {l : KL} {D0 : DataW H} (h : MapL w b loc l) (ho : w.ownsMap P k ptrR b n D0) (hk : P.underlying k = some .string) (s : ByteArray) (hs : s.size ≤ maxLen) {y : DataW H}
    (ht : P.underlying t = some (.map k e)) (hz : (zeroValue e).run P w = .ok (.pointer none) w) (hat : ∀ zd, D0.atKey (.string s.data.toList) zd = y) : ∃ m, kget l s = some m ∧ y = .lit (.int .i64 (loc m : Int)) := by
  obtain ⟨es, clock, hb, F, _, rfl⟩ := ho
  have lk := h.look hk ht hz s hs
  have hkey : keyOf P k (.string s) = some (.string s.data.toList) := by simp [keyOf, hk, mapKey, hs]
  rcases Maps.fit_look false (string_keyed hk) ht hz hb F hkey with ⟨hrun, hno, hat'⟩ | ⟨e0, z, _, _, hrun, hRv, hat', _⟩
  · exfalso
    have a := hat (.lit (.bool true))
    have b := hat (.lit (.bool false))
    rw [hat'] at a b
    rw [← b] at a
    cases a
  · rw [lk] at hrun
    have hrun : (Result.ok (Value.pointer ((kget l s).map fun n => ⟨loc n, 0, none⟩)) w : Result Value) = .ok e0.val w := hrun
    injection hrun with hv
    cases hg : kget l s with
    | none => rw [hg] at hv; rw [← hv] at hRv; cases hRv
    | some m =>
      rw [hg] at hv
      have e : z.1 = .lit (.int .i64 (loc m : Int)) := by
        rw [← hv] at hRv
        exact (congrArg Prod.fst (Option.some.inj hRv)).symm
      exact ⟨m, rfl, by rw [← e, ← hat' (.lit (.bool true))]; exact (hat _).symm⟩

theorem has_mapL {H : Type} {P : Program} {k t e : TypeId} {w : World} {b n : Nat} {loc : Nat → Nat} {l : KL} {D0 : DataW H} (h : MapL w b loc l) (ho : w.ownsMap P k ptrR b n D0) (hk : P.underlying k = some .string) (s : ByteArray) (hs : s.size ≤ maxLen)
    (ht : P.underlying t = some (.map k e)) (hz : (zeroValue e).run P w = .ok (.pointer none) w) {m : Nat} (hg : kget l s = some m) : has D0 (.string s.data.toList) = true := by
  obtain ⟨es, clock, hb, F, _, rfl⟩ := ho
  have lk := h.look hk ht hz s hs
  rw [hg] at lk
  have hkey : keyOf P k (.string s) = some (.string s.data.toList) := by simp [keyOf, hk, mapKey, hs]
  rcases Maps.fit_look false (string_keyed hk) ht hz hb F hkey with ⟨hrun, _, _⟩ | ⟨e0, z, _, _, _, _, hat', _⟩
  · rw [lk] at hrun
    have hrun : (Result.ok (Value.pointer (some ⟨loc m, 0, none⟩)) w : Result Value) = .ok (.pointer none) w := hrun
    injection hrun with hv
    cases hv
  · exact has_true_of_atKey hat'

theorem mk_toList (k : List UInt8) : (ByteArray.mk k.toArray).data.toList = k := by simp
theorem vals_perm {H : Type} {P : Program} {k t e : TypeId} {w : World} {b n : Nat} {loc : Nat → Nat} {l : KL} {D0 : DataW H} (h : MapL w b loc l) (ho : w.ownsMap P k ptrR b n D0) (hk : P.underlying k = some .string)
    (ht : P.underlying t = some (.map k e)) (hz : (zeroValue e).run P w = .ok (.pointer none) w) {left : Lit → Bool} {ps : List (List UInt8 × Nat)} (hC : Collected D0 left (ps.map (·.1))) (hl : ∀ kl, left kl = false)
    (hV : ∀ p ∈ ps, p.1.length ≤ maxLen ∧ ∀ zd, D0.atKey (.string p.1) zd = .lit (.int .i64 (p.2 : Int))) : (ps.map (·.2)).Perm (locs loc l) := by
  have A : ∀ p ∈ ps, ∃ m, kget l ⟨p.1.toArray⟩ = some m ∧ p.2 = loc m := fun p hp => by
    obtain ⟨h1, h2⟩ := hV p hp
    have h2' : ∀ zd, D0.atKey (.string (ByteArray.mk p.1.toArray).data.toList) zd = .lit (.int .i64 (p.2 : Int)) := by rw [mk_toList]; exact h2
    obtain ⟨m, hm, hy⟩ := atKey_mapL h ho hk ⟨p.1.toArray⟩ (by show p.1.toArray.size ≤ _; simpa using h1) ht hz h2'
    refine ⟨m, hm, ?_⟩
    injection hy with hy
    injection hy with _ hy
    exact Int.ofNat.inj hy
  have hB : (l.map fun p => p.1.data.toList).Nodup := by
    have := h.nd
    exact List.pairwise_map.2 ((List.pairwise_map.1 this).imp fun hne e => hne (ByteArray.ext (Array.toList_inj.1 e)))
  have hP : (ps.map (·.1)).Perm (l.map fun p => p.1.data.toList) := by
    rw [List.perm_ext_iff_of_nodup hC.1 hB]
    intro x
    rw [hC.2 x, hl]
    constructor
    · rintro ⟨hh, _⟩
      have hx : x ∈ ps.map (·.1) := (hC.2 x).2 ⟨hh, hl _⟩
      obtain ⟨p, hp, rfl⟩ := List.mem_map.1 hx
      obtain ⟨m, hm, _⟩ := A p hp
      exact List.mem_map.2 ⟨_, kget_some hm, mk_toList _⟩
    · intro hx
      obtain ⟨p, hp, rfl⟩ := List.mem_map.1 hx
      exact ⟨has_mapL h ho hk p.1 (h.keys p hp) ht hz (kget_mem h.nd hp), rfl⟩
  have e1 : ps.map (·.2) = (ps.map (·.1)).map fun x => loc ((kget l ⟨x.toArray⟩).getD 0) := by
    rw [List.map_map]
    apply List.map_congr_left
    intro p hp
    obtain ⟨m, hm, e⟩ := A p hp
    show p.2 = loc ((kget l ⟨p.1.toArray⟩).getD 0)
    rw [hm, e]; rfl
  have e2 : locs loc l = (l.map fun p => p.1.data.toList).map fun x => loc ((kget l ⟨x.toArray⟩).getD 0) := by
    rw [List.map_map]
    apply List.map_congr_left
    intro p hp
    show loc p.2 = loc ((kget l ⟨p.1.data.toList.toArray⟩).getD 0)
    have e3 : (⟨p.1.data.toList.toArray⟩ : ByteArray) = p.1 := by apply ByteArray.ext; simp
    rw [e3, kget_mem h.nd hp]; rfl
  rw [e1, e2]
  exact hP.map _

set_option maxRecDepth 100000 in
set_option maxHeartbeats 1000000 in
/-- the iterator over the values of a map, whatever is done with them -/
theorem vals_in (F : Fence) (n : Nat) (hf : F.fn 84) (hro : F.round = none) (hn : 1 ≤ n) (ly Bm b : Nat) (loc : Nat → Nat) (l : KL) (J Jx : List Nat → World → Prop)
    (hY : ∀ pre x W, J pre W → pre.length < l.length → YieldAt F (n - 1) Tryz.prog ly #[encP x] W fun e W' =>
      (e = .returned (.bool true) ∧ J (pre ++ [x]) W' ∧ KeepsWalks W W') ∨ (e = .returned (.bool false) ∧ Jx (pre ++ [x]) W'))
    (W : World) (hJ : AbidesFrom W.heap.size J) (hm : W.cell? ⟨Bm, 0, none⟩ = some (.map (some b))) (hmap : MapL W b loc l) (h0 : J [] W) :
    CallsIn F n Tryz.prog 84 #[.func (.yield ly) #[] #[], .pointer (some ⟨Bm, 0, none⟩)] W fun e W' => (∃ v, e = .returned v) ∧
      ((∃ xs, xs.Perm (locs loc l) ∧ J xs W') ∨ (∃ pre, True ∧ Jx pre W')) := by
  obtain ⟨D0, hown⟩ := hmap.owns (H := Unit) (P := Tryz.prog) (k := 9) Tryz.underlying9
  have hsz : Maps.size D0 ≤ l.length := hown.size_le
  refine callsIn_of_wp Tryz.func84 rfl hf ?_ hro
  simp only [Tryz.ntmps84, List.size_toArray, List.length_cons, List.length_nil, Nat.reduceAdd, Nat.reduceSub, Array.replicate_succ, Array.replicate_zero, List.push_toArray, List.append_toArray, List.nil_append, List.cons_append]
  gi_wp2_with (first
    | (gi_at_range; refine wpListIn_range_own _ rfl _ 43 rfl 9 50 (string_keyed Tryz.underlying9) Tryz.underlying43 _ b l.length _ rfl hown ?_; intro w0 hrg0 hg0 hs0)
    | gi_in)
  go_frame
  gi_loopw [4] (fun _ wr => ∃ (left : Lit → Bool) (cnt : Nat) (ps : List (List UInt8 × Nat)), wr.ranges Tryz.prog 9 (ptrR (H := Unit)) b W.heap.size l.length D0 left cnt ∧ ps.length + cnt ≤ Maps.size D0 ∧ Collected D0 left (ps.map (·.1)) ∧ (∀ p ∈ ps, p.1.length ≤ maxLen ∧ ∀ zd, D0.atKey (.string p.1) zd = .lit (.int .i64 (p.2 : Int))) ∧ J (ps.map (·.2)) wr)
    (fun _ wr => wr.rangeLeft b W.heap.size)
  case atStart =>
    exact ⟨_, _, [], hrg0, by simp, Collected.start D0, by simp, hJ [] W w0 none h0 hg0 (fun r e => by cases e)⟩
  case round =>
    obtain ⟨left, cnt, ps, hrg, hcs, hC, hV, hJs⟩ := hrel
    gi_wp2_with (first
      | (gi_at_next; refine wpListIn_next_ranges _ rfl _ rfl 9 (string_keyed Tryz.underlying9) (ptrR (H := Unit)) encStr encP (fun key kl hk => by obtain ⟨x, hx, _⟩ := Maps.keyOf_str Tryz.underlying9 hk; exact ⟨x, hx⟩) (fun v y hv => by obtain ⟨c, rfl, _⟩ := ptrR_inv hv; exact ⟨c, rfl⟩) b W.heap.size l.length _ _ _ rfl hrg ?_ ?_)
      | gi_in)
    · intro _ hl0
      gi_wp2
      go_end0
      exact ⟨⟨_, rfl⟩, .inl ⟨_, vals_perm hmap hown Tryz.underlying9 Tryz.underlying43 (zero_file W) hC hl0 hV, hJs⟩⟩
    · intro x c kl yd yp w2 cnt2 hkey hlk hv hat hrg2 hlt hg2 hs2 hen
      obtain ⟨x', ex, rfl, hx⟩ := Maps.keyOf_str Tryz.underlying9 hkey
      obtain rfl : x = x' := encStr_inj ex
      obtain rfl : yd = .lit (.int .i64 (c : Int)) := (congrArg Prod.fst (Option.some.inj hv)).symm
      have hJ2 : J (ps.map (·.2)) w2 := hJ _ wr w2 (some W.heap.size) hJs hg2 (fun r e => by cases e; exact ⟨Nat.le_refl _, hrg.iter_walk⟩)
      obtain ⟨fn, tmps, assign, body, hy, hR⟩ := hY (ps.map (·.2)) c w2 hJ2 (by simp; omega)
      clear hs2
      gi_wp2
      refine hR.mono ?_
      have hC2 : Collected D0 (fun z => left z && !z.sameKey (.string x)) ((ps ++ [(x, c)]).map (·.1)) := by simpa using hC.step hlk hat
      have hV2 : ∀ p ∈ ps ++ [(x, c)], p.1.length ≤ maxLen ∧ ∀ zd, D0.atKey (.string p.1) zd = .lit (.int .i64 (p.2 : Int)) := fun p hp => (List.mem_append.1 hp).elim (hV p) (fun e => by simp at e; subst e; exact ⟨hx, hat⟩)
      rintro e W3 (⟨rfl, hJ3, hk3⟩ | ⟨rfl, hJx3⟩)
      · gi_wp2
        have hrg3 := hrg2.of_walks hk3
        go_roundw
        case rel => exact ⟨_, cnt2, ps ++ [(x, c)], hrg3, by simp; omega, hC2, hV2, by simpa using hJ3⟩
        case measure => rw [hrg3.left_eq, hrg.left_eq]; exact hlt
      · gi_wp2
        refine bodyPost_ret (results_none rfl _ _ _) rfl ?_
        exact ⟨⟨_, rfl⟩, .inr ⟨_, trivial, by simpa using hJx3⟩⟩

end Go.Proofs.YtdffpbfllekcgaaGreatDoor
namespace Go.Proofs.YtdffpbfllekcgaaGreatDoor
set_option maxRecDepth 100000
open Go.RowKit Go.Maps Go.Sort M
attribute [local go_sem] Oper.semAt_some

theorem info_ptr : (Tryz.prog.info? 50).map (fun i => (i.zero, i.size, i.bytes)) = some (some (.pointer none), 1, 8) := by kernel_rfl

set_option maxRecDepth 100000 in
set_option maxHeartbeats 2000000 in
theorem appseq_in (F : Fence) (n : Nat) (hf : F.fn 108) (hro : F.round = none) (hn : 2 ≤ n) (gf : Nat) (lb : Array Value) (hFg : F.fn gf) (eg : ∀ args w, (callFunc gf args).run Tryz.prog w = .ok (.enter gf args) w)
    (S Sp : List Nat → Prop) (N : Nat) (hN : N ≤ 1099511627776) (w : World) (hseq : SeqStops F (n - 1) Tryz.prog gf lb encP S Sp N w) :
    CallsIn F n Tryz.prog 108 #[.slice none 0 0, .func (.func gf) #[] lb] w fun e w' => ∃ (v : Value) (xs : List Nat), e = .returned v ∧ S xs ∧ w'.ownsRow w.heap.size 50 1 v xs.length (xs.map encP) ∧ Below w.heap.size w w' := by
  have h1 : 1 ≤ n := by omega
  obtain ⟨i0, hi, hz0, hz1, hz2⟩ := info_parts info_ptr
  have hte : 74 ≠ 50 := by decide
  refine callsIn_of_wp_marks Tryz.func108 rfl hf ?_ hro
  simp only [Tryz.ntmps108, List.size_toArray, List.length_cons, List.length_nil, Nat.reduceAdd, Nat.reduceSub, Array.replicate_succ, Array.replicate_zero, List.push_toArray, List.append_toArray, List.nil_append, List.cons_append]
  gi_wp2
  have hseqK : SeqStopsK F (n - 1) Tryz.prog gf lb (fun x => #[encP x]) KeepsWalks S Sp N w := hseq
  refine wpIn_rangeFunc_ownF hro h1 (gf := gf) (lb := lb) rfl hFg eg hseqK walksK_t walksK_b ((Below.refl _ w).alloc (Nat.le_refl _) _) (fun _ => rfl)
    (fun pre W => (∃ v, Boxed W w.heap.size 74 v ∧ W.ownsRow w.heap.size 50 1 v pre.length (pre.map encP) ∧ True) ∧ Below w.heap.size w W)
    (fun _ _ _ => False)
    (OwnFrom.and (Own.from (holdsRow_own w.heap.size w.heap.size 74 50 1 (fun pre : List Nat => pre.length) (fun pre => pre.map encP) (fun _ _ => True)) _) (ownFrom_below (Nat.le_refl _) (by simp)))
    (fun _ _ _ _ _ hs _ _ => hs)
    ⟨⟨_, Boxed.new w _ _, World.ownsRow_nil _ _ _ _, trivial⟩, (Below.refl _ w).alloc (Nat.le_refl _) _⟩
    (fun x => { tmps := #[.slice none 0 0, .func (.func gf) #[] lb, .pointer (some ⟨w.heap.size, 0, none⟩), undef, .slice none 0 0, encP x, .func (.func gf) #[] lb, encP x, undef, undef, undef, undef, undef], defers := [] }) ?assign ?body ?done ?stop
  case assign =>
    intro l x W K hK
    gi_wp2
    exact hK
  case body =>
    rintro l pre x W ⟨⟨v, hv, hrow, -⟩, hB⟩ hlen
    have hvc := hv.cell
    have hvf := hv.frozen
    gi_wp2_with (first
      | (gi_at_builtin; refine wpListIn_append_own _ rfl _ _ 74 rfl w.heap.size 50 i0 (.pointer none) 1 8 Tryz.underlying74 hi hz0 hz1 hz2 rfl (by decide) _ _ _ rfl (hrow.alloc _) ⟨W.heap.size, 0, none⟩ 1 1 [encP x] rfl rfl (cell_one_new _ _ _) (by simp [Value.oneCell']) (by unfold maxLen; omega) (by omega) (by have := hB.size; simp; omega) ?_; intro v' w1 hown' hgrow _; obtain ⟨g', cap', rfl⟩ := ownsRow_succ hown'; obtain ⟨hv1, hv2, hr2, hk2, hb2⟩ := hv.appended hte hrow hB.size (Nat.le_refl _) hown' hgrow; have hc1 := hv1.cell; have hf1 := hv1.frozen)
      | gi_in)
    exact ⟨hk2, hk2.walks, ⟨_, hv2, by simpa using hr2, trivial⟩, hB.trans hb2⟩
  case done =>
    rintro D xs W hD hS ⟨⟨v, hv, hrow, -⟩, hB⟩ hK
    have hvc := hv.cell
    gi_wp2
    refine ⟨by simp, .inl ⟨_, _, rfl, run_takeDeferred hK, ?_⟩⟩
    refine ⟨_, results_tmp rfl _ _ _, v, xs, rfl, hS, ownsRow_putObj hrow _ hK rfl, ?_⟩
    exact hB.trans (belowK_b (w := w) (Nat.le_refl _) W D _ _ (by simp at hD; omega) hK rfl rfl)
  case stop =>
    rintro D c pre W _ _ h _
    exact h.elim

end Go.Proofs.YtdffpbfllekcgaaGreatDoor
