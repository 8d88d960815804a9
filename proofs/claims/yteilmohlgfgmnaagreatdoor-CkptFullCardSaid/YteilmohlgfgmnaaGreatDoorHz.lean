/- Contracts of disk: Names. -/
import Derived.Test.YteilmohlgfgmnaaGreatDoorHu
import Derived.Test.YteilmohlgfgmnaaGreatDoorKShelf
import Derived.Test.YteilmohlgfgmnaaGreatDoorShelf
import Derived.Shelf.Slices.In.SortNone
import Derived.Lib.Bytes
namespace Go.Proofs.YteilmohlgfgmnaaGreatDoor
set_option maxRecDepth 100000
open Go.ChangeShapes Go.WideShapes Go.RowKit Go.Maps Go.Sort Go.Shelf M

theorem mapL_keys {H : Type} {P : Program} {k t e : TypeId} {w : World} {b n : Nat} {loc : Nat → Nat} {l : KL} {D0 : DataW H} (h : MapL w b loc l) (ho : w.ownsMap P k ptrR b n D0) (hk : P.underlying k = some .string)
    (ht : P.underlying t = some (.map k e)) (hz : (zeroValue e).run P w = .ok (.pointer none) w) : (l.map fun p => p.1.data.toList).Perm (strKeys D0) := by
  obtain ⟨es, rfl, hko⟩ := ho.keysOf
  obtain ⟨es', hD, hpw, _⟩ := ho.entries (string_keyed hk)
  obtain rfl : es = es' := by simpa using hD
  have hB : (l.map fun p => p.1.data.toList).Nodup := by
    have := h.nd
    exact List.pairwise_map.2 ((List.pairwise_map.1 this).imp fun hne e => hne (ByteArray.ext (Array.toList_inj.1 e)))
  refine perm_strKeys hpw (fun p hp => by obtain ⟨v, hv⟩ := hko p hp; obtain ⟨x, _, hx, _⟩ := Maps.keyOf_str hk hv; exact ⟨x, hx⟩) hB (fun x => ⟨fun hx => ?_, fun hx => ?_⟩)
  · obtain ⟨p, hp, rfl⟩ := List.mem_map.1 hx
    exact has_mapL h ho hk p.1 (h.keys p hp) ht hz (kget_mem h.nd hp)
  · have hlen : x.length ≤ maxLen := by
      have hx := hx
      rw [has_eq, List.any_eq_true] at hx
      obtain ⟨p, hp, hs⟩ := hx
      obtain ⟨v, hv⟩ := hko p hp
      obtain ⟨y, _, hy, hl⟩ := Maps.keyOf_str hk hv
      rw [hy] at hs
      have : y = x := by simpa [Lit.sameKey] using hs
      rw [← this]; exact hl
    cases hg : kget l ⟨x.toArray⟩ with
    | some m => exact List.mem_map.2 ⟨_, kget_some hg, mk_toList _⟩
    | none =>
      exfalso
      have hs : (⟨x.toArray⟩ : ByteArray).size ≤ maxLen := by show x.toArray.size ≤ _; simpa using hlen
      have lk := h.look hk ht hz ⟨x.toArray⟩ hs
      rw [hg] at lk
      obtain ⟨es2, clock, hb, F, _, hE⟩ := ho
      have hkey : keyOf P k (.string ⟨x.toArray⟩) = some (.string x) := by simp [keyOf, hk, mapKey, hs]
      rcases Maps.fit_look false (string_keyed hk) ht hz hb F hkey with ⟨hrun, hno, hat'⟩ | ⟨e0, z, _, _, hrun, hRv, hat', _⟩
      · rw [hE] at hx
        rw [has_false_of_atKey hat'] at hx
        cases hx
      · rw [lk] at hrun
        have hrun : (Result.ok (Value.pointer none) w : Result Value) = .ok e0.val w := hrun
        injection hrun with hv
        rw [← hv] at hRv
        cases hRv

/-- the names of a map, rising -/
def keysUp (l : KL) : List (List UInt8) := (l.map fun p => p.1.data.toList).mergeSort fun x y => decide (x ≤ y)

theorem sortsA (m : Nat) : AnyZ.SortsIn Tryz.prog Tryz.sortedL_ren Fence.wide m :=
  ⟨fun blk off cap ss W hH hblk hsz => callsIn_wide.2 (Tryz.slices_Sort_string blk off cap ss W hH hblk hsz), fun p cap W => callsIn_wide.2 (Any.slices_Sort_string_none Tryz.lays190 p cap W)⟩

theorem mkeys_any (b : Nat) (W : World) : Calls Tryz.prog 68 #[.map (some b)] W fun e w' => e = .returned (.func (.func 102) #[] #[.pointer (some ⟨W.heap.size, 0, none⟩)]) ∧ w' = W.alloc (.cells #[.map (some b)] 104) :=
  (callsIn_wide (n := 5)).1 (AnyZ.keys_in Tryz.keysL Fence.wide 5 trivial rfl (some b) W)

set_option maxHeartbeats 1000000 in
theorem msorted_any (b : Nat) (loc : Nat → Nat) (l : KL) (w : World) (hm : MapL w b loc l) (hl : l.length ≤ 1000000) (hz : (zeroValue 111).run Tryz.prog w = .ok (.pointer none) w) :
    Calls Tryz.prog 67 #[.func (.func 102) #[] #[.pointer (some ⟨w.heap.size, 0, none⟩)]] (w.alloc (.cells #[.map (some b)] 104)) fun e w' =>
      ∃ v, e = .returned v ∧ w'.ownsRow w.heap.size 9 1 v l.length ((keysUp l).map encStr) ∧ Below w.heap.size w w' := by
  obtain ⟨D0, hown⟩ := hm.owns (H := Unit) (P := Tryz.prog) (k := 9) Tryz.underlying9
  have hsz : Maps.size D0 ≤ l.length := hown.size_le
  have hbl := hown.lt
  have hseq : SeqGives Fence.wide 2 Tryz.prog 102 #[.pointer (some ⟨w.heap.size, 0, none⟩)] encStr (fun ss => ss.Perm (strKeys D0)) (Maps.size D0) (w.alloc (.cells #[.map (some b)] 104)) :=
    AnyZ.keys_gives (ρ := Tryz.keysL_ren) { Tryz.keysL with } Fence.wide _ trivial rfl (by omega) w.heap.size b l.length D0 _ (by simp) (by simp) (by
      obtain ⟨es, clock, hb, Ft, hs, hD⟩ := hown
      exact ⟨es, clock, (Below.heap_alloc _ _ b hbl).trans hb, Ft, hs, hD⟩)
  have c := AnyZ.sorted_in Tryz.sortedL Fence.wide 5 trivial trivial trivial trivial rfl (by omega) (sortsA _) (enters_of Tryz.func101 (by kernel_rfl) rfl) 102 #[.pointer (some ⟨w.heap.size, 0, none⟩)] trivial (enters_of Tryz.func102 (by kernel_rfl) rfl) _ _ (by unfold maxLen; omega) (by omega) _ hseq
  refine ((callsIn_wide (n := 5)).1 c).mono fun e w' ⟨v, ss, he, hS, hrow, _, hb⟩ => ⟨v, he, ?_, ?_⟩
  · have pk := mapL_keys hm hown Tryz.underlying9 Tryz.underlying104 hz
    have hlen : ss.length = l.length := by rw [(hS.trans pk.symm).length_eq, List.length_map]
    have e2 : ss.mergeSort (fun x y => decide (x ≤ y)) = keysUp l := mergeSort_of_perm (hS.trans pk.symm)
    rw [hlen, e2] at hrow
    exact ownsRow_base_a hrow (by simp)
  · exact ((Below.refl _ w).alloc (Nat.le_refl _) _).trans (hb.mono (by simp))

set_option maxHeartbeats 1000000 in
theorem names_any (L : Lay) (S : DS) (w : World) (h : DiskAt w L S) (hd : S.dead = false) (hl : S.names.length ≤ 1000000) :
    Calls Tryz.prog 31 #[.pointer (some ⟨L.b, 0, none⟩)] w fun e w' => ∃ v, e = .returned (.tuple #[v, .int .i64 0]) ∧ w'.ownsRow w.heap.size 9 1 v S.names.length ((keysUp S.names).map encStr) ∧ Below w.heap.size w w' := by
  have c0 := h.head.c0
  have c8 := h.head.c8
  rw [hd] at c8
  have ck := mkeys_any L.nb w
  have cs := msorted_any L.nb L.loc S.names w h.names hl (zero_file w)
  have CK := Box.mk ck; have CS := Box.mk cs
  clear ck cs h hl hd
  go_enter Tryz.func31, Tryz.ntmps31
  go_wp2_with (first
    | (go_at_call 68; ((with_reducible refine CK.out.mono ?_); rintro e w1 ⟨rfl, rfl⟩))
    | (go_at_call 67; ((with_reducible refine CS.out.mono ?_); rintro e w2 ⟨v, rfl, hrow, hb⟩; have HR := Box.mk hrow; have HB := Box.mk hb; clear hrow hb)))
  go_ret2
  exact ⟨v, rfl, HR.out, HB.out⟩
theorem names_dead (L : Lay) (S : DS) (w : World) (h : DiskAt w L S) (hd : S.dead = true) :
    Calls Tryz.prog 31 #[.pointer (some ⟨L.b, 0, none⟩)] w fun e w' => e = .returned (.tuple #[.slice none 0 0, .int .i64 9]) ∧ w = w' := by
  have c8 := h.head.c8
  rw [hd] at c8
  clear h hd
  go_enter Tryz.func31, Tryz.ntmps31
  go_wp2
  go_ret2
  exact ⟨rfl, rfl⟩
end Go.Proofs.YteilmohlgfgmnaaGreatDoor
