/- WalQ, WalR, WalS, in one text. -/
import Derived.Test.YtdffpbfllekcgaaGreatDoorHx
import Derived.Test.YtdffpbfllekcgaaGreatDoorLexB
import Derived.Test.YtdffpbfllekcgaaGreatDoorHu
import Derived.Test.YtdffpbfllekcgaaGreatDoorKShelf
import Derived.Test.YtdffpbfllekcgaaGreatDoorShelf
import Derived.Shelf.Slices.In.SortNone
import Derived.Lib.Bytes
import Derived.Test.YtdffpbfllekcgaaGreatDoorHw
namespace Go.Proofs.YtdffpbfllekcgaaGreatDoor
set_option maxRecDepth 100000
open Go.ChangeShapes Go.WideShapes Go.RowKit Go.Maps Go.Sort M

/-! ### the digits of a number -/
theorem wdig_digP {d : Nat} (h : d < 16) : digP (UInt8.ofNat (wdig d)) = d := by
  have : ∀ i : Fin 16, digP (UInt8.ofNat (wdig i.1)) = i.1 := by decide
  exact this ⟨d, h⟩
theorem pu_whex (q : Nat) : ∀ (k acc : Nat), acc * 16 ^ k + q % 16 ^ k < 18446744073709551616 → pu 16 acc ((whex q k).map UInt8.ofNat) = (0, acc * 16 ^ k + q % 16 ^ k)
  | 0, acc, h => by
    show ((0 : Nat), acc) = _
    simp [Nat.mod_one]
  | k + 1, acc, h => by
    have pos : 0 < 16 ^ k := Nat.pow_pos (by decide)
    have d16 : q / 16 ^ k % 16 < 16 := Nat.mod_lt _ (by decide)
    have split : q % 16 ^ (k + 1) = 16 ^ k * (q / 16 ^ k % 16) + q % 16 ^ k := by
      rw [Nat.pow_succ, Nat.mod_mul]; omega
    have e : acc * 16 ^ (k + 1) + q % 16 ^ (k + 1) = (acc * 16 + q / 16 ^ k % 16) * 16 ^ k + q % 16 ^ k := by
      rw [split, Nat.pow_succ, Nat.add_mul, Nat.mul_assoc, Nat.mul_comm 16 (16 ^ k), Nat.mul_comm (16 ^ k) (q / 16 ^ k % 16)]
      omega
    rw [e] at h ⊢
    have ih := pu_whex q k (acc * 16 + q / 16 ^ k % 16) h
    unfold whex
    rw [List.map_cons]
    unfold pu
    rw [wdig_digP d16, if_neg (by omega)]
    have small : acc * 16 + q / 16 ^ k % 16 < 18446744073709551616 := by
      have := Nat.le_mul_of_pos_right (acc * 16 + q / 16 ^ k % 16) pos
      omega
    rw [if_neg (by omega), ih]
theorem puX_name {q : Nat} (hq : q < 18446744073709551616) : puX 16 ((whex q 16).map UInt8.ofNat) = (0, q) := by
  have p : (16 : Nat) ^ 16 = 18446744073709551616 := by decide
  have e := pu_whex q 16 0 (by rw [p]; omega)
  rw [p, Nat.mod_eq_of_lt hq, Nat.zero_mul, Nat.zero_add] at e
  unfold puX
  rw [if_neg (fun h => by have := congrArg List.length h; rw [List.length_map, whex_length] at this; cases this), e]
theorem by_bs (l : List Nat) : by' (bs l) = l.map UInt8.ofNat := by
  unfold by'
  rw [← ByteArray.toList_eq]
  unfold bs; rw [Lib.strOfNums_toList]; simp [Lib.bytesOf]
theorem st_map (l : List Nat) : st (l.map UInt8.ofNat) = bs l := by
  rw [← by_bs, st_by]
theorem pre_name (q : Nat) : Lib.trimPrefix (by' (nameM q)) [119, 97, 108, 45] = (whex q 16).map UInt8.ofNat ∧ Lib.hasPrefix (by' (nameM q)) [119, 97, 108, 45] = true := by
  have e : by' (nameM q) = 119 :: 97 :: 108 :: 45 :: (whex q 16).map UInt8.ofNat := by
    unfold nameM; rw [by_bs]; rfl
  have h : Lib.hasPrefix (by' (nameM q)) [119, 97, 108, 45] = true := by rw [e]; rfl
  refine ⟨?_, h⟩
  unfold Lib.trimPrefix
  rw [if_pos h, e]
  rfl

set_option maxHeartbeats 1000000 in
/-- the number of a log's file -/
theorem wnumber_any (q : Nat) (hq : q < 18446744073709551616) (w : World) (hL : LibW w) :
    Calls Tryz.prog 26 #[.string (nameM q)] w fun e w' => e = .returned (.tuple #[.int .u64 (q : Int), .bool true]) ∧ Below w.heap.size w w' := by
  have cp := fun W => Tryz.strings_CutPrefix (nameM q) ⟨#[119, 97, 108, 45]⟩ W
  obtain ⟨p1, p2⟩ := pre_name q
  have cp : ∀ W, Calls Tryz.prog 42 #[.string (nameM q), .string ⟨#[119, 97, 108, 45]⟩] W fun e w' => e = .returned (.tuple #[.string (bs (whex q 16)), .bool true]) ∧ w' = W := fun W => by
    have c : Calls Tryz.prog 42 #[.string (nameM q), .string ⟨#[119, 97, 108, 45]⟩] W fun e w' => e = .returned (.tuple #[.string (st (Lib.trimPrefix (by' (nameM q)) [119, 97, 108, 45])), .bool (Lib.hasPrefix (by' (nameM q)) [119, 97, 108, 45])]) ∧ w' = W := cp W
    rw [p1, p2, st_map] at c
    exact c
  have cu := fun W hW => parse_any 16 (.inr rfl) (bs (whex q 16)) (by rw [bs_size, whex_length]; omega) W hW
  rw [by_bs, puX_name hq] at cu
  dsimp only at cu
  have cn := fun W => name_any q hq W
  have HL := Box.mk hL
  have e1 : ((nameM q).toList == (nameM q).toList) = true := beq_self_eq_true _
  generalize nameM q = N at *
  generalize bs (whex q 16) = D at *
  have CP := Box.mk cp; have CU := Box.mk cu; have CN := Box.mk cn
  clear cp cu cn hL p1 p2
  go_enter Tryz.func26, Tryz.ntmps26
  go_wp2_with (first
    | (go_at_call 42; ((with_reducible refine (CP.out _).mono ?_); rintro e w1 ⟨rfl, rfl⟩))
    | (go_at_call 43; ((refine (CU.out _ HL.out).mono ?_); rintro e w2 ⟨⟨x, rfl, hx⟩, b2⟩; unfold ErrV at hx; rw [if_pos rfl] at hx; subst hx; have B2 := Box.mk b2; clear b2))
    | (go_at_call 18; ((with_reducible refine (CN.out _).mono ?_); rintro e w3 ⟨rfl, b3⟩; have B3 := Box.mk (B2.out.trans (b3.mono B2.out.size)); clear b3)))
  go_ret2
  exact ⟨rfl, B3.out⟩
end Go.Proofs.YtdffpbfllekcgaaGreatDoor
namespace Go.Proofs.YtdffpbfllekcgaaGreatDoor
set_option maxRecDepth 100000
open Go.ChangeShapes Go.WideShapes Go.RowKit Go.Maps Go.Sort Go.Shelf M

theorem mapL_keys {H : Type} {P : Program} {k t e : TypeId} {w : World} {b n : Nat} {loc : Nat → Nat} {l : KL} {D0 : DataW H} (h : MapL w b loc l) (ho : w.ownsMap P k ptrR b n D0) (hk : P.underlying k = some .string)
    (ht : P.underlying t = some (.map k e)) (hz : (zeroValue e).run P w = .ok (.pointer none) w) : (l.map fun p => p.1.data.toList).Perm (strKeys D0) := by
  obtain ⟨es, rfl, hko⟩ := ho.keysOf
  obtain ⟨es', hD, hpw, _⟩ := ho.entries (string_keyed hk)
  obtain rfl : es = es' := by simpa using hD
  have hB : (l.map fun p => p.1.data.toList).Nodup := by
    have := h.nd
    exact List.pairwise_map.2 ((List.pairwise_map.1 this).imp fun hne e => hne (ByteArray.ext (Array.toList_inj.1 e)))
  refine perm_strKeys hpw (fun p hp => by obtain ⟨v, hv⟩ := hko p hp; obtain ⟨x, _, hx, _⟩ := Maps.keyOf_str hk hv; exact ⟨x, hx⟩) hB (fun x => ⟨fun hx => ?_, fun hx => ?_⟩)
  · obtain ⟨p, hp, rfl⟩ := List.mem_map.1 hx
    exact has_mapL h ho hk p.1 (h.keys p hp) ht hz (kget_mem h.nd hp)
  · have hlen : x.length ≤ maxLen := by
      have hx := hx
      rw [has_eq, List.any_eq_true] at hx
      obtain ⟨p, hp, hs⟩ := hx
      obtain ⟨v, hv⟩ := hko p hp
      obtain ⟨y, _, hy, hl⟩ := Maps.keyOf_str hk hv
      rw [hy] at hs
      have : y = x := by simpa [Lit.sameKey] using hs
      rw [← this]; exact hl
    cases hg : kget l ⟨x.toArray⟩ with
    | some m => exact List.mem_map.2 ⟨_, kget_some hg, mk_toList _⟩
    | none =>
      exfalso
      have hs : (⟨x.toArray⟩ : ByteArray).size ≤ maxLen := by show x.toArray.size ≤ _; simpa using hlen
      have lk := h.look hk ht hz ⟨x.toArray⟩ hs
      rw [hg] at lk
      obtain ⟨es2, clock, hb, F, _, hE⟩ := ho
      have hkey : keyOf P k (.string ⟨x.toArray⟩) = some (.string x) := by simp [keyOf, hk, mapKey, hs]
      rcases Maps.fit_look false (string_keyed hk) ht hz hb F hkey with ⟨hrun, hno, hat'⟩ | ⟨e0, z, _, _, hrun, hRv, hat', _⟩
      · rw [hE] at hx
        rw [has_false_of_atKey hat'] at hx
        cases hx
      · rw [lk] at hrun
        have hrun : (Result.ok (Value.pointer none) w : Result Value) = .ok e0.val w := hrun
        injection hrun with hv
        rw [← hv] at hRv
        cases hRv

/-- the names of a map, rising -/
def keysUp (l : KL) : List (List UInt8) := (l.map fun p => p.1.data.toList).mergeSort fun x y => decide (x ≤ y)

theorem sortsA (m : Nat) : AnyZ.SortsIn Tryz.prog Tryz.sortedL_ren Fence.wide m :=
  ⟨fun blk off cap ss W hH hblk hsz => callsIn_wide.2 (Tryz.slices_Sort_string blk off cap ss W hH hblk hsz), fun p cap W => callsIn_wide.2 (Any.slices_Sort_string_none Tryz.lays190 p cap W)⟩

theorem mkeys_any (b : Nat) (W : World) : Calls Tryz.prog 24 #[.map (some b)] W fun e w' => e = .returned (.func (.func 41) #[] #[.pointer (some ⟨W.heap.size, 0, none⟩)]) ∧ w' = W.alloc (.cells #[.map (some b)] 43) :=
  (callsIn_wide (n := 5)).1 (AnyZ.keys_in Tryz.keysL Fence.wide 5 trivial rfl (some b) W)

set_option maxHeartbeats 1000000 in
theorem msorted_any (b : Nat) (loc : Nat → Nat) (l : KL) (w : World) (hm : MapL w b loc l) (hl : l.length ≤ 1000000) (hz : (zeroValue 50).run Tryz.prog w = .ok (.pointer none) w) :
    Calls Tryz.prog 23 #[.func (.func 41) #[] #[.pointer (some ⟨w.heap.size, 0, none⟩)]] (w.alloc (.cells #[.map (some b)] 43)) fun e w' =>
      ∃ v, e = .returned v ∧ w'.ownsRow w.heap.size 9 1 v l.length ((keysUp l).map encStr) ∧ Below w.heap.size w w' := by
  obtain ⟨D0, hown⟩ := hm.owns (H := Unit) (P := Tryz.prog) (k := 9) Tryz.underlying9
  have hsz : Maps.size D0 ≤ l.length := hown.size_le
  have hbl := hown.lt
  have hseq : SeqGives Fence.wide 2 Tryz.prog 41 #[.pointer (some ⟨w.heap.size, 0, none⟩)] encStr (fun ss => ss.Perm (strKeys D0)) (Maps.size D0) (w.alloc (.cells #[.map (some b)] 43)) :=
    AnyZ.keys_gives (ρ := Tryz.keysL_ren) { Tryz.keysL with } Fence.wide _ trivial rfl (by omega) w.heap.size b l.length D0 _ (by simp) (by simp) (by
      obtain ⟨es, clock, hb, Ft, hs, hD⟩ := hown
      exact ⟨es, clock, (Below.heap_alloc _ _ b hbl).trans hb, Ft, hs, hD⟩)
  have c := AnyZ.sorted_in Tryz.sortedL Fence.wide 5 trivial trivial trivial trivial rfl (by omega) (sortsA _) (enters_of Tryz.func40 (by kernel_rfl) rfl) 41 #[.pointer (some ⟨w.heap.size, 0, none⟩)] trivial (enters_of Tryz.func41 (by kernel_rfl) rfl) _ _ (by unfold maxLen; omega) (by omega) _ hseq
  refine ((callsIn_wide (n := 5)).1 c).mono fun e w' ⟨v, ss, he, hS, hrow, _, hb⟩ => ⟨v, he, ?_, ?_⟩
  · have pk := mapL_keys hm hown Tryz.underlying9 Tryz.underlying43 hz
    have hlen : ss.length = l.length := by rw [(hS.trans pk.symm).length_eq, List.length_map]
    have e2 : ss.mergeSort (fun x y => decide (x ≤ y)) = keysUp l := mergeSort_of_perm (hS.trans pk.symm)
    rw [hlen, e2] at hrow
    exact ownsRow_base_a hrow (by simp)
  · exact ((Below.refl _ w).alloc (Nat.le_refl _) _).trans (hb.mono (by simp))

set_option maxHeartbeats 1000000 in
theorem names_any (L : Lay) (S : DS) (w : World) (h : DiskAt w L S) (hd : S.dead = false) (hl : S.names.length ≤ 1000000) :
    Calls Tryz.prog 9 #[.pointer (some ⟨L.b, 0, none⟩)] w fun e w' => ∃ v, e = .returned (.tuple #[v, .int .i64 0]) ∧ w'.ownsRow w.heap.size 9 1 v S.names.length ((keysUp S.names).map encStr) ∧ Below w.heap.size w w' := by
  have c0 := h.head.c0
  have c8 := h.head.c8
  rw [hd] at c8
  have ck := mkeys_any L.nb w
  have cs := msorted_any L.nb L.loc S.names w h.names hl (zero_file w)
  have CK := Box.mk ck; have CS := Box.mk cs
  clear ck cs h hl hd
  go_enter Tryz.func9, Tryz.ntmps9
  go_wp2_with (first
    | (go_at_call 24; ((with_reducible refine CK.out.mono ?_); rintro e w1 ⟨rfl, rfl⟩))
    | (go_at_call 23; ((with_reducible refine CS.out.mono ?_); rintro e w2 ⟨v, rfl, hrow, hb⟩; have HR := Box.mk hrow; have HB := Box.mk hb; clear hrow hb)))
  go_ret2
  exact ⟨v, rfl, HR.out, HB.out⟩
theorem names_dead (L : Lay) (S : DS) (w : World) (h : DiskAt w L S) (hd : S.dead = true) :
    Calls Tryz.prog 9 #[.pointer (some ⟨L.b, 0, none⟩)] w fun e w' => e = .returned (.tuple #[.slice none 0 0, .int .i64 9]) ∧ w = w' := by
  have c8 := h.head.c8
  rw [hd] at c8
  clear h hd
  go_enter Tryz.func9, Tryz.ntmps9
  go_wp2
  go_ret2
  exact ⟨rfl, rfl⟩
end Go.Proofs.YtdffpbfllekcgaaGreatDoor
namespace Go.Proofs.YtdffpbfllekcgaaGreatDoor
set_option maxRecDepth 100000
open Go.ChangeShapes Go.WideShapes Go.RowKit Go.Maps Go.Sort M

theorem lex_lt : ∀ (a b : List Nat), (∀ d ∈ a, d < 2 ^ 8) → (∀ d ∈ b, d < 2 ^ 8) → lexL a b = true → a.map UInt8.ofNat < b.map UInt8.ofNat
  | [], [], _, _, h => by cases h
  | [], _ :: _, _, _, _ => by simp
  | _ :: _, [], _, _, h => by cases h
  | x :: a, y :: b, ha, hb, h => by
    have hx := ha x List.mem_cons_self
    have hy := hb y List.mem_cons_self
    unfold lexL at h
    rw [List.map_cons, List.map_cons, List.cons_lt_cons_iff]
    rw [Bool.or_eq_true, Bool.and_eq_true, decide_eq_true_eq, beq_iff_eq] at h
    rcases h with h | ⟨e, h⟩
    · left
      rw [UInt8.lt_iff_toNat_lt]
      simp
      omega
    · right
      exact ⟨by rw [e], lex_lt a b (fun d hd => ha d (List.mem_cons_of_mem _ hd)) (fun d hd => hb d (List.mem_cons_of_mem _ hd)) h⟩
def wnb (q : Nat) : List UInt8 := (nameM q).data.toList
theorem wnb_lt {q p : Nat} (h : q < p) (hp : p < 18446744073709551616) : wnb q < wnb p := by
  have e : ∀ q, wnb q = (nameL q).map UInt8.ofNat := fun q => by unfold wnb nameM; exact by_bs _
  rw [e, e]
  exact lex_lt _ _ (nameL_lt q) (nameL_lt p) (nameL_rise h hp)
def nmRow (l : List Seg) : List Value := l.map fun g => .string (nameM g.q)
theorem keysUp_ents {N : KL} {l : List Seg} (hp : N.Perm (ents l)) (hr : l.Pairwise (fun a b => a.q < b.q)) (hl : ∀ g ∈ l, g.q ≤ bigQ) : (keysUp N).map encStr = nmRow l := by
  have e1 : (N.map fun p => p.1.data.toList).Perm (l.map fun g => wnb g.q) := by
    have := hp.map fun p => p.1.data.toList
    unfold ents at this
    rw [List.map_map] at this
    exact this
  have e2 : keysUp N = l.map fun g => wnb g.q := by
    unfold keysUp
    rw [mergeSort_of_perm e1]
    refine List.mergeSort_of_pairwise ?_
    refine List.pairwise_map.2 (List.Pairwise.imp_of_mem (fun {a b} _ hb h => ?_) hr)
    have hq := hl b hb
    have := wnb_lt h (by unfold bigQ at hq; omega)
    simp only [leB, decide_eq_true_eq]
    exact List.le_of_lt this
  rw [e2, List.map_map]
  unfold nmRow
  refine List.map_congr_left fun g _ => ?_
  show Value.string ⟨(wnb g.q).toArray⟩ = _
  unfold wnb
  simp

/-- what files leaves -/
def FilesP (l : List Seg) (w : World) (e : Ending) (w' : World) : Prop := ∃ v, e = .returned (.tuple #[v, .int .i64 0]) ∧ w'.ownsRow w.heap.size 9 1 v l.length (nmRow l) ∧ Below w.heap.size w w'

set_option maxHeartbeats 2000000 in
theorem files_any (L : Lay) (S : DS) (l : List Seg) (w : World) (h : DiskAt w L S) (hd : S.dead = false) (hl : l.length ≤ 1000000) (hp : S.names.Perm (ents l)) (hr : l.Pairwise (fun a b => a.q < b.q)) (hq : ∀ g ∈ l, g.q ≤ bigQ) (hL : LibW w) :
    Calls Tryz.prog 25 #[.pointer (some ⟨L.b, 0, none⟩)] w (FilesP l w) := by
  obtain ⟨i0, hi, hz0, hz1, hz2⟩ := string_parts
  have hlen : S.names.length = l.length := by rw [hp.length_eq]; exact List.length_map _
  have cn := names_any L S w h hd (by omega)
  rw [keysUp_ents hp hr hq, hlen] at cn
  have num : ∀ (j : Nat) (g : Seg), l[j]? = some g → ∀ W, LibW W → Calls Tryz.prog 26 #[.string (nameM g.q)] W fun e w' => e = .returned (.tuple #[.int .u64 (g.q : Int), .bool true]) ∧ Below W.heap.size W w' := fun j g hg W hW =>
    wnumber_any g.q (by have := hq g (List.mem_of_getElem? hg); unfold bigQ at this; omega) W hW
  have CN := Box.mk cn; have NU := Box.mk num; have HL := Box.mk hL
  clear cn num hL hp hr hq hlen h hd
  obtain ⟨n, hn⟩ : ∃ n, n = l.length := ⟨_, rfl⟩
  have HN := Box.mk hn
  rw [← hn] at hl
  rw [← HN.out] at CN
  clear hn
  go_enter Tryz.func25, Tryz.ntmps25
  go_wp2_with (go_at_call 9; ((with_reducible refine CN.out.mono ?_); rintro e w1 ⟨v, rfl, hrow, hb⟩; obtain ⟨p, cp, rfl⟩ := own_len hrow; have RN := Box.mk hrow; have B1 := Box.mk hb; clear hrow hb CN))
  go_loopw [6, 21] (fun o i wr => ∃ k : Nat, k ≤ n ∧ i = .int .i64 (k : Int) ∧ Box (wr.ownsRow w1.heap.size 9 1 o k (nmRow (l.take k))) ∧ Box (Below w1.heap.size w1 wr) ∧ ∃ p2 l2 c2, o = .slice p2 l2 c2)
    (fun _ i _ => n - (intOf i).toNat)
  case atStart => exact ⟨0, by omega, rfl, ⟨World.ownsRow_nil _ _ _ _⟩, ⟨Below.refl _ _⟩, _, _, _, rfl⟩
  case round =>
    obtain ⟨k, hk, rfl, hO, hB, p2, l2, c2, rfl⟩ := hrel
    by_cases hlt : k < n
    · obtain ⟨g, hg⟩ : ∃ g, l[k]? = some g := ⟨_, List.getElem?_eq_getElem (by rw [← HN.out]; exact hlt)⟩
      have rn : wr.ownsRow w.heap.size 9 1 (.slice p n cp) n (nmRow l) := row_keep RN.out (fun j e => hB.out.block j (RN.out.lt j e).2)
      obtain ⟨gb, cap, hvv, _⟩ := rn.form (by omega)
      obtain ⟨rfl, _, rfl⟩ := Value.slice.inj hvv
      have hc1 := rn.cellAt k (by omega)
      unfold nmRow at hc1
      rw [List.getElem?_map, hg] at hc1
      have hcell : wr.cell? ⟨gb, k, none⟩ = some (.string (nameM g.q)) := by simpa using hc1
      clear hc1
      have ck := fun W hW => NU.out k g hg W hW
      have tk : nmRow (l.take (k + 1)) = nmRow (l.take k) ++ [.string (nameM g.q)] := by
        unfold nmRow
        rw [List.take_add_one, hg, List.map_append]; rfl
      obtain ⟨N, hN⟩ : ∃ N, N = nameM g.q := ⟨_, rfl⟩
      obtain ⟨q, hq⟩ : ∃ q, q = g.q := ⟨_, rfl⟩
      rw [← hN] at ck hcell tk
      rw [← hq] at ck
      have CK := Box.mk ck; have TK := Box.mk tk
      clear hvv rn hg tk ck hN hq
      go_wp2_with (first
        | (go_at_call 26; ((with_reducible refine (CK.out _ (HL.out.below (B1.out.trans (hB.out.mono B1.out.size)))).mono ?_); rintro e w2 ⟨rfl, b2⟩; have B2 := Box.mk (hB.out.trans (b2.mono hB.out.size)); have O1 := Box.mk (row_keep hO.out (fun j e => b2.block j (hO.out.lt j e).2)); clear b2))
        | (at_builtin; refine wpList_append_lies _ rfl (.tmp 31) (.tmp 33) 22 rfl w1.heap.size 9 i0 _ 1 16 Tryz.underlying22 hi hz0 hz1 hz2 rfl (by omega) _ k (nmRow (l.take k)) rfl (O1.out.alloc _) ⟨w2.heap.size, 0, none⟩ 1 1 [.string N] rfl rfl (World.news_of_block (cs := #[.string N]) (t := 9) (fr := (0, 0)) (heap_alloc_new _ _)) (by simp [Value.oneCell']) (by omega) (by unfold maxLen; omega) (by omega) (by have := B2.out.size; simp; omega) (w2.heap.size + 1) (by simp) ?_; intro g3 cap3 w3 hown3 hgrow hat hlt2; have O3 := Box.mk hown3; have B3 : Box (Below w1.heap.size w1 w3) := ⟨(B2.out.alloc B2.out.size _).grown hgrow (by have := B2.out.size; simp; omega) (fun k hk => (O1.out.lt k hk).1)⟩; clear hown3 hgrow hat hlt2))
      go_roundw
      case rel => exact ⟨k + 1, by omega, by go_num, ⟨by rw [TK.out]; exact O3.out⟩, B3, _, _, _, rfl⟩
      case measure => simp [intOf]; omega
    · obtain rfl : k = n := by omega
      have ho := hO.out
      rw [List.take_of_length_le (by rw [← HN.out]; omega)] at ho
      have HO := Box.mk ho
      clear ho hO
      go_wp2
      go_ret2
      exact ⟨_, rfl, by rw [← HN.out]; exact ownsRow_base_a HO.out B1.out.size, B1.out.trans (hB.out.mono B1.out.size)⟩

theorem files_dead (L : Lay) (S : DS) (w : World) (h : DiskAt w L S) (hd : S.dead = true) :
    Calls Tryz.prog 25 #[.pointer (some ⟨L.b, 0, none⟩)] w fun e w' => e = .returned (.tuple #[.slice none 0 0, .int .i64 9]) ∧ w = w' := by
  have CN := Box.mk (names_dead L S w h hd)
  clear h hd
  go_enter Tryz.func25, Tryz.ntmps25
  go_wp2_with (go_at_call 9; ((with_reducible refine CN.out.mono ?_); rintro e w1 ⟨rfl, rfl⟩))
  go_ret2
  exact ⟨rfl, rfl⟩
end Go.Proofs.YtdffpbfllekcgaaGreatDoor
