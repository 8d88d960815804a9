/- Contracts of wal: the files of a log among any files. -/
import Derived.Test.YtdffpbfllekcgaaGreatDoorOpnB
import Derived.Test.YtdffpbfllekcgaaGreatDoorHz
namespace Go.Proofs.YtdffpbfllekcgaaGreatDoor
set_option maxRecDepth 100000
open Go.ChangeShapes Go.WideShapes Go.RowKit Go.Maps Go.Sort M

/-- the names of all files, rising -/
def namesX (S : DS) : List ByteArray := (keysUp S.names).map fun k => ⟨k.toArray⟩
def strX (X : List ByteArray) : List Value := X.map Value.string
theorem namesX_row (S : DS) : (keysUp S.names).map encStr = strX (namesX S) := by
  unfold strX namesX
  rw [List.map_map]
  rfl
theorem namesX_length (S : DS) : (namesX S).length = S.names.length := by
  unfold namesX keysUp
  rw [List.length_map, List.length_mergeSort, List.length_map]
theorem namesX_mem {S : DS} {x : ByteArray} (h : x ∈ namesX S) : ∃ p ∈ S.names, p.1 = x := by
  unfold namesX keysUp at h
  obtain ⟨k, hk, rfl⟩ := List.mem_map.1 h
  obtain ⟨p, hp, e⟩ := List.mem_map.1 (List.mem_mergeSort.1 hk)
  refine ⟨p, hp, ?_⟩
  rw [← e]
def FilesX (S : DS) (n : Nat) (w : World) (e : Ending) (w' : World) : Prop := ∃ v, e = .returned (.tuple #[v, .int .i64 0]) ∧ w'.ownsRow w.heap.size 9 1 v n (strX (logsX (namesX S))) ∧ Below w.heap.size w w'
theorem logsX_take {X : List ByteArray} {k : Nat} {x : ByteArray} (h : X[k]? = some x) : logsX (X.take (k + 1)) = logsX (X.take k) ++ (if (logN x).isSome = true then [x] else []) := by
  unfold logsX
  rw [List.take_add_one, h, List.filter_append]
  congr 1
  show [x].filter _ = _
  rw [List.filter_cons]
  split <;> rfl

set_option maxHeartbeats 2000000 in
theorem files_all (L : Lay) (S : DS) (n : Nat) (w : World) (h : DiskAt w L S) (hd : S.dead = false) (hl : S.names.length ≤ 1000000) (hs : ∀ p ∈ S.names, p.1.size ≤ 1000) (hn : n = (logsX (namesX S)).length) (hL : LibW w) :
    Calls Tryz.prog 25 #[.pointer (some ⟨L.b, 0, none⟩)] w (FilesX S n w) := by
  obtain ⟨i0, hi, hz0, hz1, hz2⟩ := string_parts
  have cn := names_any L S w h hd hl
  rw [namesX_row, ← namesX_length] at cn
  rw [← namesX_length] at hl
  have num : ∀ x, x ∈ namesX S → ∀ W, LibW W → Calls Tryz.prog 26 #[.string x] W fun e w' => (∃ v : Nat, e = .returned (.tuple #[.int .u64 (v : Int), .bool (logN x).isSome]) ∧ (∀ q, logN x = some q → v = q)) ∧ Below W.heap.size W w' := fun x hx W hW => by
    obtain ⟨p, hp, rfl⟩ := namesX_mem hx
    exact wnumber_all _ (hs p hp) W hW
  unfold FilesX
  generalize namesX S = X at *
  obtain ⟨m, hm⟩ : ∃ m, m = X.length := ⟨_, rfl⟩
  rw [← hm] at cn hl
  have lm : ∀ k, (logsX (X.take k)).length ≤ k := fun k => by
    unfold logsX
    have := List.length_filter_le (fun x => (logN x).isSome) (X.take k)
    have := List.length_take_le k X
    omega
  have LM := Box.mk lm
  have CN := Box.mk cn; have NU := Box.mk num; have HL := Box.mk hL; have HM := Box.mk hm; have HN := Box.mk hn
  clear cn num hL hs h hd hm hn lm
  go_enter Tryz.func25, Tryz.ntmps25
  go_wp2_with (go_at_call 9; ((with_reducible refine CN.out.mono ?_); rintro e w1 ⟨v, rfl, hrow, hb⟩; obtain ⟨p, cp, rfl⟩ := own_len hrow; have RN := Box.mk hrow; have B1 := Box.mk hb; clear hrow hb CN))
  go_loopw [6, 21] (fun o i wr => ∃ k z : Nat, k ≤ m ∧ i = .int .i64 (k : Int) ∧ Box (z = (logsX (X.take k)).length) ∧ Box (wr.ownsRow w1.heap.size 9 1 o z (strX (logsX (X.take k)))) ∧ Box (Below w1.heap.size w1 wr) ∧ ∃ p2 l2 c2, o = .slice p2 l2 c2)
    (fun _ i _ => m - (intOf i).toNat)
  case atStart => exact ⟨0, 0, by omega, rfl, ⟨rfl⟩, ⟨World.ownsRow_nil _ _ _ _⟩, ⟨Below.refl _ _⟩, _, _, _, rfl⟩
  case round =>
    obtain ⟨k, z, hk, rfl, hz, hO, hB, p2, l2, c2, rfl⟩ := hrel
    have zl : z ≤ k := by rw [hz.out]; exact LM.out k
    by_cases hlt : k < m
    · obtain ⟨x, hx⟩ : ∃ x, X[k]? = some x := ⟨_, List.getElem?_eq_getElem (by rw [← HM.out]; exact hlt)⟩
      have rn : wr.ownsRow w.heap.size 9 1 (.slice p m cp) m (strX X) := row_keep RN.out (fun j e => hB.out.block j (RN.out.lt j e).2)
      obtain ⟨gb, cap, hvv, _⟩ := rn.form (by omega)
      obtain ⟨rfl, _, rfl⟩ := Value.slice.inj hvv
      have hc1 := rn.cellAt k (by omega)
      unfold strX at hc1
      rw [List.getElem?_map, hx] at hc1
      have hcell : wr.cell? ⟨gb, k, none⟩ = some (.string x) := by simpa using hc1
      clear hc1
      have ck := fun W hW => NU.out x (List.mem_of_getElem? hx) W hW
      have tk := logsX_take hx
      clear hvv rn
      cases hb : (logN x).isSome with
      | true =>
        rw [hb] at ck tk
        rw [if_pos rfl] at tk
        have CK := Box.mk ck; have TK := Box.mk tk
        clear ck tk hx hb
        go_wp2_with (first
          | (go_at_call 26; ((with_reducible refine (CK.out _ (HL.out.below (B1.out.trans (hB.out.mono B1.out.size)))).mono ?_); rintro e w2 ⟨⟨vq, rfl, _⟩, b2⟩; have B2 := Box.mk (hB.out.trans (b2.mono hB.out.size)); have O1 := Box.mk (row_keep hO.out (fun j e => b2.block j (hO.out.lt j e).2)); clear b2))
          | (at_builtin; refine wpList_append_lies _ rfl (.tmp 31) (.tmp 33) 22 rfl w1.heap.size 9 i0 _ 1 16 Tryz.underlying22 hi hz0 hz1 hz2 rfl (by omega) _ z (strX (logsX (X.take k))) rfl (O1.out.alloc _) ⟨w2.heap.size, 0, none⟩ 1 1 [.string x] rfl rfl (World.news_of_block (cs := #[.string x]) (t := 9) (fr := (0, 0)) (heap_alloc_new _ _)) (by simp [Value.oneCell']) (by omega) (by unfold maxLen; omega) (by omega) (by have := B2.out.size; simp; omega) (w2.heap.size + 1) (by simp) ?_; intro g3 cap3 w3 hown3 hgrow hat hlt2; have O3 := Box.mk hown3; have B3 : Box (Below w1.heap.size w1 w3) := ⟨(B2.out.alloc B2.out.size _).grown hgrow (by have := B2.out.size; simp; omega) (fun k hk => (O1.out.lt k hk).1)⟩; clear hown3 hgrow hat hlt2))
        go_roundw
        case rel => exact ⟨k + 1, z + 1, by omega, by go_num, ⟨by rw [TK.out, List.length_append, ← hz.out]; rfl⟩, ⟨by rw [TK.out]; unfold strX; rw [List.map_append]; exact O3.out⟩, B3, _, _, _, rfl⟩
        case measure => simp [intOf]; omega
      | false =>
        rw [hb] at ck tk
        rw [if_neg (by decide), List.append_nil] at tk
        have CK := Box.mk ck; have TK := Box.mk tk
        clear ck tk hx hb
        go_wp2_with (go_at_call 26; ((with_reducible refine (CK.out _ (HL.out.below (B1.out.trans (hB.out.mono B1.out.size)))).mono ?_); rintro e w2 ⟨⟨vq, rfl, _⟩, b2⟩; have B2 := Box.mk (hB.out.trans (b2.mono hB.out.size)); have O1 := Box.mk (row_keep hO.out (fun j e => b2.block j (hO.out.lt j e).2)); clear b2))
        go_roundw
        case rel => exact ⟨k + 1, z, by omega, by go_num, ⟨by rw [TK.out]; exact hz.out⟩, ⟨by rw [TK.out]; exact O1.out⟩, B2, _, _, _, rfl⟩
        case measure => simp [intOf]; omega
    · obtain rfl : k = m := by omega
      have ho := hO.out
      have hz := hz.out
      rw [List.take_of_length_le (by rw [← HM.out]; omega)] at ho hz
      rw [← HN.out] at hz
      subst hz
      have HO := Box.mk ho
      clear ho hO
      go_wp2
      go_ret2
      exact ⟨_, rfl, ownsRow_base_a HO.out B1.out.size, B1.out.trans (hB.out.mono B1.out.size)⟩
end Go.Proofs.YtdffpbfllekcgaaGreatDoor
