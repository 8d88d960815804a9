/- Tables: ordeallaw22.TableOne. -/
import Derived.Test.YtpinpplbjgbkaaaDoorTabM
import Derived.BigQuiet
namespace Go.Proofs.YtpinpplbjgbkaaaDoor
set_option maxRecDepth 100000
open Go.RowKit Go.Maps Go.Sort M

theorem one_fin {l : List Ent} {T : ByteArray} {ys : List Ent} (_hT : T.size ≤ 432) (h1 : Rising l.reverse) (h2 : sb T = bytT l.reverse) (hp : ys.Perm l) (h3 : Rising ys) : bs (bytT ys) = T := by
  have e : ys = l.reverse := rising_one (hp.trans (List.reverse_perm l).symm) h3 h1
  rw [e, ← h2, bs_list]

set_option maxRecDepth 100000 in
set_option maxHeartbeats 2000000 in
theorem tableOne_walk (s : ByteArray) (w : World) (hK : KTab w) :
    Calls Tryd.prog 3 #[.string s] w fun e w' => e = .returned (.bool true) ∧ Below w.heap.size w w' := by
  have ccut := cut_any s 400 w
  rw [show ((400 : Nat) : Int) = 400 from rfl] at ccut
  obtain ⟨A, hA⟩ : ∃ A, A = s.extract 0 400 := ⟨_, rfl⟩
  have hAs : A.size ≤ 400 := by rw [hA, ByteArray.size_extract]; omega
  rw [← hA] at ccut
  have c1 := shaOf_any A (by omega) w hK
  obtain ⟨D, hD⟩ : ∃ D, D = shaN (sb A) := ⟨_, rfl⟩
  have hDl : D.length = 32 := by rw [hD]; exact shaN_length _
  rw [← hD] at c1
  obtain ⟨S2, hS2⟩ : ∃ S, S = bs D := ⟨_, rfl⟩
  have hcv : ∀ W : World, (convert 26 9 (.slice (some ⟨W.heap.size, 0, none⟩) 32 32)).run Tryd.prog (W.alloc (.cells (byts D).toArray 24)) = .ok (.string S2) (W.alloc (.cells (byts D).toArray 24)) := fun W => by
    rw [hS2]
    exact conv_rangeI (cap := 32) hDl (range_new _ _ _ _ rfl)
  have hSs : S2.size = 32 := by rw [hS2, bs_size, hDl]
  have ht : ∀ (W : World) (Z : Array Value), Z.size = 32 → (W.alloc (.cells Z 24)).there W.heap.size 0 32 := fun W Z hZ => by
    have := there_new W 24 Z.toList W.heap.size 0 32 rfl (by simp [hZ])
    simpa using this
  have hbl : (byts D).length = 32 := by rw [byts_length]; exact hDl
  have hb1 := byts_one D
  obtain ⟨C, hC⟩ : ∃ C, C = byts D := ⟨_, rfl⟩
  rw [← hC] at c1 hcv hbl hb1
  obtain ⟨T, hT⟩ : ∃ T, T = A ++ S2 := ⟨_, rfl⟩
  have hTs : T.size ≤ 432 := by rw [hT, ByteArray.size_append]; omega
  have hTl : A ++ S2 = T := hT.symm
  have hlt : (9223372036854775807 < A.size + S2.size) = False := eq_false (by omega)
  have cps := fun W (h : KTab W) => parseT_any T W (by omega) h
  have caw := fun W (h : KTab W) => awake22_any W h
  have cby := fun (W : World) (tb : Nat) (mo : Option Nat) (l : List Ent) (h : Tab W tb mo l) (h2 : sb T = bytT l.reverse) (hk : KTab W) =>
    tbytes_any tb mo l W h (by have := (bytT_small h2 (by omega)).1; rwa [List.length_reverse] at this) (fun x hx => (bytT_small h2 (by omega)).2 x (by rw [List.mem_reverse]; exact hx)) hk
  have fin := fun (l ys : List Ent) (h1 : Rising l.reverse) (h2 : sb T = bytT l.reverse) (hp : ys.Perm l) (h3 : Rising ys) => one_fin hTs h1 h2 hp h3
  have CC := Box.mk ccut; have C1 := Box.mk c1; have HCV := Box.mk hcv; have CP := Box.mk cps; have CA := Box.mk caw; have CB := Box.mk cby; have FI := Box.mk fin; have HK := Box.mk hK
  clear ccut c1 hcv cps caw cby fin hK hA hAs hD hDl hS2 hSs hC hT hTs
  go_enter Tryd.func3, Tryd.ntmps3
  go_upto_region 5 with (first
    | (go_at_call 6; ((with_reducible refine CC.out.mono ?_); rintro e w' ⟨rfl, rfl⟩))
    | (go_at_call 7; ((with_reducible refine C1.out.mono ?_); rintro e w1 ⟨rfl, b1⟩; have B1 := Box.mk b1; have hcv1 := HCV.out w1; clear b1 C1))
    | ((with_reducible refine at_store 24 (.tmp 3) (.tmp 9) ?_); refine wpList_store_mid rfl 24 (.tmp 3) (.tmp 9) rfl w1.heap.size 0 C.toArray rfl rfl (by have e : C.toArray.size = 32 := (by simp [hbl]); rw [e]; exact ht w1 _ rfl) (by have e : C.toArray.size = 32 := (by simp [hbl]); rw [e]; exact info_hash) (all_oneCell_toArray hb1) ?_; rw [show (w1.alloc _).setCells w1.heap.size 0 C.toArray.toList = w1.alloc (.cells C.toArray 24) from fillE w1 _ _ _ (by simp [hbl])])
    | (go_at_call 8; ((try rw [hTl]); (with_reducible refine (CP.out _ (ktab_below HK.out (B1.out.alloc B1.out.size _))).mono ?_); rintro e w2 ⟨b2, h2⟩; have B2 := Box.mk ((B1.out.alloc (by exact B1.out.size) (.cells C.toArray 24)).trans (b2.mono (by have := B1.out.size; simp; omega))); have ev : ∃ v k, e = .returned (.tuple #[.pointer v, .int .i64 k]) := (by rcases h2 with ⟨k, _, rfl⟩ | ⟨_, _, _, rfl, _⟩; exact ⟨_, _, rfl⟩; exact ⟨_, _, rfl⟩); obtain ⟨pv, kv, rfl⟩ := ev; have H2 := Box.mk h2; clear b2 h2)))
  rcases H2.out with ⟨k, hk, he⟩ | ⟨tb, mo, l, he, ht2, hr, hsb⟩
  · simp only [Ending.returned.injEq, Value.tuple.injEq, Array.mk.injEq, List.cons.injEq, Value.pointer.injEq, Value.int.injEq, and_true, true_and] at he
    obtain ⟨rfl, rfl⟩ := he
    have e1 : ((k : Int) != 0) = true := by simp; omega
    have e1p : ((k : Int) = 0) = False := eq_false (by omega)
    have e1n : (k = 0) = False := eq_false hk
    clear hk
    go_wp2_with (go_at_call 9; ((with_reducible refine (CA.out _ (ktab_below HK.out B2.out)).mono ?_); rintro e w3 ⟨rfl, b3⟩; have B3 := Box.mk (B2.out.trans (b3.mono B2.out.size)); clear b3))
    go_ret
    exact ⟨rfl, B3.out⟩
  · simp only [Ending.returned.injEq, Value.tuple.injEq, Array.mk.injEq, List.cons.injEq, Value.pointer.injEq, Value.int.injEq, and_true, true_and] at he
    obtain ⟨rfl, rfl⟩ := he
    have TT := Box.mk ht2; have RI := Box.mk hr; have SB := Box.mk hsb
    clear ht2 hr hsb
    go_wp2_with (first
      | (go_at_call 9; ((with_reducible refine (CA.out _ (ktab_below HK.out B2.out)).mono ?_); rintro e w3 ⟨rfl, b3⟩; have B3 := Box.mk (B2.out.trans (b3.mono B2.out.size)); have T3 := Box.mk (TT.out.below b3); clear b3))
      | (go_at_call 10; ((with_reducible refine (CB.out _ _ _ _ T3.out SB.out (ktab_below HK.out B3.out)).mono ?_); rintro e w4 ⟨ys, hp, hrs, rfl, b4⟩; have B4 := Box.mk (B3.out.trans (b4.mono B3.out.size)); have q := FI.out l ys RI.out SB.out hp hrs; rw [q]; have sb1 := str_beq T T; rw [decide_eq_true rfl] at sb1; clear b4 hp hrs q)))
    go_ret
    exact ⟨rfl, B4.out⟩
end Go.Proofs.YtpinpplbjgbkaaaDoor
