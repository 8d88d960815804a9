/- Contracts of sha: Of; the text of a digest. -/
import Derived.Test.YtdhbeeeofaheeaaDoorShaF
namespace Go.Proofs.YtdhbeeeofaheeaaDoor
set_option maxRecDepth 100000
open Go.RowKit M

theorem hash_size {l : List Nat} (h : l.length = 32) : (Tryd.prog.info? 36).map (fun i => i.size) = some (byts l).toArray.size := by
  have e : (byts l).toArray.size = 32 := by simp [byts_length, h]
  have k0 : (Tryd.prog.info? 36).map (fun i => i.size) = some 32 := by kernel_rfl
  rw [e]; exact k0
theorem hash_there {w : World} {b : Nat} {l : List Nat} (ht : w.there b 0 32) (h : l.length = 32) : w.there b 0 (byts l).toArray.size := by
  have e : (byts l).toArray.size = 32 := by simp [byts_length, h]
  rw [e]; exact ht
theorem hash_load {w : World} {b : Nat} {l : List Nat} (ht : w.there b 0 32) (h : l.length = 32) : (loadVar 36 ⟨b, 0, none⟩).run Tryd.prog (w.setCells b 0 (byts l)) = .ok (.agg (byts l).toArray) (w.setCells b 0 (byts l)) := by
  have u1 : (Tryd.prog.info? 36).map (fun i => i.size) = some (byts l).length := by
    have := hash_size h
    simpa using this
  exact (store_arr (T := 36) (cs := byts l) (by rw [byts_length, h]; exact ht) u1 (byts_one _) Tryd.underlying36 rfl).2

set_option maxRecDepth 100000 in
set_option maxHeartbeats 400000 in
theorem shaOf_any (s : ByteArray) (hs : s.size < 4294967000) (w : World) (hK : KTab w) :
    Calls Tryd.prog 18 #[.string s] w fun e w' => e = .returned (.agg (byts (shaN (sb s))).toArray) ∧ Below w.heap.size w w' := by
  have hGl := global_lt hK
  have HK := Box.mk hK; clear hK
  have hA : Below w.heap.size w ((w.alloc (.cells (byts (List.replicate 32 0)).toArray 36)).alloc (.cells Tryd.zeroCells32 32)) := ((Below.refl _ _).alloc (Nat.le_refl _) _).alloc (by simp) _
  have tR : ((w.alloc (.cells (byts (List.replicate 32 0)).toArray 36)).alloc (.cells Tryd.zeroCells32 32)).there w.heap.size 0 32 :=
    World.there_alloc (there_new w 36 (byts (List.replicate 32 0)) _ 0 32 rfl (by decide)) _
  have hH : HasW ((w.alloc (.cells (byts (List.replicate 32 0)).toArray 36)).alloc (.cells Tryd.zeroCells32 32)) (w.heap.size + 1) [] (List.replicate 64 0) := has_new _ _ (by simp)
  have cw := write_any (w.heap.size + 1) [] (List.replicate 64 0) s _ hH (by simp; omega) (ktab_below HK.out hA) (by omega)
  have HA := Box.mk hA; have TR := Box.mk tR; have CW := Box.mk cw
  clear hA tR cw hH
  go_enter Tryd.func18, Tryd.ntmps18
  go_wp2_with (first
    | (go_at_call 15; refine CW.out.mono ?_; rintro e w4 ⟨rfl, ⟨R4, h4⟩, d4⟩; have Y3 := Box.mk (bch' HA.out (d4.below (B := w.heap.size) (by omega) HA.out.size)); have Y4 := Box.mk (d4.there TR.out (by omega)); have Y5 := Box.mk h4; clear h4 d4)
    | (go_at_call 16; refine (sum_any (w.heap.size + 1) ([] ++ sb s) R4 _ Y5.out (by rw [List.nil_append, sb_length]; omega) (ktab_below HK.out Y3.out)).mono ?_; rintro e w5 ⟨rfl, b5⟩; have Y6 := Box.mk (bch Y3.out b5); have Y7 := Box.mk (there_below b5 Y4.out); clear b5)
    | ((with_reducible refine at_store 36 (.tmp 2) (.tmp 6) ?_); refine wpList_store_mid rfl 36 (.tmp 2) (.tmp 6) rfl w.heap.size 0 (byts (shaN (sb s))).toArray rfl rfl (hash_there Y7.out (shaN_length _)) (hash_size (shaN_length _)) (all_oneCell_toArray (byts_one _)) ?_))
  refine bodyPost_ret (v := .agg (byts (shaN (sb s))).toArray) (results_one rfl rfl (hash_load Y7.out (shaN_length _))) rfl ⟨rfl, below_setCells (Nat.le_refl _) _ _ _ _ Y6.out⟩
end Go.Proofs.YtdhbeeeofaheeaaDoor
