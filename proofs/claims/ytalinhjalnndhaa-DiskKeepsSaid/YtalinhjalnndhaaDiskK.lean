/- Contracts of disk: Remove, Rename. -/
import Derived.Test.YtalinhjalnndhaaDiskJ
namespace Go.Proofs.Ytalinhjalnndhaa
set_option maxRecDepth 100000
open Go.RowKit M

theorem list_bne {a b : ByteArray} (h : a ≠ b) : (a.toList == b.toList) = false := by
  rw [beq_eq_false_iff_ne, ByteArray.toList_eq, ByteArray.toList_eq]
  intro e
  exact h (ByteArray.ext (Array.toList_inj.1 e))
theorem Ran.call {w w1 : World} {L : Lay} {S' : DS} {w2 : World} (o : Chn (fun t => t = .disk) L.own w w1) (h : Ran w1 L S' w2) : Ran w L S' w2 :=
  Ran.after (o.mono (fun t e => by rw [e]; simp)) rfl (fun _ _ => rfl) h

set_option maxRecDepth 100000 in
set_option maxHeartbeats 600000 in
theorem remove_any (L : Lay) (S : DS) (name : ByteArray) (w : World) (h : DiskAt w L S) (hf : Fine S) (hn : name.size ≤ maxLen) :
    Calls Try.prog 19 #[.pointer (some ⟨L.b, 0, none⟩), .string name] w (RanP L w (.int .i64 (removeC S name)) (removeS S name)) := by
  have cf := find_any L S w h name hn
  unfold removeC removeS
  have HD := Box.mk h
  cases hg : findN S name with
  | none =>
    rw [hg] at cf
    have hc := findC_ne hg
    obtain ⟨r, hr⟩ : ∃ r, r = findC S name := ⟨_, rfl⟩
    rw [← hr] at cf hc ⊢
    have e1 : (r != 0) = true := by rcases hc with e | e <;> rw [e] <;> rfl
    rw [if_pos (by rcases hc with e | e <;> rw [e] <;> decide)]
    have CF := Box.mk cf
    clear h hg hr hc cf
    go_enter Try.func19, Try.ntmps19
    go_wp2_with (go_at_call 41; ((with_reducible refine CF.out.mono ?_); rintro e w1 ⟨rfl, rfl⟩))
    go_ret
    exact ⟨rfl, Ran.refl HD.out⟩
  | some n =>
    rw [hg] at cf
    obtain ⟨h1, h2⟩ := findN_ref hg hf.nref
    rw [findC_zero hg] at cf ⊢
    rw [if_neg (show ¬ ((0 : Int) ≠ 0) by simp)]
    have CF := Box.mk cf
    have cb := dbegin_any L S w h hf
    have hk := beginS_keeps S
    simp only
    by_cases h8 : beginC S = 8
    · rw [if_pos h8]
      rw [h8] at cb ⊢
      have CB := Box.mk cb
      clear h hg h8 hk cb cf
      go_enter Try.func19, Try.ntmps19
      go_wp2_with (first
        | (go_at_call 41; ((with_reducible refine CF.out.mono ?_); rintro e w1 ⟨rfl, rfl⟩))
        | (go_at_call 39; ((with_reducible refine CB.out.mono ?_); rintro e w1 ⟨rfl, d1, o1⟩; have D1 := Box.mk d1; have O1 := Box.mk o1; clear d1 o1)))
      go_ret
      exact ⟨rfl, Ran.of D1.out O1.out (fun t e => by rw [e]; simp)⟩
    · rw [if_neg h8]
      obtain ⟨r, hr⟩ : ∃ r, r = beginC S := ⟨_, rfl⟩
      rw [← hr] at cb ⊢
      have e2 : (r != 8) = true := by rw [hr]; simpa using h8
      have hok : RenOk (beginS S) := hf.ren.of hk.1 hk.2.2.1 (by rw [hk.2.2.2.1]; exact Nat.le_refl _)
      have h2' : n ≤ (beginS S).made := by rw [hk.2.2.2.1]; exact h2
      have hre := fun w1 (d1 : DiskAt w1 L (beginS S)) => ren_any L (beginS S) name ⟨#[]⟩ n w1 d1 hok h1 h2' hn (by unfold maxLen; show 0 ≤ _; omega)
      have CB := Box.mk cb; have HRE := Box.mk hre
      clear h hg h8 hk cb hr hf hok hre cf
      go_enter Try.func19, Try.ntmps19
      go_wp2_with (first
        | (go_at_call 41; ((with_reducible refine CF.out.mono ?_); rintro e w1 ⟨rfl, rfl⟩))
        | (go_at_call 39; ((with_reducible refine CB.out.mono ?_); rintro e w1 ⟨rfl, d1, o1⟩; have RE := Box.mk (HRE.out w1 d1); have O1 := Box.mk o1; clear d1 o1))
        | (go_at_call 40; ((with_reducible refine RE.out.mono ?_); rintro e w2 ⟨rfl, r2⟩; have R2 := Box.mk r2; clear r2)))
      go_ret
      exact ⟨rfl, Ran.call O1.out R2.out⟩

set_option maxRecDepth 100000 in
set_option maxHeartbeats 800000 in
theorem rename_any (L : Lay) (S : DS) (src dst : ByteArray) (w : World) (h : DiskAt w L S) (hf : Fine S) (hn : src.size ≤ maxLen) (hd : dst.size ≤ maxLen) :
    Calls Try.prog 18 #[.pointer (some ⟨L.b, 0, none⟩), .string src, .string dst] w (RanP L w (.int .i64 (renameC S src dst)) (renameS S src dst)) := by
  have cf := find_any L S w h src hn
  unfold renameC renameS
  have HD := Box.mk h
  cases hg : findN S src with
  | none =>
    rw [hg] at cf
    have hc := findC_ne hg
    obtain ⟨r, hr⟩ : ∃ r, r = findC S src := ⟨_, rfl⟩
    rw [← hr] at cf hc ⊢
    have e1 : (r != 0) = true := by rcases hc with e | e <;> rw [e] <;> rfl
    rw [if_pos (by rcases hc with e | e <;> rw [e] <;> decide)]
    have CF := Box.mk cf
    clear h hg hr hc cf
    go_enter Try.func18, Try.ntmps18
    go_wp2_with (go_at_call 41; ((with_reducible refine CF.out.mono ?_); rintro e w1 ⟨rfl, rfl⟩))
    go_ret
    exact ⟨rfl, Ran.refl HD.out⟩
  | some n =>
    rw [hg] at cf
    obtain ⟨h1, h2⟩ := findN_ref hg hf.nref
    rw [findC_zero hg] at cf ⊢
    rw [if_neg (show ¬ ((0 : Int) ≠ 0) by simp)]
    have CF := Box.mk cf
    have cb := dbegin_any L S w h hf
    have hk := beginS_keeps S
    simp only
    by_cases hz : dst.size = 0
    · rw [if_pos (.inl hz), if_pos (.inl hz)]
      have e1 := d_empty hz
      clear h hg hk cb cf hz hf
      go_enter Try.func18, Try.ntmps18
      go_wp2_with (go_at_call 41; ((with_reducible refine CF.out.mono ?_); rintro e w1 ⟨rfl, rfl⟩))
      go_ret
      exact ⟨rfl, Ran.refl HD.out⟩
    · have e1 := d_some (x := dst) (by omega)
      by_cases hq : dst = src
      · rw [if_pos (.inr hq), if_pos (.inr hq)]
        have e3 : (dst.toList == src.toList) = true := by rw [hq]; exact beq_self_eq_true _
        clear h hg hk cb cf hz hf hq
        go_enter Try.func18, Try.ntmps18
        go_wp2_with (go_at_call 41; ((with_reducible refine CF.out.mono ?_); rintro e w1 ⟨rfl, rfl⟩))
        go_ret
        exact ⟨rfl, Ran.refl HD.out⟩
      · rw [if_neg (by rintro (e | e); exact hz e; exact hq e), if_neg (by rintro (e | e); exact hz e; exact hq e)]
        have e3 : (dst.toList == src.toList) = false := list_bne hq
        by_cases h8 : beginC S = 8
        · rw [if_pos h8]
          rw [h8] at cb ⊢
          have CB := Box.mk cb
          clear h hg h8 hk cb cf hz hq
          go_enter Try.func18, Try.ntmps18
          go_wp2_with (first
            | (go_at_call 41; ((with_reducible refine CF.out.mono ?_); rintro e w1 ⟨rfl, rfl⟩))
            | (go_at_call 39; ((with_reducible refine CB.out.mono ?_); rintro e w1 ⟨rfl, d1, o1⟩; have D1 := Box.mk d1; have O1 := Box.mk o1; clear d1 o1)))
          go_ret
          exact ⟨rfl, Ran.of D1.out O1.out (fun t e => by rw [e]; simp)⟩
        · rw [if_neg h8]
          obtain ⟨r, hr⟩ : ∃ r, r = beginC S := ⟨_, rfl⟩
          rw [← hr] at cb ⊢
          have e2 : (r != 8) = true := by rw [hr]; simpa using h8
          have hok : RenOk (beginS S) := hf.ren.of hk.1 hk.2.2.1 (by rw [hk.2.2.2.1]; exact Nat.le_refl _)
          have h2' : n ≤ (beginS S).made := by rw [hk.2.2.2.1]; exact h2
          have hre := fun w1 (d1 : DiskAt w1 L (beginS S)) => ren_any L (beginS S) src dst n w1 d1 hok h1 h2' hn hd
          have CB := Box.mk cb; have HRE := Box.mk hre
          clear h hg h8 hk cb hr hf hok hre cf hz hq
          go_enter Try.func18, Try.ntmps18
          go_wp2_with (first
            | (go_at_call 41; ((with_reducible refine CF.out.mono ?_); rintro e w1 ⟨rfl, rfl⟩))
            | (go_at_call 39; ((with_reducible refine CB.out.mono ?_); rintro e w1 ⟨rfl, d1, o1⟩; have RE := Box.mk (HRE.out w1 d1); have O1 := Box.mk o1; clear d1 o1))
            | (go_at_call 40; ((with_reducible refine RE.out.mono ?_); rintro e w2 ⟨rfl, r2⟩; have R2 := Box.mk r2; clear r2)))
          go_ret
          exact ⟨rfl, Ran.call O1.out R2.out⟩

end Go.Proofs.Ytalinhjalnndhaa
