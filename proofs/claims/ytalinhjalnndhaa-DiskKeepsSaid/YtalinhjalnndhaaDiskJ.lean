/- Contracts of disk: Read, Sync, Remove, Rename. -/
import Derived.Test.YtalinhjalnndhaaDiskI
namespace Go.Proofs.Ytalinhjalnndhaa
set_option maxRecDepth 100000
open Go.RowKit M

theorem d_conv {w : World} {v : Value} {l : List Nat} (h : w.ownsRow 0 5 1 v l.length (byts l)) : (convert 76 9 v).run Try.prog w = .ok (.string (bs l)) w := by
  rcases h.2 with ⟨rfl, h0⟩ | ⟨g, cap, cur, hv, _⟩
  · obtain rfl : l = [] := List.eq_nil_of_length_eq_zero h0
    exact run_convert_bytes_nil (P := Try.prog) w 76 5 Try.underlying76 Try.underlying5 0 0 9 Try.underlying9
  · subst hv
    exact conv_bytes h

set_option maxHeartbeats 400000 in
theorem read_any (L : Lay) (S : DS) (name : ByteArray) (w : World) (h : DiskAt w L S) (hr : ∀ p ∈ S.names, 1 ≤ p.2 ∧ p.2 ≤ S.made) (hn : name.size ≤ maxLen) :
    Calls Try.prog 22 #[.pointer (some ⟨L.b, 0, none⟩), .string name] w fun e w' => e = .returned (.tuple #[.string (bs (readD S name)), .int .i64 (findC S name)]) ∧ w = w' := by
  have cf := find_any L S w h name hn
  unfold readD
  cases hg : findN S name with
  | none =>
    rw [hg] at cf
    have hc := findC_ne hg
    obtain ⟨r, hr⟩ : ∃ r, r = findC S name := ⟨_, rfl⟩
    rw [← hr] at cf hc ⊢
    have e1 : (r != 0) = true := by rcases hc with e | e <;> rw [e] <;> rfl
    have CF := Box.mk cf
    clear h hg hr hc cf
    go_enter Try.func22, Try.ntmps22
    go_wp2_with (go_at_call 41; ((with_reducible refine CF.out.mono ?_); rintro e w1 ⟨rfl, rfl⟩))
    go_ret2
    exact ⟨rfl, rfl⟩
  | some n =>
    rw [hg] at cf
    obtain ⟨h1, h2⟩ := findN_ref hg hr
    rw [findC_zero hg] at cf ⊢
    have CF := Box.mk cf
    have c1 := (h.file n h1 h2).c1
    have hcv := d_conv (h.file n h1 h2).row
    clear h hg cf hr
    go_enter Try.func22, Try.ntmps22
    go_wp2_with (go_at_call 41; ((with_reducible refine CF.out.mono ?_); rintro e w1 ⟨rfl, rfl⟩))
    go_ret2
    exact ⟨rfl, rfl⟩

theorem beginC_zero {S : DS} (h : beginC S ≠ 0) : beginC S = 8 ∨ beginC S = 9 := by
  rcases beginC_cases S with e | e | e
  · exact .inl e
  · exact .inr e
  · exact absurd e h

set_option maxRecDepth 100000 in
set_option maxHeartbeats 600000 in
theorem sync_any (L : Lay) (S : DS) (name : ByteArray) (w : World) (h : DiskAt w L S) (hf : Fine S) (hn : name.size ≤ maxLen) :
    Calls Try.prog 15 #[.pointer (some ⟨L.b, 0, none⟩), .string name] w (RanP L w (.int .i64 (syncC S name)) (syncS S name)) := by
  have cf := find_any L S w h name hn
  unfold syncC syncS
  have HD := Box.mk h
  cases hg : findN S name with
  | none =>
    rw [hg] at cf
    have hc := findC_ne hg
    obtain ⟨r, hr⟩ : ∃ r, r = findC S name := ⟨_, rfl⟩
    rw [← hr] at cf hc ⊢
    have e1 : (r != 0) = true := by rcases hc with e | e <;> rw [e] <;> rfl
    rw [if_pos (by rcases hc with e | e <;> rw [e] <;> decide)]
    have CF := Box.mk cf
    clear h hg hr hc cf
    go_enter Try.func15, Try.ntmps15
    go_wp2_with (go_at_call 41; ((with_reducible refine CF.out.mono ?_); rintro e w1 ⟨rfl, rfl⟩))
    go_ret
    exact ⟨rfl, Ran.refl HD.out⟩
  | some n =>
    rw [hg] at cf
    obtain ⟨h1, h2⟩ := findN_ref hg hf.nref
    rw [findC_zero hg] at cf ⊢
    rw [if_neg (show ¬ ((0 : Int) ≠ 0) by simp)]
    have CF := Box.mk cf
    have cb := dbegin_any L S w h hf
    have hk := beginS_keeps S
    simp only
    by_cases h0 : beginC S = 0
    · rw [if_pos h0]
      rw [h0] at cb ⊢
      have h2' : n ≤ (beginS S).made := by rw [hk.2.2.2.1]; exact h2
      have CB := Box.mk cb
      clear h hg h0 hk cb cf
      have hv : ∀ w1, DiskAt w1 L (beginS S) → ∃ q cap, L.dat n = .slice q ((beginS S).file n).data.length cap := fun w1 d1 => by
        rcases (d1.file n h1 h2').row.2 with ⟨hv, h0⟩ | ⟨g, cap, cur, hv, _⟩
        · exact ⟨none, 0, by rw [hv, h0]⟩
        · exact ⟨_, _, hv⟩
      have HV := Box.mk hv; clear hv
      go_enter Try.func15, Try.ntmps15
      go_wp2_with (first
        | (go_at_call 41; ((with_reducible refine CF.out.mono ?_); rintro e w1 ⟨rfl, rfl⟩))
        | (go_at_call 39; ((with_reducible refine CB.out.mono ?_); rintro e w1 ⟨rfl, d1, o1⟩; obtain ⟨q, cap, hv⟩ := HV.out w1 d1; have y1 := (d1.file n h1 h2').c1; rw [hv] at y1; have y2 := (d1.file n h1 h2').c2; have z2 := (d1.file n h1 h2').fz 2; have D1 := Box.mk d1; have O1 := Box.mk o1; clear d1 o1 hv)))
      go_ret
      refine ⟨rfl, Ran.of (T := fun t => t ≠ .free) (D1.out.setSafe h1 h2' _) ?_ (fun t e => e)⟩
      exact (O1.out.mono (fun t e => by rw [e]; simp)).setCell (fun _ => by show L.own (L.loc n) ≠ .free; rw [D1.out.tags.loc n h1 h2']; simp) _
    · rw [if_neg h0]
      have hc := beginC_zero h0
      obtain ⟨r, hr⟩ : ∃ r, r = beginC S := ⟨_, rfl⟩
      rw [← hr] at cb hc ⊢
      have e1 : (r == 0) = false := by rcases hc with e | e <;> rw [e] <;> rfl
      have CB := Box.mk cb
      clear h hg h0 hk cb cf hr hc
      go_enter Try.func15, Try.ntmps15
      go_wp2_with (first
        | (go_at_call 41; ((with_reducible refine CF.out.mono ?_); rintro e w1 ⟨rfl, rfl⟩))
        | (go_at_call 39; ((with_reducible refine CB.out.mono ?_); rintro e w1 ⟨rfl, d1, o1⟩; have D1 := Box.mk d1; have O1 := Box.mk o1; clear d1 o1)))
      go_ret
      exact ⟨rfl, Ran.of D1.out O1.out (fun t e => by rw [e]; simp)⟩

end Go.Proofs.Ytalinhjalnndhaa
