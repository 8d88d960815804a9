/- Checkpoints' contracts: Load. -/
import Derived.Test.YteilmohlgfgmnaaGreatDoorCkpB
namespace Go.Proofs.YteilmohlgfgmnaaGreatDoor
set_option maxRecDepth 100000
open Go.RowKit Go.Maps Go.Sort M

theorem readC {S : DS} {s f : Option Nat} (hd : S.dead = false) (n : CNow S s f) : findC S nmS = (if s.isSome then 0 else 5) ∧ readD S nmS = (s.map fun m => (S.file m).data).getD [] := by
  have e := kget_S n.names
  have hd' : ¬ S.dead = true := by rw [hd]; decide
  unfold findC readD findN
  rw [if_neg hd', if_neg hd', e]
  exact ⟨rfl, by cases s <;> rfl⟩
theorem load_dead (b : Nat) (F : Nat → Prop) (S : DS) (w : World) (h : HasF w b F S) (hr : ∀ p ∈ S.names, 1 ≤ p.2 ∧ p.2 ≤ S.made) (hd : S.dead = true) :
    Calls Tryz.prog 20 #[.pointer (some ⟨b, 0, none⟩)] w fun e w' => e = .returned (.tuple #[.pointer none, .bool false, .int .i64 9]) ∧ w = w' := by
  have c : Calls Tryz.prog 51 #[.pointer (some ⟨b, 0, none⟩), .string ⟨#[115, 116, 111, 114, 101]⟩] w fun e w' => e = .returned (.tuple #[.string (bs (readD S nmS)), .int .i64 (findC S nmS)]) ∧ w = w' := read_f b F S nmS w h hr nmS_len
  rw [show findC S nmS = 9 by unfold findC; rw [if_pos hd]] at c
  obtain ⟨D, hD⟩ : ∃ D, D = bs (readD S nmS) := ⟨_, rfl⟩
  rw [← hD] at c
  have C := Box.mk c
  clear c hD h hr hd
  go_enter Tryz.func20, Tryz.ntmps20
  go_wp2_with (go_at_call 51; ((with_reducible refine C.out.mono ?_); rintro e w' ⟨rfl, rfl⟩; clear C))
  exact bodyPost_ret (v := .tuple #[.pointer none, .bool false, .int .i64 9]) (by simp [results, go_sem]) rfl ⟨rfl, rfl⟩
/-- what Load answers where all is well -/
def LoadP (ok : Bool) (R : List Ent) (w : World) (e : Ending) (w' : World) : Prop :=
  Below w.heap.size w w' ∧ ∃ tb mo l, e = .returned (.tuple #[.pointer (some ⟨tb, 0, none⟩), .bool ok, .int .i64 0]) ∧ Tab w' tb mo l ∧ l.Perm R
theorem load_none (b : Nat) (F : Nat → Prop) (S : DS) (f : Option Nat) (w : World) (h : HasF w b F S) (hr : ∀ p ∈ S.names, 1 ≤ p.2 ∧ p.2 ≤ S.made) (hd : S.dead = false) (n : CNow S none f) :
    Calls Tryz.prog 20 #[.pointer (some ⟨b, 0, none⟩)] w (LoadP false [] w) := by
  have c : Calls Tryz.prog 51 #[.pointer (some ⟨b, 0, none⟩), .string ⟨#[115, 116, 111, 114, 101]⟩] w fun e w' => e = .returned (.tuple #[.string (bs (readD S nmS)), .int .i64 (findC S nmS)]) ∧ w = w' := read_f b F S nmS w h hr nmS_len
  obtain ⟨r1, r2⟩ := readC hd n
  rw [r1, r2] at c
  have C := Box.mk c
  obtain ⟨V, hV⟩ : ∃ V, V = w.alloc (.cells #[.map none] 67) := ⟨_, rfl⟩
  have bV : Below w.heap.size w V := by rw [hV]; exact aset22 _ _
  have tV : V.heap[w.heap.size]? = some (.cells #[.map none] 67 (0, 0)) := by rw [hV]; exact heap_alloc_new w _
  have T0 : Tab V w.heap.size none [] := ⟨by simp only [World.cell?, tV]; rfl, by simp only [World.frozen?, tV]; rfl, fun _ => rfl, fun m e => by cases e⟩
  have HV := Box.mk hV; have BV := Box.mk bV; have TT := Box.mk T0
  clear c h hr hd n r1 r2 hV bV tV T0
  go_enter Tryz.func20, Tryz.ntmps20
  go_wp2_with (go_at_call 51; ((with_reducible refine C.out.mono ?_); rintro e w' ⟨rfl, rfl⟩; clear C))
  rw [← HV.out]
  exact bodyPost_ret (v := .tuple #[.pointer (some ⟨w.heap.size, 0, none⟩), .bool false, .int .i64 0]) (by simp [results, go_sem]) rfl ⟨BV.out, _, none, [], rfl, TT.out, List.Perm.refl _⟩
theorem load_some (b : Nat) (F : Nat → Prop) (S : DS) (m : Nat) (f : Option Nat) (R : List Ent) (w : World) (h : HasF w b F S) (hr : ∀ p ∈ S.names, 1 ≤ p.2 ∧ p.2 ≤ S.made) (hd : S.dead = false) (n : CNow S (some m) f) (hK : KTab w)
    (hR : (S.file m).data = bytT R) (h1 : Rising R) (h2 : ∀ x ∈ R, x.text.size ≤ 60) (h3 : R.length ≤ 12) :
    Calls Tryz.prog 20 #[.pointer (some ⟨b, 0, none⟩)] w (LoadP true R w) := by
  have c : Calls Tryz.prog 51 #[.pointer (some ⟨b, 0, none⟩), .string ⟨#[115, 116, 111, 114, 101]⟩] w fun e w' => e = .returned (.tuple #[.string (bs (readD S nmS)), .int .i64 (findC S nmS)]) ∧ w = w' := read_f b F S nmS w h hr nmS_len
  obtain ⟨r1, r2⟩ := readC hd n
  rw [r1, r2] at c
  have c : Calls Tryz.prog 51 #[.pointer (some ⟨b, 0, none⟩), .string ⟨#[115, 116, 111, 114, 101]⟩] w fun e w' => e = .returned (.tuple #[.string (bs (bytT R)), .int .i64 0]) ∧ w = w' := by rw [← hR]; exact c
  have hsz : (bs (bytT R)).size ≤ 20000 := by rw [bs_size]; have := bytT_small' h3 h2; omega
  have cp : Calls Tryz.prog 10 #[.string (bs (bytT R))] w (ParsG R w) :=
    parseG_any _ w hsz hK R (by rw [sb_bs _ (bytT_lt R)]) h1 (fun x hx => by have := h2 x hx; omega) (by omega)
  obtain ⟨D, hD⟩ : ∃ D, D = bs (bytT R) := ⟨_, rfl⟩
  rw [← hD] at c cp
  have C := Box.mk c; have CP := Box.mk cp
  clear c cp hD h hr hd n r1 r2 hK hR h1 h2 h3 hsz
  go_enter Tryz.func20, Tryz.ntmps20
  go_wp2_with (first
    | (go_at_call 51; ((with_reducible refine C.out.mono ?_); rintro e w' ⟨rfl, rfl⟩; clear C))
    | (go_at_call 10; ((with_reducible refine CP.out.mono ?_); rintro e w2 ⟨b2, tb, mo, rfl, t2⟩; have B2 := Box.mk b2; have T2 := Box.mk t2; clear b2 t2 CP)))
  exact bodyPost_ret (v := .tuple #[.pointer (some ⟨tb, 0, none⟩), .bool true, .int .i64 0]) (by simp [results, go_sem]) rfl ⟨B2.out, tb, mo, _, rfl, T2.out, List.reverse_perm R⟩
end Go.Proofs.YteilmohlgfgmnaaGreatDoor
