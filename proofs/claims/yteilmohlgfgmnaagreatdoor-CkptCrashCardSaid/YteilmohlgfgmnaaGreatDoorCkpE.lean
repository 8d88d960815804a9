/- Checkpoints' laws: a disk with its table, as the laws use them; awake. -/
import Derived.Test.YteilmohlgfgmnaaGreatDoorCkpC
import Derived.Test.YteilmohlgfgmnaaGreatDoorCkpD
import Derived.BigQuiet
namespace Go.Proofs.YteilmohlgfgmnaaGreatDoor
set_option maxRecDepth 100000
open Go.RowKit Go.Maps Go.Sort M

/-- blocks of F, and those made since -/
def ExtF (F : Nat → Prop) (w w' : World) : Nat → Prop := fun k => F k ∨ (w.heap.size ≤ k ∧ k < w'.heap.size)
theorem HasF.ext {w w' : World} {b : Nat} {F : Nat → Prop} {S : DS} (h : HasF w b F S) (hb : Below w.heap.size w w') : HasF w' b (ExtF F w w') S :=
  h.mine hb.size (fun k hl _ => hb.block k hl) (fun _ hk => hk)
/-- a disk that holds a table, or none: P says what its file may hold, now and behind any crash -/
structure CkD (w : World) (b : Nat) (F : Nat → Prop) (S : DS) (k : Nat) (P : Option (List Nat) → Prop) : Prop where
  h : HasF w b F S
  z : Sz S k k
  i : CInv S P
  n : ∃ s f, CNow S s f
theorem CkD.ext {w w' : World} {b k : Nat} {F : Nat → Prop} {S : DS} {P : Option (List Nat) → Prop} (d : CkD w b F S k P) (hb : Below w.heap.size w w') : CkD w' b (ExtF F w w') S k P := ⟨d.h.ext hb, d.z, d.i, d.n⟩
theorem CkD.below {w w' : World} {b k : Nat} {F : Nat → Prop} {S : DS} {P : Option (List Nat) → Prop} (d : CkD w b F S k P) (hb : Below w.heap.size w w') : CkD w' b F S k P := ⟨d.h.below hb, d.z, d.i, d.n⟩
theorem CkD.mono {w : World} {b k : Nat} {F : Nat → Prop} {S : DS} {P Q : Option (List Nat) → Prop} (d : CkD w b F S k P) (h : ∀ x, P x → Q x) : CkD w b F S k Q := ⟨d.h, d.z, d.i.mono h, d.n⟩
theorem CkD.lt {w : World} {b k : Nat} {F : Nat → Prop} {S : DS} {P : Option (List Nat) → Prop} (d : CkD w b F S k P) {j : Nat} (h : F j) : j < w.heap.size := d.h.lt h
theorem CkD.begun {w : World} {b : Nat} {F : Nat → Prop} {room : Int} (h : HasF w b F (newS room)) (hr : room ≤ 9223372036854775807) : CkD w b F (newS room) 0 (fun x => x = none) :=
  ⟨h, Sz.begun room hr, (inv_new room (fun x => x = none) rfl).1, none, none, (inv_new room (fun x => x = none) rfl).2⟩

/-- what a law's Save leaves -/
def SavC (b : Nat) (F : Nat → Prop) (S : DS) (k : Nat) (P : Option (List Nat) → Prop) (R : List Ent) (w : World) (e : Ending) (w' : World) : Prop :=
  ∃ kk S', e = .returned (.int .i64 kk) ∧ SaveR (bytT R) S kk S' ∧ CkD w' b F S' (k + 120) (fun x => P x ∨ x = some (bytT R)) ∧ (kk = 0 → CkD w' b F S' (k + 120) (fun x => x = some (bytT R))) ∧ KeepF F w w'
theorem save_c {w : World} {b k tb : Nat} {F : Nat → Prop} {S : DS} {P : Option (List Nat) → Prop} {R : List Ent} (d : CkD w b F S k P) (hk : k ≤ 40000) (hT : TabF w F tb R) (hK : KTab w) (kF : KF F) :
    Calls Tryz.prog 24 #[.pointer (some ⟨b, 0, none⟩), .pointer (some ⟨tb, 0, none⟩)] w (SavC b F S k P R w) :=
  (save_any b F S tb R w d.h d.z (by omega) (by omega) hT hK kF).mono fun e w' ⟨kk, S', h1, h2, h3, h4⟩ => by
    obtain ⟨s, f, n⟩ := d.n
    obtain ⟨⟨a, n'⟩, c⟩ := h2.inv d.i n
    have z := (h2.sz d.z (bytT_small' hT.len hT.text)).up (Nat.le_refl _) (show k + 6 ≤ k + 120 by omega)
    exact ⟨kk, S', h1, h2, ⟨h3, z, a, n'⟩, fun e => ⟨h3, z, c e, n'⟩, h4⟩
/-- .. on a disk on which nothing goes wrong -/
theorem SavC.ok {b k : Nat} {F : Nat → Prop} {S : DS} {P : Option (List Nat) → Prop} {R : List Ent} {w w' : World} {e : Ending} (h : SavC b F S k P R w e w') (d : CkD w b F S k P) (hc : Calm S) (hr : S.used + (bytT R).length ≤ S.room) :
    ∃ S', e = .returned (.int .i64 0) ∧ CkD w' b F S' (k + 120) (fun x => x = some (bytT R)) ∧ Calm S' ∧ S'.room = S.room ∧ KeepF F w w' := by
  obtain ⟨kk, S', h1, h2, h3, h4, h5⟩ := h
  obtain ⟨s, f, n⟩ := d.n
  obtain ⟨e0, c, r⟩ := h2.ok hc d.i n hr
  exact ⟨S', by rw [h1, e0], h4 e0, c, r, h5⟩
theorem CkD.used {w : World} {b k : Nat} {F : Nat → Prop} {S : DS} {P : Option (List Nat) → Prop} (d : CkD w b F S k P) : S.used ≤ (100 * k : Nat) := by
  obtain ⟨C, h⟩ := d.z
  exact h.used1
/-- what a law's Restart leaves -/
def RestC (b : Nat) (F : Nat → Prop) (S : DS) (k : Nat) (P : Option (List Nat) → Prop) (w : World) (e : Ending) (w' : World) : Prop :=
  ∃ S', e = .returned (.tuple #[]) ∧ CkD w' b F S' k P ∧ Calm S' ∧ S'.room = S.room ∧ KeepF F w w'
theorem restart_c {w : World} {b k : Nat} {F : Nat → Prop} {S : DS} {P : Option (List Nat) → Prop} {v : Value} {choice : List Int} (d : CkD w b F S k P) (hk : k ≤ 40000) (hv : IntsIn w v choice) (hvo : ∀ k, 0 < choice.length → v.ownBlock = some k → F k) :
    Calls Tryz.prog 26 #[.pointer (some ⟨b, 0, none⟩), v] w (RestC b F S k P w) :=
  (restart_f b F S v choice w d.h (d.z.fine (by omega) (by omega)) (d.z.crestOk (by omega) choice) hv hvo).mono fun e w' ⟨h1, h2, h3⟩ => by
    obtain ⟨a, n⟩ := inv_again d.i choice
    obtain ⟨c, r⟩ := again_calm d.i choice
    exact ⟨_, h1, ⟨h2, d.z.again d.i choice, a, n⟩, c, r, h3⟩
theorem crash_c {w : World} {b k : Nat} {F : Nat → Prop} {S : DS} {P : Option (List Nat) → Prop} (n : Int) (d : CkD w b F S k P) (hn : n ≤ 9223372036854775807) :
    Calls Tryz.prog 27 #[.pointer (some ⟨b, 0, none⟩), .int .i64 n] w fun e w' => e = .returned (.tuple #[]) ∧ CkD w' b F { S with crash := max n (-1) } k P ∧ KeepF F w w' :=
  (crash_f b F S n w d.h).mono fun e w' ⟨h1, h2, h3⟩ => by
    obtain ⟨s, f, m⟩ := d.n
    have k : SameC S { S with crash := max n (-1) } := ⟨rfl, rfl, rfl, rfl, rfl⟩
    exact ⟨h1, ⟨h2, d.z.crash hn, d.i.same k, s, f, m.same k⟩, h3⟩
theorem fail_c {w : World} {b k : Nat} {F : Nat → Prop} {S : DS} {P : Option (List Nat) → Prop} (n : Int) (d : CkD w b F S k P) (hn : n ≤ 9223372036854775807) :
    Calls Tryz.prog 28 #[.pointer (some ⟨b, 0, none⟩), .int .i64 n] w fun e w' => e = .returned (.tuple #[]) ∧ CkD w' b F { S with fail := max n (-1) } k P ∧ KeepF F w w' :=
  (fail_f b F S n w d.h).mono fun e w' ⟨h1, h2, h3⟩ => by
    obtain ⟨s, f, m⟩ := d.n
    have k : SameC S { S with fail := max n (-1) } := ⟨rfl, rfl, rfl, rfl, rfl⟩
    exact ⟨h1, ⟨h2, d.z.fail hn, d.i.same k, s, f, m.same k⟩, h3⟩
theorem room_c {w : World} {b k : Nat} {F : Nat → Prop} {S : DS} {P : Option (List Nat) → Prop} (n : Int) (d : CkD w b F S k P) (hn : n ≤ 9223372036854775807) :
    Calls Tryz.prog 29 #[.pointer (some ⟨b, 0, none⟩), .int .i64 n] w fun e w' => e = .returned (.tuple #[]) ∧ CkD w' b F { S with room := max n 0 } k P ∧ KeepF F w w' :=
  (room_f b F S n w d.h).mono fun e w' ⟨h1, h2, h3⟩ => by
    obtain ⟨s, f, m⟩ := d.n
    have k : SameC S { S with room := max n 0 } := ⟨rfl, rfl, rfl, rfl, rfl⟩
    exact ⟨h1, ⟨h2, d.z.room hn, d.i.same k, s, f, m.same k⟩, h3⟩

/-- a list as the laws' tables have it -/
structure LstOk (R : List Ent) : Prop where
  up : Rising R
  text : ∀ x ∈ R, x.text.size ≤ 60
  len : R.length ≤ 12
theorem LstOk.nil : LstOk [] := ⟨List.Pairwise.nil, fun x hx => (nomatch hx), by simp⟩
theorem load_c {w : World} {b k : Nat} {F : Nat → Prop} {S : DS} {P : Option (List Nat) → Prop} (d : CkD w b F S k P) (hk : k ≤ 40000) (hd : S.dead = false) (hK : KTab w) (L : List (List Ent)) (hL : ∀ R ∈ L, LstOk R) (hP : ∀ x, P x → ∃ R ∈ L, x = some (bytT R)) :
    Calls Tryz.prog 20 #[.pointer (some ⟨b, 0, none⟩)] w fun e w' => ∃ R ∈ L, LoadP true R w e w' := by
  obtain ⟨s, f, n⟩ := d.n
  have v := d.i.at n
  obtain ⟨R, hR, e⟩ := hP _ v.what
  have o := hL R hR
  cases s with
  | none => cases e
  | some m =>
    have e : (S.file m).data = bytT R := Option.some.inj e
    exact (load_some b F S m f R w d.h (d.z.fine (by omega) (by omega)).nref hd n hK e o.up o.text o.len).mono fun e w' h => ⟨R, hR, h⟩

theorem bytT_le {G : List Ent} (h2 : ∀ x ∈ G, x.text.size ≤ 60) : (bytT G).length ≤ 200 + 101 * G.length := by
  unfold bytT encT preL
  rw [List.take_length, List.length_append, List.length_append, List.length_append, shaN_length]
  have a := flat_len G 60 h2
  have b := numL_length G.length
  have c : magL.length = 8 := rfl
  have d : G.length * (41 + 60) = 101 * G.length := Nat.mul_comm _ _
  omega
/-- what a law's Grow leaves, beside a disk -/
theorem GrowP.tab {w w' : World} {n : Nat} {A B : Nat → ByteArray} {e : Ending} (h : GrowP w n A B e w') (F : Nat → Prop) :
    ∃ tb v R, e = .returned (.tuple #[.pointer (some ⟨tb, 0, none⟩), v]) ∧ TabF w' (ExtF F w w') tb R ∧ RefIn w' v R ∧ (0 < R.length → ∀ k, v.ownBlock = some k → ExtF F w w' k) ∧ LstOk R ∧ R.length ≤ n ∧ Below w.heap.size w w' := by
  obtain ⟨tb, mo, l, v, R, h1, t, r, p, u, s, hb, o1, o2, o3⟩ := h
  have hl : l.length ≤ 12 := by have := s.length_le; rw [itL_length] at this; omega
  have hx := itL_text s
  have lo : LstOk R := ⟨u, fun x hx' => hx x (p.mem_iff.1 hx'), by rw [p.length_eq]; exact hl⟩
  refine ⟨tb, v, R, h1, ⟨⟨mo, l, t, fun m e => .inr ⟨o2 m e, (t.mapd m e).2.lt⟩, p.symm⟩, .inr ⟨o1, t.lt⟩, lo.up, lo.text, lo.len⟩, r, fun h0 k hk => .inr ⟨o3 k hk, ?_⟩, lo, by have := s.length_le; rw [itL_length] at this; have := p.length_eq; omega, hb⟩
  obtain ⟨g, c, e, hg, _⟩ := r.cells h0
  rw [e] at hk
  cases hk; exact hg
end Go.Proofs.YteilmohlgfgmnaaGreatDoor
