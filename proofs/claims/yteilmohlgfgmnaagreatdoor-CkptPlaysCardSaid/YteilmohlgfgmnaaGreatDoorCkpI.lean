/- Checkpoints: acts, and the lists that a table may be; contracts of one act. -/
import Derived.Test.YteilmohlgfgmnaaGreatDoorCkpG
namespace Go.Proofs.YteilmohlgfgmnaaGreatDoor
set_option maxRecDepth 100000
open Go.RowKit Go.Maps Go.Sort M

/-- acts that came in -/
structure CActIn (w : World) (v : Value) (n : Nat) (K N : Nat → Int) (VI VC : Nat → Value) (NI : Nat → Nat) (A B : Nat → Nat → ByteArray) (X : Nat → List Int) : Prop where
  shape : ∃ q c, v = .slice q n c
  cells : 0 < n → ∃ b off c, v = .slice (some ⟨b, off, none⟩) n c ∧ b < w.heap.size ∧ ∀ i, i < n → w.cell? ⟨b, off + i * 4, none⟩ = some (.int .i64 (K i)) ∧ w.cell? ⟨b, off + i * 4 + 1, none⟩ = some (.int .i64 (N i)) ∧ w.cell? ⟨b, off + i * 4 + 2, none⟩ = some (VI i) ∧ w.cell? ⟨b, off + i * 4 + 3, none⟩ = some (VC i)
  items : ∀ i, i < n → IIn w (VI i) (NI i) (A i) (B i) ∧ NI i ≤ 9223372036854775807
  ints : ∀ i, i < n → IntsIn w (VC i) (X i)
  rng : ∀ i, i < n → N i ≤ 9223372036854775807

/-- lists that the law keeps -/
structure MayIn (w : World) (F : Nat → Prop) (v : Value) (us : List Value) (Ls : List (List Ent)) : Prop where
  val : ∃ g c, v = .slice (some ⟨g, 0, none⟩) us.length c ∧ F g ∧ g < w.heap.size ∧ w.rangeAt g 0 us
  len : us.length = Ls.length
  one : ∀ u ∈ us, ∃ q n c, u = .slice q n c
  each : ∀ (i : Nat) (u : Value) (R : List Ent), us[i]? = some u → Ls[i]? = some R → RefIn w u R ∧ (0 < R.length → ∀ k, u.ownBlock = some k → F k)
theorem MayIn.keep {w w' : World} {F F' : Nat → Prop} {v : Value} {us : List Value} {Ls : List (List Ent)} (h : MayIn w F v us Ls) (k : KeepF F w w') (hF : ∀ k, F k → F' k) : MayIn w' F' v us Ls := by
  obtain ⟨g, c, e, fg, lg, r⟩ := h.val
  refine ⟨⟨g, c, e, hF _ fg, Nat.lt_of_lt_of_le lg k.size, fun j u hu => (k.cell fg lg).trans (r j u hu)⟩, h.len, h.one, fun i u R hu hR => ?_⟩
  obtain ⟨a, b⟩ := h.each i u R hu hR
  exact ⟨a.keepF b k, fun h0 q hq => hF _ (b h0 q hq)⟩
def MayP (Ls : List (List Ent)) : Option (List Nat) → Prop := fun x => (x = none ∧ [] ∈ Ls) ∨ ∃ R ∈ Ls, x = some (bytT R)
theorem load_p {w : World} {b k : Nat} {F : Nat → Prop} {S : DS} {Ls : List (List Ent)} (d : CkD w b F S k (MayP Ls)) (hk : k ≤ 40000) (hd : S.dead = false) (hK : KTab w) (hL : ∀ R ∈ Ls, LstOk R) :
    Calls Tryz.prog 20 #[.pointer (some ⟨b, 0, none⟩)] w fun e w' => ∃ R ok, R ∈ Ls ∧ LoadP ok R w e w' := by
  obtain ⟨s, f, n⟩ := d.n
  have v := (d.i.at n).what
  have nr := (d.z.fine (by omega) (by omega)).nref
  cases s with
  | none =>
    rcases v with ⟨_, h⟩ | ⟨R, _, e⟩
    · exact (load_none b F S f w d.h nr hd n).mono fun e w' h' => ⟨[], false, h, h'⟩
    · cases e
  | some m =>
    rcases v with ⟨e, _⟩ | ⟨R, hR, e⟩
    · cases e
    · have o := hL R hR
      have e : (S.file m).data = bytT R := Option.some.inj e
      exact (load_some b F S m f R w d.h nr hd n hK e o.up o.text o.len).mono fun e w' h => ⟨R, true, hR, h⟩
theorem loadd_p {w : World} {b k : Nat} {F : Nat → Prop} {S : DS} {P : Option (List Nat) → Prop} (d : CkD w b F S k P) (hk : k ≤ 40000) (hd : S.dead = true) :
    Calls Tryz.prog 20 #[.pointer (some ⟨b, 0, none⟩)] w fun e w' => e = .returned (.tuple #[.pointer none, .bool false, .int .i64 9]) ∧ w = w' :=
  load_dead b F S w d.h (d.z.fine (by omega) (by omega)).nref hd
theorem clean_p {w : World} {b k : Nat} {F : Nat → Prop} {S : DS} {P : Option (List Nat) → Prop} (d : CkD w b F S k P) (hk : k ≤ 40000) :
    Calls Tryz.prog 25 #[.pointer (some ⟨b, 0, none⟩)] w fun e w' => ∃ kk S', e = .returned (.int .i64 kk) ∧ CkD w' b F S' (k + 120) P ∧ KeepF F w w' :=
  (clean_any b F S w d.h (d.z.fine (by omega) (by omega))).mono fun e w' ⟨h1, h2, h3⟩ => by
    obtain ⟨s, f, n⟩ := d.n
    obtain ⟨a, f', n', _⟩ := inv_clean d.i n
    exact ⟨_, _, h1, ⟨h2, (d.z.remove nmF_len).up (by omega) (by omega), a, s, f', n'⟩, h3⟩
theorem CkD.up {w : World} {b k k' : Nat} {F : Nat → Prop} {S : DS} {P : Option (List Nat) → Prop} (d : CkD w b F S k P) (h : k ≤ k') : CkD w b F S k' P := ⟨d.h, d.z.up h h, d.i, d.n⟩
/-- what a Save makes of the lists -/
theorem SavC.may {b k : Nat} {F : Nat → Prop} {S : DS} {Ls : List (List Ent)} {R : List Ent} {w w' : World} {e : Ending} (h : SavC b F S k (MayP Ls) R w e w') (d : CkD w b F S k (MayP Ls)) :
    ∃ kk S', e = .returned (.int .i64 kk) ∧ KeepF F w w' ∧ (kk = 0 → CkD w' b F S' (k + 120) (MayP [R])) ∧ (kk ≠ 0 → CkD w' b F S' (k + 120) (MayP (Ls ++ [R]))) ∧ (S.dead = true → kk ≠ 0 ∧ CkD w' b F S' (k + 120) (MayP Ls)) := by
  obtain ⟨kk, S', h1, h2, h3, h4, h5⟩ := h
  refine ⟨kk, S', h1, h5, fun h0 => (h4 h0).mono fun x hx => .inr ⟨R, by simp, hx⟩, fun _ => h3.mono fun x hx => ?_, fun hd => ?_⟩
  · rcases hx with (⟨a, b⟩ | ⟨Q, hQ, e⟩) | hx
    · exact .inl ⟨a, by simp [b]⟩
    · exact .inr ⟨Q, by simp [hQ], e⟩
    · exact .inr ⟨R, by simp, hx⟩
  · obtain ⟨a, b⟩ := h2.dead hd
    refine ⟨by rw [a]; decide, ⟨h3.h, h3.z, ?_, ?_⟩⟩
    · rw [b]; exact d.i
    · rw [b]; exact d.n
end Go.Proofs.YteilmohlgfgmnaaGreatDoor
