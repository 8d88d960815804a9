/- The law WalOpens: the disk that it makes. -/
import Derived.Test.YtdffpbfllekcgaaGreatDoorOpnD
import Derived.Test.YtdffpbfllekcgaaGreatDoorUa
import Derived.Test.YtdffpbfllekcgaaGreatDoorIb
namespace Go.Proofs.YtdffpbfllekcgaaGreatDoor
set_option maxRecDepth 100000
open Go.ChangeShapes Go.WideShapes Go.RowKit M

structure OSt (w0 w : World) (b : Nat) (S : DS) (k u : Nat) : Prop where
  has : HasF w b (fun i => i < w0.heap.size) S
  sz : Sz S k k
  calm : Calm S
  room : S.room = 100000
  used : S.used ≤ (u : Int)
  names : ∀ p ∈ S.names, p.1.size ≤ 100
  bel : Below w0.heap.size w0 w
theorem OSt.below {w0 w w' : World} {b : Nat} {S : DS} {k u : Nat} (h : OSt w0 w b S k u) (hb : Below w.heap.size w w') : OSt w0 w' b S k u :=
  ⟨h.has.below hb, h.sz, h.calm, h.room, h.used, h.names, h.bel.trans (hb.mono h.bel.size)⟩
theorem OSt.up {w0 w : World} {b : Nat} {S : DS} {k u k' u' : Nat} (h : OSt w0 w b S k u) (hk : k ≤ k') (hu : u ≤ u') : OSt w0 w b S k' u' :=
  ⟨h.has, h.sz.up hk hk, h.calm, h.room, by have := h.used; omega, h.names, h.bel⟩
theorem ren_names (S : DS) (src dst : ByteArray) (f : Nat) (hs : dst.size ≤ 100) (h : ∀ p ∈ S.names, p.1.size ≤ 100) : ∀ p ∈ (renS S src dst f).names, p.1.size ≤ 100 := by
  show ∀ p ∈ (mkC S src dst f).app S.names, p.1.size ≤ 100
  have hd : ∀ (l : KL) (k : ByteArray), (∀ p ∈ l, p.1.size ≤ 100) → ∀ p ∈ kdel l k, p.1.size ≤ 100 := fun l k h p hp => h p (List.mem_filter.1 hp).1
  unfold Chg.app
  split
  · exact hd _ _ h
  · intro p hp
    unfold kput at hp
    rcases List.mem_cons.1 hp with rfl | hp
    · exact hs
    · exact hd _ _ (hd _ _ h) p hp
theorem begin_names (S : DS) : (beginS S).names = S.names := by
  unfold beginS; (repeat' split) <;> rfl
theorem oren_same (S : DS) (src dst : ByteArray) (f : Nat) : (renS S src dst f).room = S.room ∧ (renS S src dst f).used = S.used ∧ (renS S src dst f).dead = S.dead ∧ (renS S src dst f).fail = S.fail ∧ (renS S src dst f).crash = S.crash := by
  obtain ⟨_, b, c, d, e, _, _, g⟩ := ren_same S src dst f
  exact ⟨b, c, g, e, d⟩
theorem obegin_same (S : DS) : (beginS S).room = S.room ∧ (beginS S).used = S.used := by
  unfold beginS; (repeat' split) <;> exact ⟨rfl, rfl⟩
theorem create_kget (S : DS) (x : ByteArray) (f : Nat) (hx : x.size ≠ 0) : kget (renS S ⟨#[]⟩ x f).names x = some f := by
  show kget ((mkC S ⟨#[]⟩ x f).app S.names) x = some f
  unfold Chg.app
  rw [if_neg (show ¬ (mkC S ⟨#[]⟩ x f).dst.size = 0 from hx)]
  exact kget_put_same _ _ _

def CrQ (w0 : World) (b : Nat) (k u : Nat) (x : ByteArray) (e : Ending) (w' : World) : Prop := ∃ (c : Nat) (S' : DS), e = .returned (.int .i64 (c : Int)) ∧ OSt w0 w' b S' (k + 2) u ∧ (c = 0 → (kget S'.names x).isSome = true)
theorem create_o {w0 w : World} {b : Nat} {S : DS} {k u : Nat} (h : OSt w0 w b S k u) (hk : k ≤ 1000) (x : ByteArray) (hx : x.size ≤ 100) :
    Calls Tryz.prog 7 #[.pointer (some ⟨b, 0, none⟩), .string x] w (CrQ w0 b k u x) := by
  have c := create_f b _ S x w h.has (h.sz.fine (by omega) (by omega)) (by unfold maxLen; omega)
  refine c.mono fun e w' ⟨he, hh, hk'⟩ => ?_
  have bel : Below w0.heap.size w0 w' := h.bel.trans (hk'.below h.bel.size (fun _ hi => hi))
  have sz := (h.sz.create (a := x) (by unfold maxLen; omega)).up (Nat.le_refl _) (show k + 1 ≤ k + 2 by omega)
  obtain ⟨b0, bc⟩ := h.calm.begin
  obtain ⟨br, bu⟩ := obegin_same S
  have nd : ¬ S.dead = true := by rw [h.calm.1]; decide
  unfold createC at he
  unfold createS at hh sz
  rw [if_neg nd] at he hh sz
  by_cases h0 : x.size = 0
  · rw [if_pos h0] at he hh sz
    exact ⟨1, S, he, ⟨hh, sz, h.calm, h.room, h.used, h.names, bel⟩, fun e => nomatch e⟩
  · rw [if_neg h0] at he hh sz
    by_cases h1 : (kget S.names x).isSome = true
    · rw [if_pos h1] at he hh sz
      exact ⟨6, S, he, ⟨hh, sz, h.calm, h.room, h.used, h.names, bel⟩, fun e => nomatch e⟩
    · rw [if_neg h1, b0] at he
      rw [if_neg h1, if_neg (by rw [b0]; decide)] at hh sz
      refine ⟨0, newF (beginS S) x, he, ⟨hh, sz, ?_, ?_, ?_, ?_, bel⟩, fun _ => ?_⟩
      · obtain ⟨_, _, a3, a4, a5⟩ := oren_same ({ beginS S with made := (beginS S).made + 1 }.setF ((beginS S).made + 1) ⟨[], 0, false⟩) ⟨#[]⟩ x ((beginS S).made + 1)
        exact ⟨a3.trans bc.1, a4.trans bc.2.1, a5.trans bc.2.2⟩
      · obtain ⟨a1, _⟩ := oren_same ({ beginS S with made := (beginS S).made + 1 }.setF ((beginS S).made + 1) ⟨[], 0, false⟩) ⟨#[]⟩ x ((beginS S).made + 1)
        exact a1.trans (br.trans h.room)
      · obtain ⟨_, a2, _⟩ := oren_same ({ beginS S with made := (beginS S).made + 1 }.setF ((beginS S).made + 1) ⟨[], 0, false⟩) ⟨#[]⟩ x ((beginS S).made + 1)
        have e2 : (newF (beginS S) x).used = S.used := a2.trans bu
        rw [e2]; exact h.used
      · exact ren_names _ _ _ _ hx (by show ∀ p ∈ (beginS S).names, _; rw [begin_names]; exact h.names)
      · unfold newF
        rw [create_kget _ _ _ h0]; rfl
def ApQ (w0 : World) (b : Nat) (k u : Nat) (e : Ending) (w' : World) : Prop := ∃ S' : DS, e = .returned (.int .i64 0) ∧ OSt w0 w' b S' (k + 2) (u + 200)
theorem append_o {w0 w : World} {b : Nat} {S : DS} {k u : Nat} (h : OSt w0 w b S k u) (hk : k ≤ 1000) (hu : u ≤ 10000) (x s : ByteArray) (hx : x.size ≤ 100) (hs : s.size ≤ 200) (hg : (kget S.names x).isSome = true) :
    Calls Tryz.prog 8 #[.pointer (some ⟨b, 0, none⟩), .string x, .string s] w (ApQ w0 b k u) := by
  have c := append_f b _ S x s w h.has (h.sz.fine (by omega) (by omega)) (by unfold maxLen; omega) (by omega)
  refine c.mono fun e w' ⟨he, hh, hk'⟩ => ?_
  have bel : Below w0.heap.size w0 w' := h.bel.trans (hk'.below h.bel.size (fun _ hi => hi))
  have sz := (h.sz.append' x (s := sb s) 2 (by rw [sb_length]; omega)).up (Nat.le_refl _) (show k + 1 ≤ k + 2 by omega)
  obtain ⟨b0, bc⟩ := h.calm.begin
  obtain ⟨br, bu⟩ := obegin_same S
  have nd : ¬ S.dead = true := by rw [h.calm.1]; decide
  obtain ⟨n, hn⟩ := Option.isSome_iff_exists.1 hg
  have fc : findC S x = 0 := by unfold findC; rw [if_neg nd, if_pos hg]
  have fn : findN S x = some n := by unfold findN; rw [if_neg nd, hn]
  have us := h.used
  have fr : ¬ S.free < (sb s).length := by
    unfold DS.free
    rw [h.room, sb_length]
    omega
  unfold appendC at he
  unfold appendS at hh sz
  rw [fc, if_neg (by decide), if_neg fr, b0] at he
  rw [fn] at hh sz
  dsimp only at hh sz
  rw [if_neg fr, if_neg (by rw [b0]; decide)] at hh sz
  refine ⟨_, he, hh, sz, bc, br.trans h.room, ?_, ?_, bel⟩
  · show (beginS S).used + (sb s).length ≤ _
    rw [bu, sb_length]; omega
  · show ∀ p ∈ (beginS S).names, _
    rw [begin_names]; exact h.names
theorem OSt.readD {w0 w : World} {b : Nat} {S : DS} {k u : Nat} (h : OSt w0 w b S k u) (hk : k ≤ 50) : ∀ x, (readD S x).length ≤ 5000 := fun x => by
  obtain ⟨C, z⟩ := h.sz
  unfold Proofs.YtdffpbfllekcgaaGreatDoor.readD
  split
  · simp
  · rename_i n _
    have := z.data n
    omega
theorem OSt.nref {w0 w : World} {b : Nat} {S : DS} {k u : Nat} (h : OSt w0 w b S k u) : ∀ p ∈ S.names, 1 ≤ p.2 ∧ p.2 ≤ S.made := fun p hp => by
  obtain ⟨C, z⟩ := h.sz
  obtain ⟨a, c, _⟩ := z.nref p hp
  exact ⟨a, c⟩
theorem OSt.few {w0 w : World} {b : Nat} {S : DS} {k u : Nat} (h : OSt w0 w b S k u) : S.names.length ≤ k := by
  obtain ⟨C, z⟩ := h.sz
  exact z.names
theorem new_o {w0 w : World} (hb : Below w0.heap.size w0 w) : Calls Tryz.prog 4 #[.int .i64 100000] w fun e w' => ∃ b S, e = .returned (.pointer (some ⟨b, 0, none⟩)) ∧ OSt w0 w' b S 0 0 :=
  (dnew_f 100000 w (by decide) (by decide)).mono fun e w' ⟨b, he, hf, hb'⟩ => ⟨b, newS 100000, he, hf.less (fun k hk => Nat.lt_of_lt_of_le hk hb.size), Sz.begun 100000 (by decide), Calm.begun _, rfl, Int.le_refl _, fun p hp => (nomatch (show p ∈ ([] : KL) from hp)), hb.trans (hb'.mono hb.size)⟩
end Go.Proofs.YtdffpbfllekcgaaGreatDoor
