/- The calls of a disk, for whoever holds one: blocks below B are as they were. -/
import Derived.Test.YtalinhjalnndhaaDiskU
import Derived.OpenShut
import Derived.SliceStrings
import Derived.Carry
namespace Go.Proofs.Ytalinhjalnndhaa
set_option maxRecDepth 100000
open Go.ChangeShapes Go.WideShapes Go.RowKit M

def HasD (w : World) (b B : Nat) (S : DS) : Prop := B ≤ w.heap.size ∧ ∃ L, DiskAt w L S ∧ L.b = b ∧ ∀ k, k < B → L.own k = .free
def HasP (b B : Nat) (w : World) (r : Value) (S' : DS) (e : Ending) (w' : World) : Prop := e = .returned r ∧ HasD w' b B S' ∧ Below B w w'

theorem HasD.ran {w w' : World} {b B : Nat} {L : Lay} {S' : DS} (hB : B ≤ w.heap.size) (hb : L.b = b) (ho : ∀ k, k < B → L.own k = .free) (h : Ran w L S' w') : HasD w' b B S' ∧ Below B w w' := by
  obtain ⟨L', d, eb, eo, c⟩ := h
  refine ⟨⟨Nat.le_trans hB c.size, L', d, eb.trans hb, fun k hk => (eo k (Nat.lt_of_lt_of_le hk hB)).trans (ho k hk)⟩, ⟨c.os, c.tape, c.output, c.size, fun k hk => c.block k (Nat.lt_of_lt_of_le hk hB) (by rw [ho k hk]; simp)⟩⟩
theorem HasD.below {w w' : World} {b B : Nat} {S : DS} (h : HasD w b B S) (hb : Below w.heap.size w w') : HasD w' b B S := by
  obtain ⟨hB, L, d, e, o⟩ := h
  exact ⟨Nat.le_trans hB hb.size, L, d.below hb, e, o⟩
theorem HasD.le {w : World} {b B B' : Nat} {S : DS} (h : HasD w b B S) (hB : B' ≤ B) : HasD w b B' S := by
  obtain ⟨hB', L, d, e, o⟩ := h
  exact ⟨Nat.le_trans hB hB', L, d, e, fun k hk => o k (by omega)⟩

theorem new_h (room : Int) (w : World) (h1 : -9223372036854775808 ≤ room) (h2 : room ≤ 9223372036854775807) :
    Calls Try.prog 7 #[.int .i64 room] w fun e w' => ∃ b, e = .returned (.pointer (some ⟨b, 0, none⟩)) ∧ HasD w' b w.heap.size (newS room) ∧ Below w.heap.size w w' :=
  (new_any room w h1 h2).mono fun _ _ ⟨L, he, d, hb, ho⟩ => ⟨L.b, he, ⟨hb.size, L, d, rfl, ho⟩, hb⟩
theorem create_h (b B : Nat) (S : DS) (name : ByteArray) (w : World) (h : HasD w b B S) (hf : Fine S) (hn : name.size ≤ maxLen) :
    Calls Try.prog 13 #[.pointer (some ⟨b, 0, none⟩), .string name] w (HasP b B w (.int .i64 (createC S name)) (createS S name)) := by
  obtain ⟨hB, L, d, rfl, o⟩ := h
  exact (create_any L S name w d hf hn).mono fun _ _ ⟨he, r⟩ => ⟨he, HasD.ran hB rfl o r⟩
theorem append_h (b B : Nat) (S : DS) (name s : ByteArray) (w : World) (h : HasD w b B S) (hf : Fine S) (hn : name.size ≤ maxLen) (hs : s.size ≤ 1099511627776) :
    Calls Try.prog 14 #[.pointer (some ⟨b, 0, none⟩), .string name, .string s] w (HasP b B w (.int .i64 (appendC S name (sb s))) (appendS S name (sb s))) := by
  obtain ⟨hB, L, d, rfl, o⟩ := h
  exact (append_any L S name s w d hf hn hs).mono fun _ _ ⟨he, r⟩ => ⟨he, HasD.ran hB rfl o r⟩
theorem sync_h (b B : Nat) (S : DS) (name : ByteArray) (w : World) (h : HasD w b B S) (hf : Fine S) (hn : name.size ≤ maxLen) :
    Calls Try.prog 15 #[.pointer (some ⟨b, 0, none⟩), .string name] w (HasP b B w (.int .i64 (syncC S name)) (syncS S name)) := by
  obtain ⟨hB, L, d, rfl, o⟩ := h
  exact (sync_any L S name w d hf hn).mono fun _ _ ⟨he, r⟩ => ⟨he, HasD.ran hB rfl o r⟩
theorem syncNames_h (b B : Nat) (S : DS) (w : World) (h : HasD w b B S) (hf : Fine S) (hr : RelsOk S) :
    Calls Try.prog 16 #[.pointer (some ⟨b, 0, none⟩)] w (HasP b B w (.int .i64 (syncNamesC S)) (syncNamesS S)) := by
  obtain ⟨hB, L, d, rfl, o⟩ := h
  exact (syncNames_any L S w d hf hr).mono fun _ _ ⟨he, r⟩ => ⟨he, HasD.ran hB rfl o r⟩
theorem rename_h (b B : Nat) (S : DS) (src dst : ByteArray) (w : World) (h : HasD w b B S) (hf : Fine S) (hn : src.size ≤ maxLen) (hd : dst.size ≤ maxLen) :
    Calls Try.prog 18 #[.pointer (some ⟨b, 0, none⟩), .string src, .string dst] w (HasP b B w (.int .i64 (renameC S src dst)) (renameS S src dst)) := by
  obtain ⟨hB, L, d, rfl, o⟩ := h
  exact (rename_any L S src dst w d hf hn hd).mono fun _ _ ⟨he, r⟩ => ⟨he, HasD.ran hB rfl o r⟩
theorem remove_h (b B : Nat) (S : DS) (name : ByteArray) (w : World) (h : HasD w b B S) (hf : Fine S) (hn : name.size ≤ maxLen) :
    Calls Try.prog 19 #[.pointer (some ⟨b, 0, none⟩), .string name] w (HasP b B w (.int .i64 (removeC S name)) (removeS S name)) := by
  obtain ⟨hB, L, d, rfl, o⟩ := h
  exact (remove_any L S name w d hf hn).mono fun _ _ ⟨he, r⟩ => ⟨he, HasD.ran hB rfl o r⟩
theorem read_h (b B : Nat) (S : DS) (name : ByteArray) (w : World) (h : HasD w b B S) (hr : ∀ p ∈ S.names, 1 ≤ p.2 ∧ p.2 ≤ S.made) (hn : name.size ≤ maxLen) :
    Calls Try.prog 22 #[.pointer (some ⟨b, 0, none⟩), .string name] w fun e w' => e = .returned (.tuple #[.string (bs (readD S name)), .int .i64 (findC S name)]) ∧ w = w' := by
  obtain ⟨hB, L, d, rfl, o⟩ := h
  exact read_any L S name w d hr hn
theorem dead_h (b B : Nat) (S : DS) (w : World) (h : HasD w b B S) : Calls Try.prog 23 #[.pointer (some ⟨b, 0, none⟩)] w fun e w' => e = .returned (.bool S.dead) ∧ w = w' := by
  obtain ⟨hB, L, d, rfl, o⟩ := h
  exact dead_any L S w d
theorem crash_h (b B : Nat) (S : DS) (n : Int) (w : World) (h : HasD w b B S) : Calls Try.prog 20 #[.pointer (some ⟨b, 0, none⟩), .int .i64 n] w (HasP b B w (.tuple #[]) { S with crash := max n (-1) }) := by
  obtain ⟨hB, L, d, rfl, o⟩ := h
  exact (crash_any L S n w d).mono fun _ _ ⟨he, d', c⟩ => ⟨he, HasD.ran hB rfl o ⟨L, d', rfl, fun _ _ => rfl, c.mono (fun t e => by rw [e]; simp)⟩⟩
/-- the choice lies below B, or was made since w1 -/
theorem restart_h (b B : Nat) (S : DS) (v : Value) (choice : List Int) (w1 w : World) (h : HasD w1 b B S) (hb : Below w1.heap.size w1 w) (hf : Fine S) (hro : RestOk S choice) (hv : IntsIn w v choice) (hvo : ∀ k, 0 < choice.length → v.ownBlock = some k → k < B ∨ w1.heap.size ≤ k) :
    Calls Try.prog 21 #[.pointer (some ⟨b, 0, none⟩), v] w (HasP b B w (.tuple #[]) (restartI S choice)) := by
  obtain ⟨hB, L, d, rfl, o⟩ := h
  have c := restart_any L S v choice w (d.below hb) hf hro hv (fun k h0 hk => by
    rcases hvo k h0 hk with e | e
    · exact o k e
    · exact d.tags.out k e)
  rw [restartI_eq] at c
  exact c.mono fun _ _ ⟨he, r⟩ => ⟨he, HasD.ran (Nat.le_trans hB hb.size) rfl o r⟩

theorem ints_nil (w : World) : IntsIn w (.slice none 0 0) [] := ⟨⟨_, _, rfl⟩, fun h => absurd h (by simp), by simp, by simp⟩
theorem ints_two (w : World) (a b : Int) (ha : -9223372036854775808 ≤ a ∧ a ≤ 9223372036854775807) (hb : -9223372036854775808 ≤ b ∧ b ≤ 9223372036854775807) (t : TypeId) (c : Nat) :
    IntsIn (w.alloc (.cells #[.int .i64 a, .int .i64 b] t)) (.slice (some ⟨w.heap.size, 0, none⟩) 2 c) [a, b] := by
  have e := (MapKept.heap_alloc w (.cells #[.int .i64 a, .int .i64 b] t)).1
  refine ⟨⟨_, _, rfl⟩, fun _ => ⟨_, _, _, rfl, by simp, fun i hi => ?_⟩, by simp [maxLen], fun x hx => ?_⟩
  · have hc : ∀ j, (w.alloc (.cells #[.int .i64 a, .int .i64 b] t)).cell? ⟨w.heap.size, 0 + j, none⟩ = #[Value.int .i64 a, .int .i64 b][j]? := fun j => by
      unfold World.cell?
      simp only [e]
      simp
    rw [hc]
    match i, hi with
    | 0, _ => rfl
    | 1, _ => rfl
  · simp at hx
    rcases hx with rfl | rfl
    · exact ha
    · exact hb

theorem below_two {B : Nat} {a c d : World} (h : Below B a c) (k : Below B c d) : Below B a d := h.trans k

set_option maxHeartbeats 2000000 in
theorem awake5 (w : World) : Calls Try.prog 9 #[] w fun e w' => e = .returned (.bool true) ∧ Below w.heap.size w w' := by
  have cn : Calls Try.prog 7 #[.int .i64 100] w fun e w' => ∃ b, e = .returned (.pointer (some ⟨b, 0, none⟩)) ∧ HasD w' b w.heap.size w0S ∧ Below w.heap.size w w' := new_h 100 w (by omega) (by omega)
  have F := awake_facts
  simp only [Bool.and_eq_true] at F
  obtain ⟨⟨⟨⟨⟨⟨⟨⟨⟨f0, f1⟩, f2⟩, r2⟩, f3⟩, q3⟩, f4⟩, f5⟩, q5⟩, f6⟩ := F
  obtain ⟨c1, c2, c3, c4, c4b, c5, c6⟩ := awake_codes
  have k1 : ∀ b w1, HasD w1 b w.heap.size w0S → Calls Try.prog 13 #[.pointer (some ⟨b, 0, none⟩), .string ⟨#[97]⟩] w1 (HasP b w.heap.size w1 (.int .i64 0) w1S) := fun b w1 h => by
    have := create_h b _ w0S nmA w1 h (Fine.of f0) (by unfold maxLen; decide)
    rw [c1] at this; exact this
  have k2 : ∀ b w1, HasD w1 b w.heap.size w1S → Calls Try.prog 14 #[.pointer (some ⟨b, 0, none⟩), .string ⟨#[97]⟩, .string ⟨#[120, 121]⟩] w1 (HasP b w.heap.size w1 (.int .i64 0) w2S) := fun b w1 h => by
    have := append_h b _ w1S nmA ⟨#[120, 121]⟩ w1 h (Fine.of f1) (by unfold maxLen; decide) (by decide)
    rw [show sb ⟨#[120, 121]⟩ = [120, 121] from rfl, c2] at this; exact this
  have k3 : ∀ b w1, HasD w1 b w.heap.size w2S → Calls Try.prog 16 #[.pointer (some ⟨b, 0, none⟩)] w1 (HasP b w.heap.size w1 (.int .i64 0) w3S) := fun b w1 h => by
    have := syncNames_h b _ w2S w1 h (Fine.of f2) (RelsOk.of r2)
    rw [c3] at this; exact this
  have k4 : ∀ b w1, HasD w1 b w.heap.size w3S → Calls Try.prog 21 #[.pointer (some ⟨b, 0, none⟩), .slice (some ⟨w1.heap.size, 0, none⟩) 2 2] (w1.alloc (.cells #[.int .i64 0, .int .i64 1] 3)) (HasP b w.heap.size (w1.alloc (.cells #[.int .i64 0, .int .i64 1] 3)) (.tuple #[]) w4S) := fun b w1 h =>
    restart_h b _ w3S _ [0, 1] w1 _ h ((Below.refl _ _).alloc (Nat.le_refl _) _) (Fine.of f3) (RestOk.of q3) (ints_two w1 0 1 (by omega) (by omega) _ 2) (fun k _ hk => by cases hk; exact .inr (Nat.le_refl _))
  have k5 : ∀ b w1, HasD w1 b w.heap.size w4S → Calls Try.prog 22 #[.pointer (some ⟨b, 0, none⟩), .string ⟨#[97]⟩] w1 fun e w' => e = .returned (.tuple #[.string ⟨#[120]⟩, .int .i64 0]) ∧ w1 = w' := fun b w1 h => by
    have := read_h b _ w4S nmA w1 h (Fine.of f4).nref (by unfold maxLen; decide)
    rw [c4, c4b] at this; exact this
  have k6 : ∀ b w1, HasD w1 b w.heap.size w4S → Calls Try.prog 13 #[.pointer (some ⟨b, 0, none⟩), .string ⟨#[98]⟩] w1 (HasP b w.heap.size w1 (.int .i64 0) w5S) := fun b w1 h => by
    have := create_h b _ w4S nmB w1 h (Fine.of f4) (by unfold maxLen; decide)
    rw [c5] at this; exact this
  have k7 : ∀ b w1, HasD w1 b w.heap.size w5S → Calls Try.prog 21 #[.pointer (some ⟨b, 0, none⟩), .slice none 0 0] w1 (HasP b w.heap.size w1 (.tuple #[]) w6S) := fun b w1 h =>
    restart_h b _ w5S _ [] w1 _ h (Below.refl _ _) (Fine.of f5) (RestOk.of q5) (ints_nil w1) (fun k _ hk => by cases hk)
  have k8 : ∀ b w1, HasD w1 b w.heap.size w6S → Calls Try.prog 22 #[.pointer (some ⟨b, 0, none⟩), .string ⟨#[98]⟩] w1 fun e w' => e = .returned (.tuple #[.string ⟨#[]⟩, .int .i64 5]) ∧ w1 = w' := fun b w1 h => by
    have := read_h b _ w6S nmB w1 h (Fine.of f6).nref (by unfold maxLen; decide)
    rw [c6] at this; exact this
  have CN := Box.mk cn; have K1 := Box.mk k1; have K2 := Box.mk k2; have K3 := Box.mk k3; have K4 := Box.mk k4; have K5 := Box.mk k5; have K6 := Box.mk k6; have K7 := Box.mk k7; have K8 := Box.mk k8
  clear f0 f1 f2 r2 f3 q3 f4 f5 q5 f6 c1 c2 c3 c4 c4b c5 c6 cn k1 k2 k3 k4 k5 k6 k7 k8
  go_enter Try.func9, Try.ntmps9
  go_wp2_with (first
    | (go_at_call 7; ((with_reducible refine CN.out.mono ?_); rintro e w1 ⟨b, rfl, d1, b1⟩; have B1 := Box.mk b1; have A1 := Box.mk (K1.out b w1 d1); clear d1 b1 CN))
    | (go_at_call 13; ((with_reducible refine A1.out.mono ?_); rintro e w2 ⟨rfl, d2, b2⟩; have B2 := Box.mk (B1.out.trans b2); have A2 := Box.mk (K2.out b w2 d2); clear d2 b2 A1 B1))
    | (go_at_call 14; ((with_reducible refine A2.out.mono ?_); rintro e w3 ⟨rfl, d3, b3⟩; have B3 := Box.mk (B2.out.trans b3); have A3 := Box.mk (K3.out b w3 d3); clear d3 b3 A2 B2))
    | (go_at_call 16; ((with_reducible refine A3.out.mono ?_); rintro e w4 ⟨rfl, d4, b4⟩; have B4 := Box.mk (B3.out.trans b4); have A4 := Box.mk (K4.out b w4 d4); clear d4 b4 A3 B3))
    | (go_at_call 21; ((with_reducible refine A4.out.mono ?_); rintro e w5 ⟨rfl, d5, b5⟩; have B5 := Box.mk ((B4.out.alloc B4.out.size _).trans b5); have A5 := Box.mk (K5.out b w5 d5); have A6 := Box.mk (K6.out b w5 d5); clear d5 b5 A4 B4))
    | (go_at_call 22; ((with_reducible refine A5.out.mono ?_); rintro e w6 ⟨rfl, rfl⟩; clear A5))
    | (go_at_call 13; ((with_reducible refine A6.out.mono ?_); rintro e w6 ⟨rfl, d6, b6⟩; have B6 := Box.mk (B5.out.trans b6); have A7 := Box.mk (K7.out b w6 d6); clear d6 b6 A6 B5))
    | (go_at_call 21; ((with_reducible refine A7.out.mono ?_); rintro e w7 ⟨rfl, d7, b7⟩; have B7 := Box.mk (B6.out.trans b7); have A8 := Box.mk (K8.out b w7 d7); clear d7 b7 A7 B6))
    | (go_at_call 22; ((with_reducible refine A8.out.mono ?_); rintro e w8 ⟨rfl, rfl⟩; clear A8)))
  go_ret
  exact ⟨rfl, B7.out⟩

end Go.Proofs.Ytalinhjalnndhaa
