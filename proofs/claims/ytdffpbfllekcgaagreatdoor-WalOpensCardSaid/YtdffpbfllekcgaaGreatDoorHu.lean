/- DiskV, WalJ, in one text. -/
import Derived.Test.YtdffpbfllekcgaaGreatDoorHs
import Derived.OpenShut
import Derived.SliceStrings
import Derived.Carry
import Derived.Test.YtdffpbfllekcgaaGreatDoorHt
namespace Go.Proofs.YtdffpbfllekcgaaGreatDoor
set_option maxRecDepth 100000
open Go.ChangeShapes Go.WideShapes Go.RowKit M

def HasD (w : World) (b B : Nat) (S : DS) : Prop := B ≤ w.heap.size ∧ ∃ L, DiskAt w L S ∧ L.b = b ∧ ∀ k, k < B → L.own k = .free
def HasP (b B : Nat) (w : World) (r : Value) (S' : DS) (e : Ending) (w' : World) : Prop := e = .returned r ∧ HasD w' b B S' ∧ Below B w w'

theorem HasD.ran {w w' : World} {b B : Nat} {L : Lay} {S' : DS} (hB : B ≤ w.heap.size) (hb : L.b = b) (ho : ∀ k, k < B → L.own k = .free) (h : Ran w L S' w') : HasD w' b B S' ∧ Below B w w' := by
  obtain ⟨L', d, eb, eo, c⟩ := h
  refine ⟨⟨Nat.le_trans hB c.size, L', d, eb.trans hb, fun k hk => (eo k (Nat.lt_of_lt_of_le hk hB)).trans (ho k hk)⟩, ⟨c.os, c.tape, c.output, c.size, fun k hk => c.block k (Nat.lt_of_lt_of_le hk hB) (by rw [ho k hk]; simp)⟩⟩
theorem HasD.below {w w' : World} {b B : Nat} {S : DS} (h : HasD w b B S) (hb : Below w.heap.size w w') : HasD w' b B S := by
  obtain ⟨hB, L, d, e, o⟩ := h
  exact ⟨Nat.le_trans hB hb.size, L, d.below hb, e, o⟩
theorem HasD.le {w : World} {b B B' : Nat} {S : DS} (h : HasD w b B S) (hB : B' ≤ B) : HasD w b B' S := by
  obtain ⟨hB', L, d, e, o⟩ := h
  exact ⟨Nat.le_trans hB hB', L, d, e, fun k hk => o k (by omega)⟩

theorem new_h (room : Int) (w : World) (h1 : -9223372036854775808 ≤ room) (h2 : room ≤ 9223372036854775807) :
    Calls Tryz.prog 4 #[.int .i64 room] w fun e w' => ∃ b, e = .returned (.pointer (some ⟨b, 0, none⟩)) ∧ HasD w' b w.heap.size (newS room) ∧ Below w.heap.size w w' :=
  (new_any room w h1 h2).mono fun _ _ ⟨L, he, d, hb, ho⟩ => ⟨L.b, he, ⟨hb.size, L, d, rfl, ho⟩, hb⟩
theorem create_h (b B : Nat) (S : DS) (name : ByteArray) (w : World) (h : HasD w b B S) (hf : Fine S) (hn : name.size ≤ maxLen) :
    Calls Tryz.prog 7 #[.pointer (some ⟨b, 0, none⟩), .string name] w (HasP b B w (.int .i64 (createC S name)) (createS S name)) := by
  obtain ⟨hB, L, d, rfl, o⟩ := h
  exact (create_any L S name w d hf hn).mono fun _ _ ⟨he, r⟩ => ⟨he, HasD.ran hB rfl o r⟩
theorem append_h (b B : Nat) (S : DS) (name s : ByteArray) (w : World) (h : HasD w b B S) (hf : Fine S) (hn : name.size ≤ maxLen) (hs : s.size ≤ 1099511627776) :
    Calls Tryz.prog 8 #[.pointer (some ⟨b, 0, none⟩), .string name, .string s] w (HasP b B w (.int .i64 (appendC S name (sb s))) (appendS S name (sb s))) := by
  obtain ⟨hB, L, d, rfl, o⟩ := h
  exact (append_any L S name s w d hf hn hs).mono fun _ _ ⟨he, r⟩ => ⟨he, HasD.ran hB rfl o r⟩
theorem sync_h (b B : Nat) (S : DS) (name : ByteArray) (w : World) (h : HasD w b B S) (hf : Fine S) (hn : name.size ≤ maxLen) :
    Calls Tryz.prog 32 #[.pointer (some ⟨b, 0, none⟩), .string name] w (HasP b B w (.int .i64 (syncC S name)) (syncS S name)) := by
  obtain ⟨hB, L, d, rfl, o⟩ := h
  exact (sync_any L S name w d hf hn).mono fun _ _ ⟨he, r⟩ => ⟨he, HasD.ran hB rfl o r⟩
theorem syncNames_h (b B : Nat) (S : DS) (w : World) (h : HasD w b B S) (hf : Fine S) (hr : RelsOk S) :
    Calls Tryz.prog 53 #[.pointer (some ⟨b, 0, none⟩)] w (HasP b B w (.int .i64 (syncNamesC S)) (syncNamesS S)) := by
  obtain ⟨hB, L, d, rfl, o⟩ := h
  exact (syncNames_any L S w d hf hr).mono fun _ _ ⟨he, r⟩ => ⟨he, HasD.ran hB rfl o r⟩
theorem remove_h (b B : Nat) (S : DS) (name : ByteArray) (w : World) (h : HasD w b B S) (hf : Fine S) (hn : name.size ≤ maxLen) :
    Calls Tryz.prog 80 #[.pointer (some ⟨b, 0, none⟩), .string name] w (HasP b B w (.int .i64 (removeC S name)) (removeS S name)) := by
  obtain ⟨hB, L, d, rfl, o⟩ := h
  exact (remove_any L S name w d hf hn).mono fun _ _ ⟨he, r⟩ => ⟨he, HasD.ran hB rfl o r⟩
theorem read_h (b B : Nat) (S : DS) (name : ByteArray) (w : World) (h : HasD w b B S) (hr : ∀ p ∈ S.names, 1 ≤ p.2 ∧ p.2 ≤ S.made) (hn : name.size ≤ maxLen) :
    Calls Tryz.prog 10 #[.pointer (some ⟨b, 0, none⟩), .string name] w fun e w' => e = .returned (.tuple #[.string (bs (readD S name)), .int .i64 (findC S name)]) ∧ w = w' := by
  obtain ⟨hB, L, d, rfl, o⟩ := h
  exact dread_any L S name w d hr hn
/-- the choice lies below B, or was made since w1 -/
theorem restart_h (b B : Nat) (S : DS) (v : Value) (choice : List Int) (w1 w : World) (h : HasD w1 b B S) (hb : Below w1.heap.size w1 w) (hf : Fine S) (hro : RestOk S choice) (hv : IntsIn w v choice) (hvo : ∀ k, 0 < choice.length → v.ownBlock = some k → k < B ∨ w1.heap.size ≤ k) :
    Calls Tryz.prog 17 #[.pointer (some ⟨b, 0, none⟩), v] w (HasP b B w (.tuple #[]) (restartI S choice)) := by
  obtain ⟨hB, L, d, rfl, o⟩ := h
  have c := restart_any L S v choice w (d.below hb) hf hro hv (fun k h0 hk => by
    rcases hvo k h0 hk with e | e
    · exact o k e
    · exact d.tags.out k e)
  rw [restartI_eq] at c
  exact c.mono fun _ _ ⟨he, r⟩ => ⟨he, HasD.ran (Nat.le_trans hB hb.size) rfl o r⟩

theorem ints_nil (w : World) : IntsIn w (.slice none 0 0) [] := ⟨⟨_, _, rfl⟩, fun h => absurd h (by simp), by simp, by simp⟩
theorem ints_two (w : World) (a b : Int) (ha : -9223372036854775808 ≤ a ∧ a ≤ 9223372036854775807) (hb : -9223372036854775808 ≤ b ∧ b ≤ 9223372036854775807) (t : TypeId) (c : Nat) :
    IntsIn (w.alloc (.cells #[.int .i64 a, .int .i64 b] t)) (.slice (some ⟨w.heap.size, 0, none⟩) 2 c) [a, b] := by
  have e := (MapKept.heap_alloc w (.cells #[.int .i64 a, .int .i64 b] t)).1
  refine ⟨⟨_, _, rfl⟩, fun _ => ⟨_, _, _, rfl, by simp, fun i hi => ?_⟩, by simp [maxLen], fun x hx => ?_⟩
  · have hc : ∀ j, (w.alloc (.cells #[.int .i64 a, .int .i64 b] t)).cell? ⟨w.heap.size, 0 + j, none⟩ = #[Value.int .i64 a, .int .i64 b][j]? := fun j => by
      unfold World.cell?
      simp only [e]
      simp
    rw [hc]
    match i, hi with
    | 0, _ => rfl
    | 1, _ => rfl
  · simp at hx
    rcases hx with rfl | rfl
    · exact ha
    · exact hb

theorem below_two {B : Nat} {a c d : World} (h : Below B a c) (k : Below B c d) : Below B a d := h.trans k

end Go.Proofs.YtdffpbfllekcgaaGreatDoor
namespace Go.Proofs.YtdffpbfllekcgaaGreatDoor
set_option maxRecDepth 100000
open Go.ChangeShapes Go.WideShapes Go.RowKit M

/-- the disk at block b is S; blocks of F are there and are not the disk's -/
def HasF (w : World) (b : Nat) (F : Nat → Prop) (S : DS) : Prop := ∃ L, DiskAt w L S ∧ L.b = b ∧ ∀ k, F k → k < w.heap.size ∧ L.own k = .free
/-- blocks of F are as they were -/
structure KeepF (F : Nat → Prop) (w w' : World) : Prop where
  os : w'.os = w.os
  tape : w'.tape = w.tape
  output : w'.output = w.output
  size : w.heap.size ≤ w'.heap.size
  block : ∀ k, F k → k < w.heap.size → w'.heap[k]? = w.heap[k]?
theorem KeepF.refl (F : Nat → Prop) (w : World) : KeepF F w w := ⟨rfl, rfl, rfl, Nat.le_refl _, fun _ _ _ => rfl⟩
theorem KeepF.trans {F : Nat → Prop} {a b c : World} (h : KeepF F a b) (k : KeepF F b c) : KeepF F a c :=
  ⟨k.os.trans h.os, k.tape.trans h.tape, k.output.trans h.output, Nat.le_trans h.size k.size, fun i hf hi => (k.block i hf (Nat.lt_of_lt_of_le hi h.size)).trans (h.block i hf hi)⟩
theorem KeepF.mono {F F' : Nat → Prop} {a b : World} (h : KeepF F a b) (hf : ∀ k, F' k → F k) : KeepF F' a b := ⟨h.os, h.tape, h.output, h.size, fun i hi hl => h.block i (hf i hi) hl⟩
theorem KeepF.of_below {F : Nat → Prop} {a b : World} (h : Below a.heap.size a b) : KeepF F a b := ⟨h.os, h.tape, h.output, h.size, fun i _ hl => h.block i hl⟩
theorem KeepF.below {F : Nat → Prop} {a b : World} {B : Nat} (h : KeepF F a b) (hB : B ≤ a.heap.size) (hF : ∀ k, k < B → F k) : Below B a b := ⟨h.os, h.tape, h.output, h.size, fun i hl => h.block i (hF i hl) (by omega)⟩
theorem KeepF.drew {F : Nat → Prop} {a b : World} (h : KeepF F a b) : KeepF F a b.drew := ⟨h.os, h.tape, h.output, h.size, h.block⟩
theorem KeepF.drewN {F : Nat → Prop} {a b : World} (h : KeepF F a b) (n : Nat) : KeepF F a (b.drewN n) := ⟨h.os, h.tape, h.output, h.size, h.block⟩
theorem KeepF.set {F : Nat → Prop} {a b : World} (h : KeepF F a b) {p : Addr} (hp : ¬ F p.block) (u : Value) : KeepF F a (b.setCell p u) :=
  ⟨h.os, h.tape, h.output, by simpa [World.setCell] using h.size, fun k hk hl => by
    rw [Below.heap_setCell _ _ _ _ (fun e => hp (by rw [← e]; exact hk))]
    exact h.block k hk hl⟩
theorem KeepF.alloc {F : Nat → Prop} {a b : World} (h : KeepF F a b) (o : Obj) : KeepF F a (b.alloc o) := h.trans (KeepF.of_below ((Below.refl _ _).alloc (Nat.le_refl _) o))
theorem KeepF.cell {F : Nat → Prop} {a b : World} (h : KeepF F a b) {k o : Nat} (hf : F k) (hl : k < a.heap.size) : b.cell? ⟨k, o, none⟩ = a.cell? ⟨k, o, none⟩ := cell_keep (h.block k hf hl)

theorem HasF.ran {w w' : World} {b : Nat} {F : Nat → Prop} {L : Lay} {S' : DS} (hb : L.b = b) (ho : ∀ k, F k → k < w.heap.size ∧ L.own k = .free) (h : Ran w L S' w') : HasF w' b F S' ∧ KeepF F w w' := by
  obtain ⟨L', d, eb, eo, c⟩ := h
  exact ⟨⟨L', d, eb.trans hb, fun k hk => ⟨Nat.lt_of_lt_of_le (ho k hk).1 c.size, (eo k (ho k hk).1).trans (ho k hk).2⟩⟩, c.os, c.tape, c.output, c.size, fun k hk hl => c.block k hl (by rw [(ho k hk).2]; simp)⟩
/-- only blocks of F have changed, or are new -/
theorem HasF.mine {w w' : World} {b : Nat} {F F' : Nat → Prop} {S : DS} (h : HasF w b F S) (hs : w.heap.size ≤ w'.heap.size) (hk : ∀ k, k < w.heap.size → ¬ F k → w'.heap[k]? = w.heap[k]?) (hF : ∀ k, F' k → F k ∨ (w.heap.size ≤ k ∧ k < w'.heap.size)) : HasF w' b F' S := by
  obtain ⟨L, d, e, o⟩ := h
  refine ⟨L, d.keep hs (fun k hn => hk k (d.own_lt hn) (fun hf => hn (o k hf).2)), e, fun k hf => ?_⟩
  rcases hF k hf with hf | ⟨hl, hu⟩
  · exact ⟨Nat.lt_of_lt_of_le (o k hf).1 hs, (o k hf).2⟩
  · exact ⟨hu, d.tags.out k hl⟩
theorem HasF.below {w w' : World} {b : Nat} {F : Nat → Prop} {S : DS} (h : HasF w b F S) (hb : Below w.heap.size w w') : HasF w' b F S :=
  h.mine hb.size (fun k hl _ => hb.block k hl) (fun _ hf => .inl hf)
theorem HasF.less {w : World} {b : Nat} {F F' : Nat → Prop} {S : DS} (h : HasF w b F S) (hF : ∀ k, F' k → F k) : HasF w b F' S := by
  obtain ⟨L, d, e, o⟩ := h
  exact ⟨L, d, e, fun k hk => o k (hF k hk)⟩
theorem HasF.drewN {w : World} {b : Nat} {F : Nat → Prop} {S : DS} (h : HasF w b F S) (n : Nat) : HasF (w.drewN n) b F S := h.mine (Nat.le_refl _) (fun _ _ _ => rfl) (fun _ hf => .inl hf)
theorem HasF.drew {w : World} {b : Nat} {F : Nat → Prop} {S : DS} (h : HasF w b F S) : HasF w.drew b F S := h.mine (Nat.le_refl _) (fun _ _ _ => rfl) (fun _ hf => .inl hf)
theorem HasF.set {w : World} {b : Nat} {F : Nat → Prop} {S : DS} (h : HasF w b F S) {p : Addr} (hp : F p.block) (u : Value) : HasF (w.setCell p u) b F S :=
  h.mine (by simp [World.setCell]) (fun k _ hn => Below.heap_setCell _ _ _ _ (fun e => hn (by rw [e]; exact hp))) (fun _ hf => .inl hf)
theorem HasF.lt {w : World} {b : Nat} {F : Nat → Prop} {S : DS} (h : HasF w b F S) {k : Nat} (hk : F k) : k < w.heap.size := by
  obtain ⟨L, d, e, o⟩ := h
  exact (o k hk).1
theorem HasF.of_hasD {w : World} {b B : Nat} {S : DS} (h : HasD w b B S) : HasF w b (fun k => k < B) S := by
  obtain ⟨hB, L, d, e, o⟩ := h
  exact ⟨L, d, e, fun k hk => ⟨by omega, o k hk⟩⟩

/-- what a call of the disk leaves -/
def FP (b : Nat) (F : Nat → Prop) (w : World) (r : Value) (S' : DS) (e : Ending) (w' : World) : Prop := e = .returned r ∧ HasF w' b F S' ∧ KeepF F w w'

theorem create_f (b : Nat) (F : Nat → Prop) (S : DS) (name : ByteArray) (w : World) (h : HasF w b F S) (hf : Fine S) (hn : name.size ≤ maxLen) :
    Calls Tryz.prog 7 #[.pointer (some ⟨b, 0, none⟩), .string name] w (FP b F w (.int .i64 (createC S name)) (createS S name)) := by
  obtain ⟨L, d, rfl, o⟩ := h
  exact (create_any L S name w d hf hn).mono fun _ _ ⟨he, r⟩ => ⟨he, HasF.ran rfl o r⟩
theorem append_f (b : Nat) (F : Nat → Prop) (S : DS) (name s : ByteArray) (w : World) (h : HasF w b F S) (hf : Fine S) (hn : name.size ≤ maxLen) (hs : s.size ≤ 1099511627776) :
    Calls Tryz.prog 8 #[.pointer (some ⟨b, 0, none⟩), .string name, .string s] w (FP b F w (.int .i64 (appendC S name (sb s))) (appendS S name (sb s))) := by
  obtain ⟨L, d, rfl, o⟩ := h
  exact (append_any L S name s w d hf hn hs).mono fun _ _ ⟨he, r⟩ => ⟨he, HasF.ran rfl o r⟩
theorem sync_f (b : Nat) (F : Nat → Prop) (S : DS) (name : ByteArray) (w : World) (h : HasF w b F S) (hf : Fine S) (hn : name.size ≤ maxLen) :
    Calls Tryz.prog 32 #[.pointer (some ⟨b, 0, none⟩), .string name] w (FP b F w (.int .i64 (syncC S name)) (syncS S name)) := by
  obtain ⟨L, d, rfl, o⟩ := h
  exact (sync_any L S name w d hf hn).mono fun _ _ ⟨he, r⟩ => ⟨he, HasF.ran rfl o r⟩
theorem syncNames_f (b : Nat) (F : Nat → Prop) (S : DS) (w : World) (h : HasF w b F S) (hf : Fine S) (hr : RelsOk S) :
    Calls Tryz.prog 53 #[.pointer (some ⟨b, 0, none⟩)] w (FP b F w (.int .i64 (syncNamesC S)) (syncNamesS S)) := by
  obtain ⟨L, d, rfl, o⟩ := h
  exact (syncNames_any L S w d hf hr).mono fun _ _ ⟨he, r⟩ => ⟨he, HasF.ran rfl o r⟩
theorem remove_f (b : Nat) (F : Nat → Prop) (S : DS) (name : ByteArray) (w : World) (h : HasF w b F S) (hf : Fine S) (hn : name.size ≤ maxLen) :
    Calls Tryz.prog 80 #[.pointer (some ⟨b, 0, none⟩), .string name] w (FP b F w (.int .i64 (removeC S name)) (removeS S name)) := by
  obtain ⟨L, d, rfl, o⟩ := h
  exact (remove_any L S name w d hf hn).mono fun _ _ ⟨he, r⟩ => ⟨he, HasF.ran rfl o r⟩
theorem read_f (b : Nat) (F : Nat → Prop) (S : DS) (name : ByteArray) (w : World) (h : HasF w b F S) (hr : ∀ p ∈ S.names, 1 ≤ p.2 ∧ p.2 ≤ S.made) (hn : name.size ≤ maxLen) :
    Calls Tryz.prog 10 #[.pointer (some ⟨b, 0, none⟩), .string name] w fun e w' => e = .returned (.tuple #[.string (bs (readD S name)), .int .i64 (findC S name)]) ∧ w = w' := by
  obtain ⟨L, d, rfl, o⟩ := h
  exact dread_any L S name w d hr hn
theorem chn_ran {w w' : World} {L : Lay} {S' : DS} (d : DiskAt w' L S') (c : Chn (fun t => t = .disk) L.own w w') : Ran w L S' w' := ⟨L, d, rfl, fun _ _ => rfl, c.mono (fun t e => by rw [e]; simp)⟩
theorem restart_f (b : Nat) (F : Nat → Prop) (S : DS) (v : Value) (choice : List Int) (w : World) (h : HasF w b F S) (hf : Fine S) (hro : RestOk S choice) (hv : IntsIn w v choice) (hvo : ∀ k, 0 < choice.length → v.ownBlock = some k → F k) :
    Calls Tryz.prog 17 #[.pointer (some ⟨b, 0, none⟩), v] w (FP b F w (.tuple #[]) (restartI S choice)) := by
  obtain ⟨L, d, rfl, o⟩ := h
  have c := restart_any L S v choice w d hf hro hv (fun k h0 hk => (o k (hvo k h0 hk)).2)
  rw [restartI_eq] at c
  exact c.mono fun _ _ ⟨he, r⟩ => ⟨he, HasF.ran rfl o r⟩
theorem dnew_f (room : Int) (w : World) (h1 : -9223372036854775808 ≤ room) (h2 : room ≤ 9223372036854775807) :
    Calls Tryz.prog 4 #[.int .i64 room] w fun e w' => ∃ b, e = .returned (.pointer (some ⟨b, 0, none⟩)) ∧ HasF w' b (fun k => k < w.heap.size) (newS room) ∧ Below w.heap.size w w' :=
  (new_h room w h1 h2).mono fun _ _ ⟨b, he, d, hb⟩ => ⟨b, he, HasF.of_hasD d, hb⟩
end Go.Proofs.YtdffpbfllekcgaaGreatDoor
