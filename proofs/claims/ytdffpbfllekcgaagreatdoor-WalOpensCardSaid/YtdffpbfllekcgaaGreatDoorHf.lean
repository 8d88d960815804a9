/- DiskA, DiskB, DiskC, in one text. -/
import Derived.Test.YtdffpbfllekcgaaGreatDoorHe
import Derived.Test.YtdffpbfllekcgaaGreatDoorHd
import Derived.Deep.AppendLies
import Derived.RegionTactic
import Derived.Deep.QuietTactic
import Derived.BigQuiet
import Derived.IntWalk
import Derived.Maps.OwnIn
import Derived.Deep.DeepCutAuto
namespace Go.Proofs.YtdffpbfllekcgaaGreatDoor
set_option maxRecDepth 100000
open Go.RowKit M

/-- what a block belongs to -/
inductive Tag where
  | free
  | disk
  | names
  | safe
  | chg
  | file (n : Nat)
  | data (n : Nat)

/-- where a disk lies -/
structure Lay where
  b : Nat
  nb : Nat
  sb : Nat
  loc : Nat → Nat
  dat : Nat → Value
  ch : Value
  own : Nat → Tag

/-- only blocks of the tags in T have changed -/
structure Chn (T : Tag → Prop) (own : Nat → Tag) (w w' : World) : Prop where
  os : w'.os = w.os
  tape : w'.tape = w.tape
  output : w'.output = w.output
  size : w.heap.size ≤ w'.heap.size
  block : ∀ k, k < w.heap.size → ¬ T (own k) → w'.heap[k]? = w.heap[k]?

theorem Chn.refl (T : Tag → Prop) (own : Nat → Tag) (w : World) : Chn T own w w := ⟨rfl, rfl, rfl, Nat.le_refl _, fun _ _ _ => rfl⟩
theorem Chn.trans {T : Tag → Prop} {own : Nat → Tag} {a b c : World} (h : Chn T own a b) (k : Chn T own b c) : Chn T own a c :=
  ⟨k.os.trans h.os, k.tape.trans h.tape, k.output.trans h.output, Nat.le_trans h.size k.size, fun i hi hn => (k.block i (Nat.lt_of_lt_of_le hi h.size) hn).trans (h.block i hi hn)⟩
theorem Chn.mono {T T' : Tag → Prop} {own : Nat → Tag} {a b : World} (h : Chn T own a b) (ht : ∀ t, T t → T' t) : Chn T' own a b :=
  ⟨h.os, h.tape, h.output, h.size, fun i hi hn => h.block i hi fun e => hn (ht _ e)⟩
theorem Chn.of_below {T : Tag → Prop} {own : Nat → Tag} {a b : World} (h : Below a.heap.size a b) : Chn T own a b :=
  ⟨h.os, h.tape, h.output, h.size, fun i hi _ => h.block i hi⟩
theorem Chn.alloc {T : Tag → Prop} {own : Nat → Tag} {a w : World} (h : Chn T own a w) (o : Obj) : Chn T own a (w.alloc o) :=
  h.trans (Chn.of_below ((Below.refl _ _).alloc (Nat.le_refl _) o))
theorem Chn.drew {T : Tag → Prop} {own : Nat → Tag} {a w : World} (h : Chn T own a w) : Chn T own a w.drew := ⟨h.os, h.tape, h.output, h.size, h.block⟩
theorem Chn.setCell {T : Tag → Prop} {own : Nat → Tag} {a w : World} (h : Chn T own a w) {p : Addr} (hp : p.block < a.heap.size → T (own p.block)) (u : Value) : Chn T own a (w.setCell p u) :=
  ⟨h.os, h.tape, h.output, by simpa [World.setCell] using h.size, fun k hk hn => by
    rw [Below.heap_setCell _ _ _ _ (fun e => hn (by rw [e]; exact hp (by rw [← e]; exact hk)))]
    exact h.block k hk hn⟩
theorem Chn.setBlock {T : Tag → Prop} {own : Nat → Tag} {a w : World} (h : Chn T own a w) {b : Nat} (hp : b < a.heap.size → T (own b)) (o : Obj) : Chn T own a (ChangeMaps.setBlock w b o) :=
  ⟨h.os, h.tape, h.output, by simpa [ChangeMaps.setBlock] using h.size, fun k hk hn => by
    have hne : k ≠ b := fun e => hn (by rw [e]; exact hp (by rw [← e]; exact hk))
    have : (ChangeMaps.setBlock w b o).heap[k]? = w.heap[k]? := by
      simp [ChangeMaps.setBlock, Ne.symm hne]
    rw [this]
    exact h.block k hk hn⟩
theorem Chn.grown {T : Tag → Prop} {own : Nat → Tag} {a w w' : World} {row : Option Nat} (h : Chn T own a w) (hg : w.grownBy w' row) (hr : ∀ k, row = some k → k < a.heap.size → T (own k)) : Chn T own a w' :=
  ⟨hg.os.trans h.os, hg.tape.trans h.tape, hg.output.trans h.output, Nat.le_trans h.size hg.size, fun k hk hn =>
    (hg.block k (Nat.lt_of_lt_of_le hk h.size) (fun e => hn (hr k e.symm hk))).trans (h.block k hk hn)⟩
theorem Chn.below {T : Tag → Prop} {own : Nat → Tag} {a w w' : World} (h : Chn T own a w) (hb : Below w.heap.size w w') : Chn T own a w' := h.trans (Chn.of_below hb)

/-- a file -/
structure FileAt (w : World) (p n : Nat) (v : Value) (f : FileS) : Prop where
  c0 : w.cell? ⟨p, 0, none⟩ = some (.int .i64 (n : Int))
  c1 : w.cell? ⟨p, 1, none⟩ = some v
  c2 : w.cell? ⟨p, 2, none⟩ = some (.int .i64 (f.safe : Int))
  c3 : w.cell? ⟨p, 3, none⟩ = some (.bool f.named)
  fz : ∀ o, w.frozen? ⟨p, o, none⟩ = false
  row : w.ownsRow 0 5 1 v f.data.length (byts f.data)

theorem cell_keep {w w' : World} {p o : Nat} (h : w'.heap[p]? = w.heap[p]?) : w'.cell? ⟨p, o, none⟩ = w.cell? ⟨p, o, none⟩ := World.cell?_of_block (a := ⟨p, o, none⟩) h
theorem frozen_keep {w w' : World} {p o : Nat} (h : w'.heap[p]? = w.heap[p]?) : w'.frozen? ⟨p, o, none⟩ = w.frozen? ⟨p, o, none⟩ := World.frozen?_of_block (a := ⟨p, o, none⟩) h
theorem row_keep {w w' : World} {B e z : Nat} {v : Value} {n : Nat} {xs : List Value} (h : w.ownsRow B e z v n xs) (hk : ∀ k, v.ownBlock = some k → w'.heap[k]? = w.heap[k]?) : w'.ownsRow B e z v n xs := by
  obtain ⟨h1, h2⟩ := h
  refine ⟨h1, ?_⟩
  rcases h2 with h2 | ⟨g, cap, cur, hv, hg, hh, r⟩
  · exact .inl h2
  · subst hv
    exact .inr ⟨g, cap, cur, rfl, hg, (hk g rfl).trans hh, r⟩
theorem FileAt.keep {w w' : World} {p n : Nat} {v : Value} {f : FileS} (h : FileAt w p n v f) (hp : w'.heap[p]? = w.heap[p]?) (hk : ∀ k, v.ownBlock = some k → w'.heap[k]? = w.heap[k]?) : FileAt w' p n v f :=
  ⟨(cell_keep hp).trans h.c0, (cell_keep hp).trans h.c1, (cell_keep hp).trans h.c2, (cell_keep hp).trans h.c3, fun o => (frozen_keep hp).trans (h.fz o), row_keep h.row hk⟩

def chgCells (loc : Nat → Nat) (c : Chg) : List Value :=
  [.string c.src, .string c.dst, .pointer (some ⟨loc c.file, 0, none⟩), .pointer (c.over.map fun n => ⟨loc n, 0, none⟩)]

/-- the ten fields -/
structure Head (w : World) (b nb sb : Nat) (ch : Value) (S : DS) : Prop where
  c0 : w.cell? ⟨b, 0, none⟩ = some (.map (some nb))
  c1 : w.cell? ⟨b, 1, none⟩ = some (.map (some sb))
  c2 : w.cell? ⟨b, 2, none⟩ = some ch
  c3 : w.cell? ⟨b, 3, none⟩ = some (.int .i64 (S.made : Int))
  c4 : w.cell? ⟨b, 4, none⟩ = some (.int .i64 S.room)
  c5 : w.cell? ⟨b, 5, none⟩ = some (.int .i64 S.used)
  c6 : w.cell? ⟨b, 6, none⟩ = some (.int .i64 S.crash)
  c7 : w.cell? ⟨b, 7, none⟩ = some (.int .i64 S.fail)
  c8 : w.cell? ⟨b, 8, none⟩ = some (.bool S.dead)
  c9 : w.cell? ⟨b, 9, none⟩ = some (.int .i64 (S.calls : Int))
  fz : ∀ o, w.frozen? ⟨b, o, none⟩ = false

theorem Head.keep {w w' : World} {b nb sb : Nat} {ch : Value} {S : DS} (h : Head w b nb sb ch S) (hp : w'.heap[b]? = w.heap[b]?) : Head w' b nb sb ch S :=
  ⟨(cell_keep hp).trans h.c0, (cell_keep hp).trans h.c1, (cell_keep hp).trans h.c2, (cell_keep hp).trans h.c3, (cell_keep hp).trans h.c4, (cell_keep hp).trans h.c5, (cell_keep hp).trans h.c6, (cell_keep hp).trans h.c7, (cell_keep hp).trans h.c8, (cell_keep hp).trans h.c9, fun o => (frozen_keep hp).trans (h.fz o)⟩

/-- which block belongs to what -/
structure Tags (L : Lay) (made H : Nat) : Prop where
  b : L.own L.b = .disk
  nb : L.own L.nb = .names
  sb : L.own L.sb = .safe
  ch : ∀ k, L.ch.ownBlock = some k → L.own k = .chg
  loc : ∀ n, 1 ≤ n → n ≤ made → L.own (L.loc n) = .file n
  dat : ∀ n, 1 ≤ n → n ≤ made → ∀ k, (L.dat n).ownBlock = some k → L.own k = .data n
  out : ∀ k, H ≤ k → L.own k = .free

/-- a disk that holds S lies in w as L says -/
structure DiskAt (w : World) (L : Lay) (S : DS) : Prop where
  head : Head w L.b L.nb L.sb L.ch S
  names : MapL w L.nb L.loc S.names
  safe : MapL w L.sb L.loc S.safe
  file : ∀ n, 1 ≤ n → n ≤ S.made → FileAt w (L.loc n) n (L.dat n) (S.file n)
  chg : w.ownsRow 0 78 4 L.ch S.chg.length (S.chg.flatMap (chgCells L.loc))
  tags : Tags L S.made w.heap.size

theorem Tags.lt_b {w : World} {L : Lay} {S : DS} (h : DiskAt w L S) : L.b < w.heap.size := World.block_lt_of_cell? w _ h.head.c0

/-- blocks of a disk are as they were -/
theorem DiskAt.keep {w w' : World} {L : Lay} {S : DS} (h : DiskAt w L S) (hs : w.heap.size ≤ w'.heap.size) (hk : ∀ k, L.own k ≠ .free → w'.heap[k]? = w.heap[k]?) : DiskAt w' L S := by
  have t := h.tags
  refine ⟨h.head.keep (hk _ (by rw [t.b]; intro e; cases e)), h.names.keep (hk _ (by rw [t.nb]; intro e; cases e)), h.safe.keep (hk _ (by rw [t.sb]; intro e; cases e)), fun n h1 h2 => (h.file n h1 h2).keep (hk _ (by rw [t.loc n h1 h2]; intro e; cases e)) (fun k e => hk _ (by rw [t.dat n h1 h2 k e]; intro e; cases e)),
    row_keep h.chg (fun k e => hk _ (by rw [t.ch k e]; intro e; cases e)), ⟨t.b, t.nb, t.sb, t.ch, t.loc, t.dat, fun k hk2 => t.out k (Nat.le_trans hs hk2)⟩⟩
theorem DiskAt.own_lt {w : World} {L : Lay} {S : DS} (h : DiskAt w L S) {k : Nat} (hk : L.own k ≠ .free) : k < w.heap.size := by
  rcases Nat.lt_or_ge k w.heap.size with e | e
  · exact e
  · exact absurd (h.tags.out k e) hk
theorem DiskAt.below {w w' : World} {L : Lay} {S : DS} (h : DiskAt w L S) (hb : Below w.heap.size w w') : DiskAt w' L S :=
  h.keep hb.size fun _ hk => hb.block _ (h.own_lt hk)
theorem DiskAt.chn {T : Tag → Prop} {w w' : World} {L : Lay} {S : DS} (h : DiskAt w L S) (hc : Chn T L.own w w') (hT : ∀ t, T t → t = .free) : DiskAt w' L S :=
  h.keep hc.size fun k hk => hc.block k (h.own_lt hk) fun e => hk (hT _ e)

/-! ### a field is set -/
theorem Head.s0 {w : World} {b nb sb : Nat} {ch : Value} {S : DS} (h : Head w b nb sb ch S) (x : Nat) : Head (w.setCell ⟨b, 0, none⟩ (.map (some x))) b x sb ch S :=
  ⟨World.cell?_setCell_same _ _ _ h.c0, (World.cell?_setCell_other _ _ _ _ (by simp)).trans h.c1, (World.cell?_setCell_other _ _ _ _ (by simp)).trans h.c2, (World.cell?_setCell_other _ _ _ _ (by simp)).trans h.c3, (World.cell?_setCell_other _ _ _ _ (by simp)).trans h.c4, (World.cell?_setCell_other _ _ _ _ (by simp)).trans h.c5, (World.cell?_setCell_other _ _ _ _ (by simp)).trans h.c6, (World.cell?_setCell_other _ _ _ _ (by simp)).trans h.c7, (World.cell?_setCell_other _ _ _ _ (by simp)).trans h.c8, (World.cell?_setCell_other _ _ _ _ (by simp)).trans h.c9, fun o => by rw [frozen_setCell]; exact h.fz o⟩
theorem Head.s1 {w : World} {b nb sb : Nat} {ch : Value} {S : DS} (h : Head w b nb sb ch S) (x : Nat) : Head (w.setCell ⟨b, 1, none⟩ (.map (some x))) b nb x ch S :=
  ⟨(World.cell?_setCell_other _ _ _ _ (by simp)).trans h.c0, World.cell?_setCell_same _ _ _ h.c1, (World.cell?_setCell_other _ _ _ _ (by simp)).trans h.c2, (World.cell?_setCell_other _ _ _ _ (by simp)).trans h.c3, (World.cell?_setCell_other _ _ _ _ (by simp)).trans h.c4, (World.cell?_setCell_other _ _ _ _ (by simp)).trans h.c5, (World.cell?_setCell_other _ _ _ _ (by simp)).trans h.c6, (World.cell?_setCell_other _ _ _ _ (by simp)).trans h.c7, (World.cell?_setCell_other _ _ _ _ (by simp)).trans h.c8, (World.cell?_setCell_other _ _ _ _ (by simp)).trans h.c9, fun o => by rw [frozen_setCell]; exact h.fz o⟩
theorem Head.s2 {w : World} {b nb sb : Nat} {ch : Value} {S : DS} (h : Head w b nb sb ch S) (x : Value) : Head (w.setCell ⟨b, 2, none⟩ (x)) b nb sb x S :=
  ⟨(World.cell?_setCell_other _ _ _ _ (by simp)).trans h.c0, (World.cell?_setCell_other _ _ _ _ (by simp)).trans h.c1, World.cell?_setCell_same _ _ _ h.c2, (World.cell?_setCell_other _ _ _ _ (by simp)).trans h.c3, (World.cell?_setCell_other _ _ _ _ (by simp)).trans h.c4, (World.cell?_setCell_other _ _ _ _ (by simp)).trans h.c5, (World.cell?_setCell_other _ _ _ _ (by simp)).trans h.c6, (World.cell?_setCell_other _ _ _ _ (by simp)).trans h.c7, (World.cell?_setCell_other _ _ _ _ (by simp)).trans h.c8, (World.cell?_setCell_other _ _ _ _ (by simp)).trans h.c9, fun o => by rw [frozen_setCell]; exact h.fz o⟩
theorem Head.s3 {w : World} {b nb sb : Nat} {ch : Value} {S : DS} (h : Head w b nb sb ch S) (x : Nat) : Head (w.setCell ⟨b, 3, none⟩ (.int .i64 (x : Int))) b nb sb ch { S with made := x } :=
  ⟨(World.cell?_setCell_other _ _ _ _ (by simp)).trans h.c0, (World.cell?_setCell_other _ _ _ _ (by simp)).trans h.c1, (World.cell?_setCell_other _ _ _ _ (by simp)).trans h.c2, World.cell?_setCell_same _ _ _ h.c3, (World.cell?_setCell_other _ _ _ _ (by simp)).trans h.c4, (World.cell?_setCell_other _ _ _ _ (by simp)).trans h.c5, (World.cell?_setCell_other _ _ _ _ (by simp)).trans h.c6, (World.cell?_setCell_other _ _ _ _ (by simp)).trans h.c7, (World.cell?_setCell_other _ _ _ _ (by simp)).trans h.c8, (World.cell?_setCell_other _ _ _ _ (by simp)).trans h.c9, fun o => by rw [frozen_setCell]; exact h.fz o⟩
theorem Head.s4 {w : World} {b nb sb : Nat} {ch : Value} {S : DS} (h : Head w b nb sb ch S) (x : Int) : Head (w.setCell ⟨b, 4, none⟩ (.int .i64 x)) b nb sb ch { S with room := x } :=
  ⟨(World.cell?_setCell_other _ _ _ _ (by simp)).trans h.c0, (World.cell?_setCell_other _ _ _ _ (by simp)).trans h.c1, (World.cell?_setCell_other _ _ _ _ (by simp)).trans h.c2, (World.cell?_setCell_other _ _ _ _ (by simp)).trans h.c3, World.cell?_setCell_same _ _ _ h.c4, (World.cell?_setCell_other _ _ _ _ (by simp)).trans h.c5, (World.cell?_setCell_other _ _ _ _ (by simp)).trans h.c6, (World.cell?_setCell_other _ _ _ _ (by simp)).trans h.c7, (World.cell?_setCell_other _ _ _ _ (by simp)).trans h.c8, (World.cell?_setCell_other _ _ _ _ (by simp)).trans h.c9, fun o => by rw [frozen_setCell]; exact h.fz o⟩
theorem Head.s5 {w : World} {b nb sb : Nat} {ch : Value} {S : DS} (h : Head w b nb sb ch S) (x : Int) : Head (w.setCell ⟨b, 5, none⟩ (.int .i64 x)) b nb sb ch { S with used := x } :=
  ⟨(World.cell?_setCell_other _ _ _ _ (by simp)).trans h.c0, (World.cell?_setCell_other _ _ _ _ (by simp)).trans h.c1, (World.cell?_setCell_other _ _ _ _ (by simp)).trans h.c2, (World.cell?_setCell_other _ _ _ _ (by simp)).trans h.c3, (World.cell?_setCell_other _ _ _ _ (by simp)).trans h.c4, World.cell?_setCell_same _ _ _ h.c5, (World.cell?_setCell_other _ _ _ _ (by simp)).trans h.c6, (World.cell?_setCell_other _ _ _ _ (by simp)).trans h.c7, (World.cell?_setCell_other _ _ _ _ (by simp)).trans h.c8, (World.cell?_setCell_other _ _ _ _ (by simp)).trans h.c9, fun o => by rw [frozen_setCell]; exact h.fz o⟩
theorem Head.s6 {w : World} {b nb sb : Nat} {ch : Value} {S : DS} (h : Head w b nb sb ch S) (x : Int) : Head (w.setCell ⟨b, 6, none⟩ (.int .i64 x)) b nb sb ch { S with crash := x } :=
  ⟨(World.cell?_setCell_other _ _ _ _ (by simp)).trans h.c0, (World.cell?_setCell_other _ _ _ _ (by simp)).trans h.c1, (World.cell?_setCell_other _ _ _ _ (by simp)).trans h.c2, (World.cell?_setCell_other _ _ _ _ (by simp)).trans h.c3, (World.cell?_setCell_other _ _ _ _ (by simp)).trans h.c4, (World.cell?_setCell_other _ _ _ _ (by simp)).trans h.c5, World.cell?_setCell_same _ _ _ h.c6, (World.cell?_setCell_other _ _ _ _ (by simp)).trans h.c7, (World.cell?_setCell_other _ _ _ _ (by simp)).trans h.c8, (World.cell?_setCell_other _ _ _ _ (by simp)).trans h.c9, fun o => by rw [frozen_setCell]; exact h.fz o⟩
theorem Head.s7 {w : World} {b nb sb : Nat} {ch : Value} {S : DS} (h : Head w b nb sb ch S) (x : Int) : Head (w.setCell ⟨b, 7, none⟩ (.int .i64 x)) b nb sb ch { S with fail := x } :=
  ⟨(World.cell?_setCell_other _ _ _ _ (by simp)).trans h.c0, (World.cell?_setCell_other _ _ _ _ (by simp)).trans h.c1, (World.cell?_setCell_other _ _ _ _ (by simp)).trans h.c2, (World.cell?_setCell_other _ _ _ _ (by simp)).trans h.c3, (World.cell?_setCell_other _ _ _ _ (by simp)).trans h.c4, (World.cell?_setCell_other _ _ _ _ (by simp)).trans h.c5, (World.cell?_setCell_other _ _ _ _ (by simp)).trans h.c6, World.cell?_setCell_same _ _ _ h.c7, (World.cell?_setCell_other _ _ _ _ (by simp)).trans h.c8, (World.cell?_setCell_other _ _ _ _ (by simp)).trans h.c9, fun o => by rw [frozen_setCell]; exact h.fz o⟩
theorem Head.s8 {w : World} {b nb sb : Nat} {ch : Value} {S : DS} (h : Head w b nb sb ch S) (x : Bool) : Head (w.setCell ⟨b, 8, none⟩ (.bool x)) b nb sb ch { S with dead := x } :=
  ⟨(World.cell?_setCell_other _ _ _ _ (by simp)).trans h.c0, (World.cell?_setCell_other _ _ _ _ (by simp)).trans h.c1, (World.cell?_setCell_other _ _ _ _ (by simp)).trans h.c2, (World.cell?_setCell_other _ _ _ _ (by simp)).trans h.c3, (World.cell?_setCell_other _ _ _ _ (by simp)).trans h.c4, (World.cell?_setCell_other _ _ _ _ (by simp)).trans h.c5, (World.cell?_setCell_other _ _ _ _ (by simp)).trans h.c6, (World.cell?_setCell_other _ _ _ _ (by simp)).trans h.c7, World.cell?_setCell_same _ _ _ h.c8, (World.cell?_setCell_other _ _ _ _ (by simp)).trans h.c9, fun o => by rw [frozen_setCell]; exact h.fz o⟩
theorem Head.s9 {w : World} {b nb sb : Nat} {ch : Value} {S : DS} (h : Head w b nb sb ch S) (x : Nat) : Head (w.setCell ⟨b, 9, none⟩ (.int .i64 (x : Int))) b nb sb ch { S with calls := x } :=
  ⟨(World.cell?_setCell_other _ _ _ _ (by simp)).trans h.c0, (World.cell?_setCell_other _ _ _ _ (by simp)).trans h.c1, (World.cell?_setCell_other _ _ _ _ (by simp)).trans h.c2, (World.cell?_setCell_other _ _ _ _ (by simp)).trans h.c3, (World.cell?_setCell_other _ _ _ _ (by simp)).trans h.c4, (World.cell?_setCell_other _ _ _ _ (by simp)).trans h.c5, (World.cell?_setCell_other _ _ _ _ (by simp)).trans h.c6, (World.cell?_setCell_other _ _ _ _ (by simp)).trans h.c7, (World.cell?_setCell_other _ _ _ _ (by simp)).trans h.c8, World.cell?_setCell_same _ _ _ h.c9, fun o => by rw [frozen_setCell]; exact h.fz o⟩

theorem DiskAt.reHead {w w' : World} {L : Lay} {S S' : DS} (h : DiskAt w L S) (c : Chn (fun t => t = .disk) L.own w w') (hd : Head w' L.b L.nb L.sb L.ch S')
    (e1 : S'.names = S.names) (e2 : S'.safe = S.safe) (e3 : S'.chg = S.chg) (e4 : S'.made = S.made) (e5 : S'.file = S.file) : DiskAt w' L S' := by
  have t := h.tags
  have k : ∀ i, L.own i ≠ .free → L.own i ≠ .disk → w'.heap[i]? = w.heap[i]? := fun i h1 h2 => c.block i (h.own_lt h1) h2
  refine ⟨hd, ?_, ?_, ?_, ?_, ?_⟩
  · rw [e1]; exact h.names.keep (k _ (by rw [t.nb]; intro e; cases e) (by rw [t.nb]; intro e; cases e))
  · rw [e2]; exact h.safe.keep (k _ (by rw [t.sb]; intro e; cases e) (by rw [t.sb]; intro e; cases e))
  · intro n h1 h2
    rw [e4] at h2
    rw [e5]
    exact (h.file n h1 h2).keep (k _ (by rw [t.loc n h1 h2]; intro e; cases e) (by rw [t.loc n h1 h2]; intro e; cases e)) (fun i e => k _ (by rw [t.dat n h1 h2 i e]; intro e; cases e) (by rw [t.dat n h1 h2 i e]; intro e; cases e))
  · rw [e3]; exact row_keep h.chg (fun i e => k _ (by rw [t.ch i e]; intro e; cases e) (by rw [t.ch i e]; intro e; cases e))
  · rw [e4]; exact ⟨t.b, t.nb, t.sb, t.ch, t.loc, t.dat, fun i hi => t.out i (Nat.le_trans c.size hi)⟩

/-- sizes that a machine's numbers hold -/
structure Fine (S : DS) : Prop where
  made : S.made ≤ 1099511627776
  room0 : 0 ≤ S.room
  room1 : S.room ≤ 9223372036854775807
  used0 : 0 ≤ S.used
  used1 : S.used ≤ 1099511627776
  crash0 : -1 ≤ S.crash
  crash1 : S.crash ≤ 9223372036854775807
  fail0 : -1 ≤ S.fail
  fail1 : S.fail ≤ 9223372036854775807
  calls : S.calls ≤ 1099511627776
  chg : S.chg.length ≤ 1099511627776
  names : S.names.length ≤ 1099511627776
  safe : S.safe.length ≤ 1099511627776
  data : ∀ n, 1 ≤ n → n ≤ S.made → (S.file n).data.length ≤ 1099511627776
  nref : ∀ p ∈ S.names, 1 ≤ p.2 ∧ p.2 ≤ S.made
  sref : ∀ p ∈ S.safe, 1 ≤ p.2 ∧ p.2 ≤ S.made
  cref : ∀ c ∈ S.chg, (1 ≤ c.file ∧ c.file ≤ S.made) ∧ (∀ g, c.over = some g → 1 ≤ g ∧ g ≤ S.made) ∧ c.src.size ≤ maxLen ∧ c.dst.size ≤ maxLen

/-- what a call leaves that lets each thing lie where it lay -/
def DiskP (L : Lay) (T : Tag → Prop) (w : World) (r : Value) (S' : DS) (e : Ending) (w' : World) : Prop := e = .returned r ∧ DiskAt w' L S' ∧ Chn T L.own w w'

end Go.Proofs.YtdffpbfllekcgaaGreatDoor
namespace Go.Proofs.YtdffpbfllekcgaaGreatDoor
set_option maxRecDepth 100000
open Go.RowKit M

theorem beginS_keeps (S : DS) : (beginS S).names = S.names ∧ (beginS S).safe = S.safe ∧ (beginS S).chg = S.chg ∧ (beginS S).made = S.made ∧ (beginS S).file = S.file := by
  unfold beginS
  split
  · exact ⟨rfl, rfl, rfl, rfl, rfl⟩
  · split
    · exact ⟨rfl, rfl, rfl, rfl, rfl⟩
    · exact ⟨rfl, rfl, rfl, rfl, rfl⟩

set_option maxHeartbeats 400000 in
theorem dbegin_any (L : Lay) (S : DS) (w : World) (h : DiskAt w L S) (hf : Fine S) :
    Calls Tryz.prog 19 #[.pointer (some ⟨L.b, 0, none⟩)] w (DiskP L (fun t => t = .disk) w (.int .i64 (beginC S)) (beginS S)) := by
  have hb := h.tags.b
  obtain ⟨k1, k2, k3, k4, k5⟩ := beginS_keeps S
  suffices H : Calls Tryz.prog 19 #[.pointer (some ⟨L.b, 0, none⟩)] w (fun e w' => e = .returned (.int .i64 (beginC S)) ∧ Head w' L.b L.nb L.sb L.ch (beginS S) ∧ Chn (fun t => t = .disk) L.own w w') from
    H.mono fun e w' ⟨h1, h2, h3⟩ => ⟨h1, h.reHead h3 h2 k1 k2 k3 k4 k5, h3⟩
  have HH := h.head
  have c6 := HH.c6; have c7 := HH.c7; have c8 := HH.c8; have c9 := HH.c9
  have f6 := HH.fz 6; have f7 := HH.fz 7; have f8 := HH.fz 8; have f9 := HH.fz 9
  have q1 := hf.fail0; have q2 := hf.fail1; have q3 := hf.crash0; have q4 := hf.crash1; have q5 := hf.calls
  have B1 := Box.mk HH; have B2 := Box.mk hb
  unfold beginC beginS
  clear HH hb k1 k2 k3 k4 k5 h hf
  by_cases hz : S.fail = 0
  · rw [if_pos hz, if_pos hz]
    have e1 : (S.fail == 0) = true := by simp [hz]
    clear hz
    go_enter Tryz.func19, Tryz.ntmps19
    go_wp2
    go_ret
    exact ⟨rfl, B1.out.s7 (-1), (Chn.refl _ _ _).setCell (fun _ => B2.out) _⟩
  · rw [if_neg hz, if_neg hz]
    have e1 : (S.fail == 0) = false := by simp [hz]
    clear hz
    by_cases hz : S.crash = 0
    · rw [if_pos hz, if_pos hz]
      have e2 : (S.crash == 0) = true := by simp [hz]
      clear hz
      go_enter Tryz.func19, Tryz.ntmps19
      go_wp2
      go_ret
      exact ⟨rfl, B1.out.s8 true, (Chn.refl _ _ _).setCell (fun _ => B2.out) _⟩
    · rw [if_neg hz, if_neg hz]
      have e2 : (S.crash == 0) = false := by simp [hz]
      clear hz
      go_enter Tryz.func19, Tryz.ntmps19
      go_wp2
      all_goals
        go_ret
        refine ⟨rfl, ?_, (((Chn.refl _ _ _).setCell (fun _ => B2.out) _).setCell (fun _ => B2.out) _).setCell (fun _ => B2.out) _⟩
        first
        | (have m1 : max (S.fail - 1) (-1) = -1 := by omega
           have m2 : max (S.crash - 1) (-1) = -1 := by omega
           rw [m1, m2]; exact ((B1.out.s7 (-1)).s6 (-1)).s9 (S.calls + 1))
        | (have m1 : max (S.fail - 1) (-1) = -1 := by omega
           have m2 : max (S.crash - 1) (-1) = S.crash - 1 := by omega
           rw [m1, m2]; exact ((B1.out.s7 (-1)).s6 (S.crash - 1)).s9 (S.calls + 1))
        | (have m1 : max (S.fail - 1) (-1) = S.fail - 1 := by omega
           have m2 : max (S.crash - 1) (-1) = -1 := by omega
           rw [m1, m2]; exact ((B1.out.s7 (S.fail - 1)).s6 (-1)).s9 (S.calls + 1))
        | (have m1 : max (S.fail - 1) (-1) = S.fail - 1 := by omega
           have m2 : max (S.crash - 1) (-1) = S.crash - 1 := by omega
           rw [m1, m2]; exact ((B1.out.s7 (S.fail - 1)).s6 (S.crash - 1)).s9 (S.calls + 1))

end Go.Proofs.YtdffpbfllekcgaaGreatDoor
namespace Go.Proofs.YtdffpbfllekcgaaGreatDoor
set_option maxRecDepth 100000
open Go.RowKit M

/-- nothing of the old has changed, but what is drawn -/
def Same (r : Value) (w : World) (e : Ending) (w' : World) : Prop := e = .returned r ∧ ∃ n, w' = w.drewN n

theorem dfree_any (L : Lay) (S : DS) (w : World) (h : DiskAt w L S) (hf : Fine S) :
    Calls Tryz.prog 22 #[.pointer (some ⟨L.b, 0, none⟩)] w (Same (.int .i64 S.free) w) := by
  have c4 := h.head.c4; have c5 := h.head.c5
  have q1 := hf.room0; have q2 := hf.room1; have q3 := hf.used0; have q4 := hf.used1
  have e1 : IntKind.i64.wrap (S.room - S.used) = S.room - S.used := IntWalk.i64_in _ (by omega)
  unfold DS.free
  clear h hf
  rcases Int.lt_or_le (S.room - S.used) 0 with hl | hl
  · have e2 : max (S.room - S.used) 0 = 0 := by omega
    rw [e2]
    have e3 : decide (S.room - S.used < 0) = true := by simpa using hl
    clear e2
    go_enter Tryz.func22, Tryz.ntmps22
    go_wp2_with fail
    go_quiet (fail)
    go_wp2
    go_ret
    exact ⟨rfl, _, rfl⟩
  · have e2 : max (S.room - S.used) 0 = S.room - S.used := by omega
    rw [e2]
    have e3 : decide (S.room - S.used < 0) = false := by simpa using hl
    clear e2
    go_enter Tryz.func22, Tryz.ntmps22
    go_wp2_with fail
    go_quiet (fail)
    go_wp2
    go_ret
    exact ⟨rfl, _, rfl⟩

theorem zero_file (w : World) : (zeroValue 50).run Tryz.prog w = .ok (.pointer none) w := by kernel_rfl

theorem find_any (L : Lay) (S : DS) (w : World) (h : DiskAt w L S) (name : ByteArray) (hn : name.size ≤ maxLen) :
    Calls Tryz.prog 21 #[.pointer (some ⟨L.b, 0, none⟩), .string name] w fun e w' =>
      e = .returned (.tuple #[.pointer ((findN S name).map fun n => ⟨L.loc n, 0, none⟩), .int .i64 (findC S name)]) ∧ w = w' := by
  have c8 := h.head.c8; have c0 := h.head.c0
  have lk := h.names.look (P := Tryz.prog) (k := 9) (t := 43) (e := 50) Tryz.underlying9 Tryz.underlying43 (zero_file w) name hn
  unfold findN findC
  clear h
  obtain ⟨dead, hd⟩ : ∃ d, d = S.dead := ⟨_, rfl⟩
  rw [← hd] at c8 ⊢
  clear hd
  cases dead
  · cases hg : kget S.names name with
    | none =>
      rw [hg] at lk
      clear hg
      go_enter Tryz.func21, Tryz.ntmps21
      go_wp2
      go_ret2
      exact ⟨rfl, rfl⟩
    | some n =>
      rw [hg] at lk
      clear hg
      go_enter Tryz.func21, Tryz.ntmps21
      go_wp2
      go_ret2
      exact ⟨rfl, rfl⟩
  · clear lk
    go_enter Tryz.func21, Tryz.ntmps21
    go_wp2
    go_ret2
    exact ⟨rfl, rfl⟩

end Go.Proofs.YtdffpbfllekcgaaGreatDoor
