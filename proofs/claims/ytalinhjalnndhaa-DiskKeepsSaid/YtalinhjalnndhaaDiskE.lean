/- A disk in the heap: one part of it changes. -/
import Derived.Test.YtalinhjalnndhaaDiskD
namespace Go.Proofs.Ytalinhjalnndhaa
set_option maxRecDepth 100000
open Go.RowKit M

theorem Head.re {w : World} {b nb sb : Nat} {ch : Value} {S S' : DS} (h : Head w b nb sb ch S) (e : S'.made = S.made ∧ S'.room = S.room ∧ S'.used = S.used ∧ S'.crash = S.crash ∧ S'.fail = S.fail ∧ S'.dead = S.dead ∧ S'.calls = S.calls) : Head w b nb sb ch S' := by
  obtain ⟨e1, e2, e3, e4, e5, e6, e7⟩ := e
  exact ⟨h.c0, h.c1, h.c2, by rw [e1]; exact h.c3, by rw [e2]; exact h.c4, by rw [e3]; exact h.c5, by rw [e4]; exact h.c6, by rw [e5]; exact h.c7, by rw [e6]; exact h.c8, by rw [e7]; exact h.c9, h.fz⟩
theorem DiskAt.reFile {w w' : World} {L : Lay} {S : DS} (h : DiskAt w L S) {n : Nat} {f : FileS} (c : Chn (fun t => t = .file n) L.own w w') (hf : FileAt w' (L.loc n) n (L.dat n) f) : DiskAt w' L (S.setF n f) := by
  have t := h.tags
  have k : ∀ i, L.own i ≠ .free → L.own i ≠ .file n → w'.heap[i]? = w.heap[i]? := fun i h1 h2 => c.block i (h.own_lt h1) h2
  have kk : ∀ i T, L.own i = T → T ≠ .free → T ≠ .file n → w'.heap[i]? = w.heap[i]? := fun i T e h1 h2 => k i (by rw [e]; exact h1) (by rw [e]; exact h2)
  refine ⟨(h.head.keep (kk _ _ t.b (by simp) (by simp))).re ⟨rfl, rfl, rfl, rfl, rfl, rfl, rfl⟩, h.names.keep (kk _ _ t.nb (by simp) (by simp)), h.safe.keep (kk _ _ t.sb (by simp) (by simp)), fun m h1 h2 => ?_, row_keep h.chg (fun i e => kk _ _ (t.ch i e) (by simp) (by simp)), ⟨t.b, t.nb, t.sb, t.ch, t.loc, t.dat, fun i hi => t.out i (Nat.le_trans c.size hi)⟩⟩
  show FileAt w' (L.loc m) m (L.dat m) (if m = n then f else S.file m)
  by_cases e : m = n
  · rw [if_pos e, e]; exact hf
  · rw [if_neg e]
    exact (h.file m h1 h2).keep (kk _ _ (t.loc m h1 h2) (by simp) (by simpa using e)) (fun i ei => kk _ _ (t.dat m h1 h2 i ei) (by simp) (by simp))

theorem DiskAt.reNames {w w' : World} {L : Lay} {S : DS} (h : DiskAt w L S) {l : KL} (c : Chn (fun t => t = .names) L.own w w') (hm : MapL w' L.nb L.loc l) : DiskAt w' L { S with names := l } := by
  have t := h.tags
  have kk : ∀ i T, L.own i = T → T ≠ .free → T ≠ .names → w'.heap[i]? = w.heap[i]? := fun i T e h1 h2 => c.block i (h.own_lt (by rw [e]; exact h1)) (by rw [e]; exact h2)
  refine ⟨(h.head.keep (kk _ _ t.b (by simp) (by simp))).re ⟨rfl, rfl, rfl, rfl, rfl, rfl, rfl⟩, hm, h.safe.keep (kk _ _ t.sb (by simp) (by simp)), fun m h1 h2 => ?_, row_keep h.chg (fun i e => kk _ _ (t.ch i e) (by simp) (by simp)), ⟨t.b, t.nb, t.sb, t.ch, t.loc, t.dat, fun i hi => t.out i (Nat.le_trans c.size hi)⟩⟩
  exact (h.file m h1 h2).keep (kk _ _ (t.loc m h1 h2) (by simp) (by simp)) (fun i ei => kk _ _ (t.dat m h1 h2 i ei) (by simp) (by simp))

theorem DiskAt.reSafe {w w' : World} {L : Lay} {S : DS} (h : DiskAt w L S) {l : KL} (c : Chn (fun t => t = .safe) L.own w w') (hm : MapL w' L.sb L.loc l) : DiskAt w' L { S with safe := l } := by
  have t := h.tags
  have kk : ∀ i T, L.own i = T → T ≠ .free → T ≠ .safe → w'.heap[i]? = w.heap[i]? := fun i T e h1 h2 => c.block i (h.own_lt (by rw [e]; exact h1)) (by rw [e]; exact h2)
  refine ⟨(h.head.keep (kk _ _ t.b (by simp) (by simp))).re ⟨rfl, rfl, rfl, rfl, rfl, rfl, rfl⟩, h.names.keep (kk _ _ t.nb (by simp) (by simp)), hm, fun m h1 h2 => ?_, row_keep h.chg (fun i e => kk _ _ (t.ch i e) (by simp) (by simp)), ⟨t.b, t.nb, t.sb, t.ch, t.loc, t.dat, fun i hi => t.out i (Nat.le_trans c.size hi)⟩⟩
  exact (h.file m h1 h2).keep (kk _ _ (t.loc m h1 h2) (by simp) (by simp)) (fun i ei => kk _ _ (t.dat m h1 h2 i ei) (by simp) (by simp))

/-- the tag of block g is T from now on -/
def retag (own : Nat → Tag) (v : Value) (T : Tag) : Nat → Tag := fun k => if v.ownBlock = some k then T else own k
theorem retag_old {own : Nat → Tag} {v v' : Value} {T : Tag} {H : Nat} (hv : ∀ k, v.ownBlock = some k → own k = T) (hn : v'.ownBlock = v.ownBlock ∨ ∀ k, v'.ownBlock = some k → H ≤ k) {k : Nat} (hk : k < H) : retag own v' T k = own k := by
  unfold retag
  split
  · rename_i e
    rcases hn with h1 | h1
    · exact (hv k (by rw [← h1]; exact e)).symm
    · exact absurd (h1 k e) (by omega)
  · rfl
theorem retag_out {own : Nat → Tag} {v' : Value} {T : Tag} {H H' : Nat} (ho : ∀ k, H ≤ k → own k = .free) (hs : H ≤ H') (hl : ∀ k, v'.ownBlock = some k → k < H') : ∀ k, H' ≤ k → retag own v' T k = .free := by
  intro k hk
  unfold retag
  rw [if_neg (fun e => by have := hl k e; omega)]
  exact ho k (by omega)

/-- the changes are others, in another row -/
theorem DiskAt.reChg {w w' : World} {L : Lay} {S : DS} (h : DiskAt w L S) {v : Value} {cs : List Chg} (c : Chn (fun t => t = .chg ∨ t = .disk) L.own w w') (hh : Head w' L.b L.nb L.sb v S)
    (hr : w'.ownsRow 0 82 4 v cs.length (cs.flatMap (chgCells L.loc))) (hn : v.ownBlock = L.ch.ownBlock ∨ ∀ k, v.ownBlock = some k → w.heap.size ≤ k) :
    DiskAt w' { L with ch := v, own := retag L.own v .chg } { S with chg := cs } ∧ ∀ k, k < w.heap.size → retag L.own v .chg k = L.own k := by
  have t := h.tags
  have kk : ∀ i T, L.own i = T → T ≠ .free → T ≠ .chg → T ≠ .disk → w'.heap[i]? = w.heap[i]? := fun i T e h1 h2 h3 => c.block i (h.own_lt (by rw [e]; exact h1)) (by rw [e]; rintro (x | x); exact h2 x; exact h3 x)
  have old : ∀ k, k < w.heap.size → retag L.own v .chg k = L.own k := fun k hk => retag_old t.ch hn hk
  have oldT : ∀ i T, L.own i = T → T ≠ .free → retag L.own v .chg i = T := fun i T e h1 => (old i (h.own_lt (by rw [e]; exact h1))).trans e
  refine ⟨⟨hh.re ⟨rfl, rfl, rfl, rfl, rfl, rfl, rfl⟩, h.names.keep (kk _ _ t.nb (by simp) (by simp) (by simp)), h.safe.keep (kk _ _ t.sb (by simp) (by simp) (by simp)), fun m h1 h2 => ?_, hr, ⟨oldT _ _ t.b (by simp), oldT _ _ t.nb (by simp), oldT _ _ t.sb (by simp), ?_, fun n h1 h2 => oldT _ _ (t.loc n h1 h2) (by simp), fun n h1 h2 k e => oldT _ _ (t.dat n h1 h2 k e) (by simp), ?_⟩⟩, old⟩
  · exact (h.file m h1 h2).keep (kk _ _ (t.loc m h1 h2) (by simp) (by simp) (by simp)) (fun i ei => kk _ _ (t.dat m h1 h2 i ei) (by simp) (by simp) (by simp))
  · intro k e
    show retag L.own v .chg k = .chg
    unfold retag
    rw [if_pos e]
  · exact retag_out t.out c.size (fun k e => (hr.lt k e).2)

/-- a file's bytes are others, in another row -/
theorem DiskAt.reData {w w' : World} {L : Lay} {S : DS} (h : DiskAt w L S) {n : Nat} (h1 : 1 ≤ n) (h2 : n ≤ S.made) {v : Value} {f : FileS} (c : Chn (fun t => t = .file n ∨ t = .data n) L.own w w')
    (hf : FileAt w' (L.loc n) n v f) (hn : v.ownBlock = (L.dat n).ownBlock ∨ v.ownBlock = none ∨ ∀ k, v.ownBlock = some k → w.heap.size ≤ k) :
    DiskAt w' { L with dat := fun i => if i = n then v else L.dat i, own := retag L.own v (.data n) } (S.setF n f) ∧ ∀ k, k < w.heap.size → retag L.own v (.data n) k = L.own k := by
  have t := h.tags
  have hn' : v.ownBlock = (L.dat n).ownBlock ∨ ∀ k, v.ownBlock = some k → w.heap.size ≤ k := by
    rcases hn with e | e | e
    · exact .inl e
    · exact .inr (fun k hk => by rw [e] at hk; cases hk)
    · exact .inr e
  have kk : ∀ i T, L.own i = T → T ≠ .free → T ≠ .file n → T ≠ .data n → w'.heap[i]? = w.heap[i]? := fun i T e h1 h2 h3 => c.block i (h.own_lt (by rw [e]; exact h1)) (by rw [e]; rintro (x | x); exact h2 x; exact h3 x)
  have old : ∀ k, k < w.heap.size → retag L.own v (.data n) k = L.own k := fun k hk => retag_old (fun k e => t.dat n h1 h2 k e) hn' hk
  have oldT : ∀ i T, L.own i = T → T ≠ .free → retag L.own v (.data n) i = T := fun i T e h1 => (old i (h.own_lt (by rw [e]; exact h1))).trans e
  refine ⟨⟨(h.head.keep (kk _ _ t.b (by simp) (by simp) (by simp))).re ⟨rfl, rfl, rfl, rfl, rfl, rfl, rfl⟩, h.names.keep (kk _ _ t.nb (by simp) (by simp) (by simp)), h.safe.keep (kk _ _ t.sb (by simp) (by simp) (by simp)), fun m m1 m2 => ?_, row_keep h.chg (fun i e => kk _ _ (t.ch i e) (by simp) (by simp) (by simp)), ⟨oldT _ _ t.b (by simp), oldT _ _ t.nb (by simp), oldT _ _ t.sb (by simp), fun k e => oldT _ _ (t.ch k e) (by simp), fun m m1 m2 => oldT _ _ (t.loc m m1 m2) (by simp), fun m m1 m2 k e => ?_, ?_⟩⟩, old⟩
  · show FileAt w' (L.loc m) m (if m = n then v else L.dat m) (if m = n then f else S.file m)
    by_cases e : m = n
    · rw [if_pos e, if_pos e, e]; exact hf
    · rw [if_neg e, if_neg e]
      exact (h.file m m1 m2).keep (kk _ _ (t.loc m m1 m2) (by simp) (by simpa using e) (by simp)) (fun i ei => kk _ _ (t.dat m m1 m2 i ei) (by simp) (by simp) (by simpa using e))
  · show retag L.own v (.data n) k = .data m
    change (if m = n then v else L.dat m).ownBlock = some k at e
    by_cases em : m = n
    · rw [if_pos em] at e
      unfold retag
      rw [if_pos e, em]
    · rw [if_neg em] at e
      exact oldT _ _ (t.dat m m1 m2 k e) (by simp)
  · exact retag_out t.out c.size (fun k e => (hf.row.lt k e).2)

/-- what a call of the disk leaves -/
def Ran (w : World) (L : Lay) (S' : DS) (w' : World) : Prop :=
  ∃ L', DiskAt w' L' S' ∧ L'.b = L.b ∧ (∀ k, k < w.heap.size → L'.own k = L.own k) ∧ Chn (fun t => t ≠ .free) L.own w w'
def RanP (L : Lay) (w : World) (r : Value) (S' : DS) (e : Ending) (w' : World) : Prop := e = .returned r ∧ Ran w L S' w'

theorem FileAt.setNamed {w : World} {p n : Nat} {v : Value} {f : FileS} (h : FileAt w p n v f) (hne : v.ownBlock ≠ some p) (b : Bool) : FileAt (w.setCell ⟨p, 3, none⟩ (.bool b)) p n v { f with named := b } :=
  ⟨(World.cell?_setCell_other _ _ _ _ (by simp)).trans h.c0, (World.cell?_setCell_other _ _ _ _ (by simp)).trans h.c1, (World.cell?_setCell_other _ _ _ _ (by simp)).trans h.c2, World.cell?_setCell_same _ _ _ h.c3, fun o => by rw [frozen_setCell]; exact h.fz o,
    row_keep h.row fun k e => Below.heap_setCell _ _ _ _ (fun e2 => hne (by rw [e, e2]))⟩
theorem FileAt.setSafe {w : World} {p n : Nat} {v : Value} {f : FileS} (h : FileAt w p n v f) (hne : v.ownBlock ≠ some p) (x : Nat) : FileAt (w.setCell ⟨p, 2, none⟩ (.int .i64 (x : Int))) p n v { f with safe := x } :=
  ⟨(World.cell?_setCell_other _ _ _ _ (by simp)).trans h.c0, (World.cell?_setCell_other _ _ _ _ (by simp)).trans h.c1, World.cell?_setCell_same _ _ _ h.c2, (World.cell?_setCell_other _ _ _ _ (by simp)).trans h.c3, fun o => by rw [frozen_setCell]; exact h.fz o,
    row_keep h.row fun k e => Below.heap_setCell _ _ _ _ (fun e2 => hne (by rw [e, e2]))⟩
theorem DiskAt.apart {w : World} {L : Lay} {S : DS} (h : DiskAt w L S) {n : Nat} (h1 : 1 ≤ n) (h2 : n ≤ S.made) : (L.dat n).ownBlock ≠ some (L.loc n) := by
  intro e
  have a := h.tags.dat n h1 h2 _ e
  rw [h.tags.loc n h1 h2] at a
  cases a
theorem DiskAt.setNamed {w : World} {L : Lay} {S : DS} (h : DiskAt w L S) {n : Nat} (h1 : 1 ≤ n) (h2 : n ≤ S.made) (b : Bool) : DiskAt (w.setCell ⟨L.loc n, 3, none⟩ (.bool b)) L (S.setF n { S.file n with named := b }) :=
  h.reFile ((Chn.refl _ _ _).setCell (fun _ => h.tags.loc n h1 h2) _) ((h.file n h1 h2).setNamed (h.apart h1 h2) b)
theorem DiskAt.setSafe {w : World} {L : Lay} {S : DS} (h : DiskAt w L S) {n : Nat} (h1 : 1 ≤ n) (h2 : n ≤ S.made) (x : Nat) : DiskAt (w.setCell ⟨L.loc n, 2, none⟩ (.int .i64 (x : Int))) L (S.setF n { S.file n with safe := x }) :=
  h.reFile ((Chn.refl _ _ _).setCell (fun _ => h.tags.loc n h1 h2) _) ((h.file n h1 h2).setSafe (h.apart h1 h2) x)
theorem DiskAt.loc_lt {w : World} {L : Lay} {S : DS} (h : DiskAt w L S) {n : Nat} (h1 : 1 ≤ n) (h2 : n ≤ S.made) : L.loc n < w.heap.size := h.own_lt (by rw [h.tags.loc n h1 h2]; simp)
theorem DiskAt.b_lt {w : World} {L : Lay} {S : DS} (h : DiskAt w L S) : L.b < w.heap.size := h.own_lt (by rw [h.tags.b]; simp)
theorem DiskAt.loc_ne {w : World} {L : Lay} {S : DS} (h : DiskAt w L S) {n : Nat} (h1 : 1 ≤ n) (h2 : n ≤ S.made) : L.loc n ≠ L.b := fun e => by
  have a := h.tags.loc n h1 h2
  rw [e, h.tags.b] at a
  cases a

end Go.Proofs.Ytalinhjalnndhaa
