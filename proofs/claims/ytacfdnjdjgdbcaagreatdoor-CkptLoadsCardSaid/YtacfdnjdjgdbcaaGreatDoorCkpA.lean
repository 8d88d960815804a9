/- Tables beside a disk: what a disk's calls leave alone; Same of any table and any list. -/
import Derived.Test.YtacfdnjdjgdbcaaGreatDoorTj
import Derived.Test.YtacfdnjdjgdbcaaGreatDoorHu
import Derived.BigQuiet
namespace Go.Proofs.YtacfdnjdjgdbcaaGreatDoor
set_option maxRecDepth 100000
open Go.RowKit Go.Maps Go.Sort M

theorem Tab.keepF {F : Nat → Prop} {w w' : World} {b : Nat} {mo : Option Nat} {l : List Ent} (h : Tab w b mo l) (hb : F b) (hm : ∀ m, mo = some m → F m) (k : KeepF F w w') : Tab w' b mo l :=
  h.keep (k.block b hb h.lt) (fun m e => k.block m (hm m e) (h.mapd m e).2.lt)
theorem RefIn.keepF {F : Nat → Prop} {w w' : World} {v : Value} {R : List Ent} (h : RefIn w v R) (hF : 0 < R.length → ∀ k, v.ownBlock = some k → F k) (k : KeepF F w w') : RefIn w' v R :=
  ⟨h.val, fun h0 => by
    obtain ⟨g, c, e, hg, hc⟩ := h.cells h0
    have fg : F g := hF h0 g (by rw [e]; rfl)
    exact ⟨g, c, e, Nat.lt_of_lt_of_le hg k.size, fun i x hx => ⟨(k.cell fg hg).trans (hc i x hx).1, (k.cell fg hg).trans (hc i x hx).2⟩⟩⟩
def KF (F : Nat → Prop) : Prop := F 0
theorem ktab_keepF {F : Nat → Prop} {w w' : World} (h : KTab w) (hF : KF F) (k : KeepF F w w') : KTab w' := fun t ht => by
  have hc := h t ht
  rw [k.cell hF (World.block_lt_of_cell? w _ hc)]; exact hc
theorem ktab_lt {w : World} (h : KTab w) : 0 < w.heap.size := World.block_lt_of_cell? w _ (h 0 (by omega))

/-- what Same tells -/
def SameP (k : Int) (w : World) (e : Ending) (w' : World) : Prop := e = .returned (.int .i64 k) ∧ Below w.heap.size w w'
theorem same_yes (b : Nat) (mo : Option Nat) (l R : List Ent) (v : Value) (w : World) (h : Tab w b mo l) (hR : RefIn w v R) (hp : R.Perm l) (hr : Rising R) (hRl : R.length ≤ 100) :
    Calls Tryz.prog 11 #[.pointer (some ⟨b, 0, none⟩), v] w (SameP 0 w) := same_any b mo l R v w h hR hp hr hRl
end Go.Proofs.YtacfdnjdjgdbcaaGreatDoor
