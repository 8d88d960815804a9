/- Contracts of the litmus rows: Passing. -/
import Derived.Test.YtnlcmdgjoikljaaDoorLitU
namespace Go.Proofs.YtnlcmdgjoikljaaDoor
set_option maxRecDepth 100000
open Go.RowKit

def one1 (op rd loc : Int) (an : Int) : Ins := ⟨op, rd, loc, false, an, false, 0, false, false, 0, 0, 0, 0⟩
def passM : TestM := ⟨[([120], 0), ([121], 0)], [[one1 10 0 0 1, one1 10 0 1 1], [one1 9 0 1 0, one1 9 1 0 0]], []⟩
theorem slNew (w : World) (C : Array Value) (ty : TypeId) (z n : Nat) (h : C.size = n * z) : SlIn (w.alloc (.cells C ty)) (.slice (some ⟨w.heap.size, 0, none⟩) n n) z n C.toList :=
  ⟨by simpa using h, .inr ⟨_, _, _, rfl, by simp, fun i u hu => by rw [Nat.zero_add, cOf (heap_alloc_new _ _)]; simpa using hu⟩⟩
theorem pass_in (w : World) (n : Nat) (hn : w.heap.size = n) (t3 t4 t6 : TypeId) : TestIn ((((w.alloc (.cells #[.string ⟨#[120]⟩, .int .u64 0, .string ⟨#[121]⟩, .int .u64 0] t3)).alloc (.cells #[.int .i64 10, .int .i64 0, .int .i64 0, .bool false, .int .u64 1, .bool false, .int .u64 0, .bool false, .bool false, .int .i64 0, .int .i64 0, .int .i64 0, .int .i64 0, .int .i64 10, .int .i64 0, .int .i64 1, .bool false, .int .u64 1, .bool false, .int .u64 0, .bool false, .bool false, .int .i64 0, .int .i64 0, .int .i64 0, .int .i64 0] t4)).alloc (.cells #[.int .i64 9, .int .i64 0, .int .i64 1, .bool false, .int .u64 0, .bool false, .int .u64 0, .bool false, .bool false, .int .i64 0, .int .i64 0, .int .i64 0, .int .i64 0, .int .i64 9, .int .i64 1, .int .i64 0, .bool false, .int .u64 0, .bool false, .int .u64 0, .bool false, .bool false, .int .i64 0, .int .i64 0, .int .i64 0, .int .i64 0] t4)).alloc (.cells #[.slice (some ⟨n + 1, 0, none⟩) 2 2, .slice (some ⟨n + 1 + 1, 0, none⟩) 2 2] t6)) (.slice (some ⟨n, 0, none⟩) 2 2) (.slice (some ⟨n + 1 + 1 + 1, 0, none⟩) 2 2) (.slice none 0 0) passM := by
  subst hn
  have a := slNew w #[.string ⟨#[120]⟩, .int .u64 0, .string ⟨#[121]⟩, .int .u64 0] t3 2 2 rfl
  have b := slNew (w.alloc (.cells #[.string ⟨#[120]⟩, .int .u64 0, .string ⟨#[121]⟩, .int .u64 0] t3)) #[.int .i64 10, .int .i64 0, .int .i64 0, .bool false, .int .u64 1, .bool false, .int .u64 0, .bool false, .bool false, .int .i64 0, .int .i64 0, .int .i64 0, .int .i64 0, .int .i64 10, .int .i64 0, .int .i64 1, .bool false, .int .u64 1, .bool false, .int .u64 0, .bool false, .bool false, .int .i64 0, .int .i64 0, .int .i64 0, .int .i64 0] t4 13 2 rfl
  have c := slNew ((w.alloc (.cells #[.string ⟨#[120]⟩, .int .u64 0, .string ⟨#[121]⟩, .int .u64 0] t3)).alloc (.cells #[.int .i64 10, .int .i64 0, .int .i64 0, .bool false, .int .u64 1, .bool false, .int .u64 0, .bool false, .bool false, .int .i64 0, .int .i64 0, .int .i64 0, .int .i64 0, .int .i64 10, .int .i64 0, .int .i64 1, .bool false, .int .u64 1, .bool false, .int .u64 0, .bool false, .bool false, .int .i64 0, .int .i64 0, .int .i64 0, .int .i64 0] t4)) #[.int .i64 9, .int .i64 0, .int .i64 1, .bool false, .int .u64 0, .bool false, .int .u64 0, .bool false, .bool false, .int .i64 0, .int .i64 0, .int .i64 0, .int .i64 0, .int .i64 9, .int .i64 1, .int .i64 0, .bool false, .int .u64 0, .bool false, .int .u64 0, .bool false, .bool false, .int .i64 0, .int .i64 0, .int .i64 0, .int .i64 0] t4 13 2 rfl
  have d := slNew (((w.alloc (.cells #[.string ⟨#[120]⟩, .int .u64 0, .string ⟨#[121]⟩, .int .u64 0] t3)).alloc (.cells #[.int .i64 10, .int .i64 0, .int .i64 0, .bool false, .int .u64 1, .bool false, .int .u64 0, .bool false, .bool false, .int .i64 0, .int .i64 0, .int .i64 0, .int .i64 0, .int .i64 10, .int .i64 0, .int .i64 1, .bool false, .int .u64 1, .bool false, .int .u64 0, .bool false, .bool false, .int .i64 0, .int .i64 0, .int .i64 0, .int .i64 0] t4)).alloc (.cells #[.int .i64 9, .int .i64 0, .int .i64 1, .bool false, .int .u64 0, .bool false, .int .u64 0, .bool false, .bool false, .int .i64 0, .int .i64 0, .int .i64 0, .int .i64 0, .int .i64 9, .int .i64 1, .int .i64 0, .bool false, .int .u64 0, .bool false, .int .u64 0, .bool false, .bool false, .int .i64 0, .int .i64 0, .int .i64 0, .int .i64 0] t4)) #[.slice (some ⟨w.heap.size + 1, 0, none⟩) 2 2, .slice (some ⟨w.heap.size + 1 + 1, 0, none⟩) 2 2] t6 1 2 rfl
  have e1 : (w.alloc (.cells #[.string ⟨#[120]⟩, .int .u64 0, .string ⟨#[121]⟩, .int .u64 0] t3)).heap.size = w.heap.size + 1 := by simp
  generalize hw1 : w.alloc (.cells #[.string ⟨#[120]⟩, .int .u64 0, .string ⟨#[121]⟩, .int .u64 0] t3) = w1 at *
  have e2 : (w1.alloc (.cells #[.int .i64 10, .int .i64 0, .int .i64 0, .bool false, .int .u64 1, .bool false, .int .u64 0, .bool false, .bool false, .int .i64 0, .int .i64 0, .int .i64 0, .int .i64 0, .int .i64 10, .int .i64 0, .int .i64 1, .bool false, .int .u64 1, .bool false, .int .u64 0, .bool false, .bool false, .int .i64 0, .int .i64 0, .int .i64 0, .int .i64 0] t4)).heap.size = w1.heap.size + 1 := by simp
  have s2 := aset w1 (.cells #[.int .i64 10, .int .i64 0, .int .i64 0, .bool false, .int .u64 1, .bool false, .int .u64 0, .bool false, .bool false, .int .i64 0, .int .i64 0, .int .i64 0, .int .i64 0, .int .i64 10, .int .i64 0, .int .i64 1, .bool false, .int .u64 1, .bool false, .int .u64 0, .bool false, .bool false, .int .i64 0, .int .i64 0, .int .i64 0, .int .i64 0] t4)
  generalize hw2 : w1.alloc (.cells #[.int .i64 10, .int .i64 0, .int .i64 0, .bool false, .int .u64 1, .bool false, .int .u64 0, .bool false, .bool false, .int .i64 0, .int .i64 0, .int .i64 0, .int .i64 0, .int .i64 10, .int .i64 0, .int .i64 1, .bool false, .int .u64 1, .bool false, .int .u64 0, .bool false, .bool false, .int .i64 0, .int .i64 0, .int .i64 0, .int .i64 0] t4) = w2 at *
  have e3 : (w2.alloc (.cells #[.int .i64 9, .int .i64 0, .int .i64 1, .bool false, .int .u64 0, .bool false, .int .u64 0, .bool false, .bool false, .int .i64 0, .int .i64 0, .int .i64 0, .int .i64 0, .int .i64 9, .int .i64 1, .int .i64 0, .bool false, .int .u64 0, .bool false, .int .u64 0, .bool false, .bool false, .int .i64 0, .int .i64 0, .int .i64 0, .int .i64 0] t4)).heap.size = w2.heap.size + 1 := by simp
  have s3 := aset w2 (.cells #[.int .i64 9, .int .i64 0, .int .i64 1, .bool false, .int .u64 0, .bool false, .int .u64 0, .bool false, .bool false, .int .i64 0, .int .i64 0, .int .i64 0, .int .i64 0, .int .i64 9, .int .i64 1, .int .i64 0, .bool false, .int .u64 0, .bool false, .int .u64 0, .bool false, .bool false, .int .i64 0, .int .i64 0, .int .i64 0, .int .i64 0] t4)
  generalize hw3 : w2.alloc (.cells #[.int .i64 9, .int .i64 0, .int .i64 1, .bool false, .int .u64 0, .bool false, .int .u64 0, .bool false, .bool false, .int .i64 0, .int .i64 0, .int .i64 0, .int .i64 0, .int .i64 9, .int .i64 1, .int .i64 0, .bool false, .int .u64 0, .bool false, .int .u64 0, .bool false, .bool false, .int .i64 0, .int .i64 0, .int .i64 0, .int .i64 0] t4) = w3 at *
  have s4 := aset w3 (.cells #[.slice (some ⟨w.heap.size + 1, 0, none⟩) 2 2, .slice (some ⟨w.heap.size + 1 + 1, 0, none⟩) 2 2] t6)
  generalize hw4 : w3.alloc (.cells #[.slice (some ⟨w.heap.size + 1, 0, none⟩) 2 2, .slice (some ⟨w.heap.size + 1 + 1, 0, none⟩) 2 2] t6) = w4 at *
  rw [e3, e2, e1] at d
  rw [e2, e1] at c
  rw [e1] at b
  refine ⟨a.below (bel (bel s2 s3) s4), ⟨_, rfl, d, ?_⟩, ⟨rfl, .inl ⟨rfl, _, _, rfl⟩⟩⟩
  intro i v hv
  match i, hv with
  | 0, hv => simp at hv; subst hv; exact ⟨_, rfl, b.below (bel s3 s4)⟩
  | 1, hv => simp at hv; subst hv; exact ⟨_, rfl, c.below s4⟩
  | i + 2, hv => simp at hv
set_option maxHeartbeats 3200000 in
theorem passing_any (w : World) :
    Calls Tryd.prog 20 #[] w fun e w' => (∃ lv tv av, e = .returned (.agg #[lv, tv, av]) ∧ TestIn w' lv tv av passM) ∧ Below w.heap.size w w' := by
  go_enter Tryd.func20, Tryd.ntmps20
  go_wp2_with fail
  refine bodyPost_ret (v := .agg #[.slice (some ⟨w.heap.size + 1 + 1, 0, none⟩) 2 2, .slice (some ⟨w.heap.size + 1 + 1 + 1 + 1 + 1, 0, none⟩) 2 2, .slice none 0 0]) (by simp [results, go_sem]) rfl ⟨⟨_, _, _, rfl, ?_⟩, ?_⟩
  · exact pass_in _ _ (by simp) _ _ _
  · exact bel (bel (bel (bel (bel (aset _ _) (aset _ _)) (aset _ _)) (aset _ _)) (aset _ _)) (aset _ _)
end Go.Proofs.YtnlcmdgjoikljaaDoor
