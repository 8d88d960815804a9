/- FlowStraight: the walk. -/
import Derived.Test.YteeicedhnojdaaaFloS
namespace Go.Proofs.Yteeicedhnojdaaa
set_option maxRecDepth 100000
open Go.RowKit

def strI (v u : Nat) : List Ins := [⟨1, 1, 0, false, v, false, 0, false, false, 0, 0, 0, 0⟩, ⟨2, 1, 0, true, 1, false, u, false, false, 0, 0, 0, 0⟩, ⟨13, 2, 0, false, 0, false, 0, false, false, 0, 0, 0, 0⟩, ⟨14, 3, 0, true, 1, false, 0, false, false, 0, 0, 0, 0⟩, ⟨12, 4, 0, true, 1, false, 0, false, false, 0, 0, 0, 0⟩]
def strT (v u : Nat) : TestM := ⟨[([120], 0)], [strI v u], []⟩
def strC (b : Bool) : CtxM := ⟨[(true, 5), (false, 0), (true, 7)], [false, b, false]⟩
theorem zero_le (n : Nat) : (0 : Int) ≤ ((n : Nat) : Int) := Int.natCast_nonneg n
theorem str_good (v u : Nat) : chkTest (strT v u) = 0 := by
  rw [chk0]
  refine ⟨by rfl, by rfl, ?_, by rfl⟩
  rw [thr0]
  intro l hl
  simp only [strT, List.mem_cons, List.not_mem_nil, or_false] at hl
  subst hl
  exact chkLineC (chkMF rfl rfl rfl rfl (Int.le_refl _) (zero_le _)) (chkLineC (chkMF rfl rfl rfl rfl (Int.le_refl _) (zero_le _)) (chkLineC (chkMF rfl rfl rfl rfl (Int.le_refl _) (zero_le _)) (chkLineC (chkMF rfl rfl rfl rfl (Int.le_refl _) (zero_le _)) (chkLineC (chkMF rfl rfl rfl rfl (Int.le_refl _) (zero_le _)) rfl))))
theorem str_ok (v u : Nat) : TestOk (strT v u) := ⟨show (1 : Nat) ≤ _ by decide, show (1 : Nat) ≤ _ by decide, fun l hl => by
  simp only [strT, List.mem_cons, List.not_mem_nil, or_false] at hl
  subst hl
  show (5 : Nat) ≤ _
  decide, show (0 : Nat) ≤ _ by decide⟩
theorem str_name (v u : Nat) : ∀ l ∈ (strT v u).locs, l.1.length ≤ 1000000000 := fun l hl => by
  simp only [strT, List.mem_cons, List.not_mem_nil, or_false] at hl
  subst hl
  decide
theorem str_num (v u : Nat) (hv : v < 18446744073709551616) (hu : u < 18446744073709551616) : NumOk (strT v u) := by
  intro l hl x hx
  simp only [strT, List.mem_cons, List.not_mem_nil, or_false] at hl
  subst hl
  simp only [strI, List.mem_cons, List.not_mem_nil, or_false] at hx
  rcases hx with rfl | rfl | rfl | rfl | rfl
  · exact ⟨⟨by dsimp only; omega, by dsimp only; omega⟩, ⟨by dsimp only; omega, by dsimp only; omega⟩⟩
  · exact ⟨⟨by dsimp only; omega, by dsimp only; omega⟩, ⟨by dsimp only; omega, by dsimp only; omega⟩⟩
  · decide
  · decide
  · decide
theorem str_ctx (b : Bool) : CtxOk (strC b) := by
  cases b <;> exact ⟨by decide, by decide, by decide⟩
def strS (v u : Nat) : Nat := (v + u) % 18446744073709551616
def strZ (v u : Nat) : Nat := (strS v u + 7) % 18446744073709551616
theorem str_n (v u : Nat) : memT (strT v u).thr = 3 := rfl
def strF (v u : Nat) (b : Bool) : FlM := ⟨[1, if b then 1 else 2, 1], [(false, 0), if b then (true, strS v u) else (false, 0), (true, strZ v u)], [0, 1, 0], [0, 0, 0], [0, 0, 0], [0, 0, 0], [0], [[(true, 0), (true, strS v u), (true, 5), (true, if b then 0 else 1), (true, 7), (true, 0), (true, 0), (true, 0)]], true⟩
theorem str_flow (v u : Nat) (b : Bool) : flowM (strC b) (strT v u).thr = strF v u b := by
  cases b <;> kernel_rfl
theorem str_cells {W : World} {K : WkB} {v u : Nat} {b : Bool} (h : FlIn W K 3 1 (strF v u b)) : W.cell? ⟨K.fb, 0, none⟩ = some (.slice (some ⟨K.st, 0, none⟩) 3 3) ∧ W.cell? ⟨K.fb, 1, none⟩ = some (.slice (some ⟨K.wr, 0, none⟩) 3 3) ∧ W.cell? ⟨K.fb, 2, none⟩ = some (.slice (some ⟨K.pr, 0, none⟩) 3 3) ∧ W.cell? ⟨K.fb, 7, none⟩ = some (.slice (some ⟨K.rg, 0, none⟩) 1 1) ∧ W.cell? ⟨K.fb, 8, none⟩ = some (.bool true)
    ∧ W.cell? ⟨K.st, 1, none⟩ = some (.int .i64 (if b then 1 else 2 : Nat)) ∧ W.cell? ⟨K.wr, 2, none⟩ = some (.bool b) ∧ W.cell? ⟨K.wr, 3, none⟩ = some (.int .u64 (if b then strS v u else 0 : Nat)) ∧ W.cell? ⟨K.wr, 5, none⟩ = some (.int .u64 (strZ v u : Int)) ∧ W.cell? ⟨K.pr, 1, none⟩ = some (.int .i64 1)
    ∧ W.cell? ⟨K.rg, 5, none⟩ = some (.int .u64 5) ∧ W.cell? ⟨K.rg, 9, none⟩ = some (.int .u64 7) ∧ W.cell? ⟨K.rg, 7, none⟩ = some (.int .u64 (if b then 0 else 1 : Nat)) := by
  obtain ⟨a, b1, c, d, _, _, _, _, e⟩ := h
  refine ⟨?_, ?_, ?_, ?_, ?_, ?_, ?_, ?_, ?_, ?_, ?_, ?_, ?_⟩
  all_goals first | rw [cOf a] | rw [cOf b1] | rw [cOf c] | rw [cOf d] | rw [cOf e]
  all_goals cases b <;> rfl
set_option maxHeartbeats 12800000 in
theorem flowStraight_walk (v u : Nat) (hv : v < 18446744073709551616) (hu : u < 18446744073709551616) (b : Bool) (w : World) :
    Calls Try.prog 6 #[.int .u64 (v : Int), .int .u64 (u : Int), .bool b] w fun e w' => e = .returned (.bool true) ∧ Below w.heap.size w w' := by
  have CF := Bx.mk (fun tb rv wv W (h : TestAt W tb (strT v u)) hr hw => by
    have := flowOf_any tb (strT v u) (str_ok v u) (str_name v u) (str_good v u) (str_num v u hv hu) (strC b) (str_ctx b) rv wv W h hr hw
    rw [str_flow v u b] at this
    exact this)
  have CA := Bx.mk awake13_any
  have hs1 : IntKind.u64.wrap ((v : Int) + (u : Int)) = ((strS v u : Nat) : Int) := u64add
  have hs2 : IntKind.u64.wrap ((strS v u : Int) + 7) = ((strZ v u : Nat) : Int) := by
    have := u64add (a := strS v u) (b := 7)
    simpa [strZ] using this
  obtain ⟨o1, ho1⟩ : ∃ o1, o1 = w.alloc (.cells #[.bool true, .int .u64 1] 81) := ⟨_, rfl⟩
  obtain ⟨E, hE⟩ : ∃ E, E = (((o1.alloc (.cells #[.string ⟨#[120]⟩, .int .u64 0] 83)).alloc (.cells #[.int .i64 1, .int .i64 1, .int .i64 0, .bool false, .int .u64 (v : Int), .bool false, .int .u64 0, .bool false, .bool false, .int .i64 0, .int .i64 0, .int .i64 0, .int .i64 0, .int .i64 2, .int .i64 1, .int .i64 0, .bool true, .int .u64 1, .bool false, .int .u64 (u : Int), .bool false, .bool false, .int .i64 0, .int .i64 0, .int .i64 0, .int .i64 0, .int .i64 13, .int .i64 2, .int .i64 0, .bool false, .int .u64 0, .bool false, .int .u64 0, .bool false, .bool false, .int .i64 0, .int .i64 0, .int .i64 0, .int .i64 0, .int .i64 14, .int .i64 3, .int .i64 0, .bool true, .int .u64 1, .bool false, .int .u64 0, .bool false, .bool false, .int .i64 0, .int .i64 0, .int .i64 0, .int .i64 0, .int .i64 12, .int .i64 4, .int .i64 0, .bool true, .int .u64 1, .bool false, .int .u64 0, .bool false, .bool false, .int .i64 0, .int .i64 0, .int .i64 0, .int .i64 0] 85)).alloc (.cells #[.slice (some ⟨o1.heap.size + 1, 0, none⟩) 5 5] 86)).alloc (.cells #[.slice (some ⟨o1.heap.size, 0, none⟩) 1 1, .slice (some ⟨o1.heap.size + 1 + 1, 0, none⟩) 1 1, .slice none 0 0] 26) := ⟨_, rfl⟩
  have T0 : TestAt E (o1.heap.size + 1 + 1 + 1) (strT v u) := by rw [hE]; exact test1 o1 _ rfl _ _ 1 5 _ (strI v u) _ _ _ _ rfl rfl rfl rfl
  have B0 : Below w.heap.size w E := by rw [hE]; exact bel (bel (bel (bel (by rw [ho1]; exact aset _ _) (aset _ _)) (aset _ _)) (aset _ _)) (aset _ _)
  have B1 : Below E.heap.size E ((E.alloc (.cells #[.bool true, .int .u64 5, .bool false, .int .u64 0, .bool true, .int .u64 7] 74)).alloc (.cells #[.bool false, .bool b, .bool false] 4)) := bel (aset _ _) (aset _ _)
  have S1 : SlIn ((E.alloc (.cells #[.bool true, .int .u64 5, .bool false, .int .u64 0, .bool true, .int .u64 7] 74)).alloc (.cells #[.bool false, .bool b, .bool false] 4)) (.slice (some ⟨E.heap.size, 0, none⟩) 3 3) 2 3 (nV (strC b).reads) := (slNewF E #[.bool true, .int .u64 5, .bool false, .int .u64 0, .bool true, .int .u64 7] 74 2 3 rfl).below (aset _ _)
  have S2 : SlIn ((E.alloc (.cells #[.bool true, .int .u64 5, .bool false, .int .u64 0, .bool true, .int .u64 7] 74)).alloc (.cells #[.bool false, .bool b, .bool false] 4)) (.slice (some ⟨E.heap.size + 1, 0, none⟩) 3 3) 1 3 ((strC b).works.map Value.bool) := by
    have := slNewF (E.alloc (.cells #[.bool true, .int .u64 5, .bool false, .int .u64 0, .bool true, .int .u64 7] 74)) #[.bool false, .bool b, .bool false] 4 1 3 rfl
    simpa [strC] using this
  have ez : o1.heap.size = w.heap.size + 1 := by rw [ho1]; simp
  have HT := Bx.mk T0; have HB0 := Bx.mk B0; have HS1 := Bx.mk S1; have HS2 := Bx.mk S2; have HB1 := Bx.mk B1
  rw [ez] at hE HT
  rw [ho1] at hE
  clear T0 B0 S1 S2 B1 ez ho1
  go_enter Try.func6, Try.ntmps6
  go_upto_region 3 with fail
  rw [← hE]
  clear hE
  go_upto_region 4 with (go_at_call 14; ((with_reducible refine (CF.out _ _ _ _ (HT.out.below HB1.out) HS1.out HS2.out).mono ?_); rintro e w5 ⟨K1, rfl, f1, _, b5⟩; have F1 := Bx.mk f1; have B5 := Bx.mk (bel HB0.out (bel HB1.out b5)); clear b5))
  obtain ⟨c0, c1, c2, c3, c4, c5, c6, c7, c8, c9, c10, c11, c12⟩ := str_cells F1.out
  clear f1
  generalize strS v u = s at *
  generalize strZ v u = z at *
  cases b
  all_goals
    go_wp2_with (go_at_call 8; ((with_reducible refine (CA.out _).mono ?_); rintro e w6 ⟨rfl, b6⟩; have c0 := cBel c0 b6; have c1 := cBel c1 b6; have c3 := cBel c3 b6; have c5 := cBel c5 b6; have c6 := cBel c6 b6; have c7 := cBel c7 b6; have c12 := cBel c12 b6; have B6 := Bx.mk (bel B5.out b6); clear b6))
    go_ret
    exact ⟨rfl, B6.out⟩
end Go.Proofs.Yteeicedhnojdaaa
