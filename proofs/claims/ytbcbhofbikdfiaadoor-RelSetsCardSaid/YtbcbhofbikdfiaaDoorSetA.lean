/- The reference's sets: in, Members. -/
import Derived.Test.YtbcbhofbikdfiaaDoorPaiK
namespace Go.Proofs.YtbcbhofbikdfiaaDoor
set_option maxRecDepth 100000
open Go.RowKit M

/-- numbers in a slice -/
def IIn (w : World) (v : Value) (l : List Nat) : Prop := SlIn w v 1 l.length (ints l)
theorem IIn.below {w w' : World} {v : Value} {l : List Nat} (h : IIn w v l) (hb : Below w.heap.size w w') : IIn w' v l := SlIn.below h hb
theorem IIn.at {w : World} {v : Value} {l : List Nat} (h : IIn w v l) {k a : Nat} (hk : l[k]? = some a) : ∃ b off c, v = .slice (some ⟨b, off, none⟩) l.length c ∧ b < w.heap.size ∧ w.cell? ⟨b, off + k, none⟩ = some (.int .i64 (a : Int)) := by
  have hkl := (List.getElem?_eq_some_iff.1 hk).1
  obtain ⟨b, off, c, hv, hbl, hcl⟩ := SlIn.at h (by omega)
  exact ⟨b, off, c, hv, hbl, hcl k _ (by simp [ints, hk])⟩
theorem info_one : (Tryd.prog.info? 3).map (fun i => (i.zero, i.size, i.bytes)) = some (some (.int .i64 0), 1, 8) := by kernel_rfl
theorem ints_app (a b : List Nat) : ints a ++ ints b = ints (a ++ b) := by simp [ints]
theorem news_one {w : World} {b : Nat} {x : Int} (h : w.heap[b]? = some (.cells #[.int .i64 x] 3 (0, 0))) : SlIn w (.slice (some ⟨b, 0, none⟩) 1 1) 1 1 [.int .i64 x] :=
  ⟨rfl, .inr ⟨b, 0, 1, rfl, (Array.getElem?_eq_some_iff.1 h).1, fun i u hu => by rw [Nat.zero_add, cOf' h]; simpa using hu⟩⟩

theorem mod_bool (x : Nat) : ((x : Int) % 2 == 1) = decide (x % 2 = 1) := by
  by_cases h : x % 2 = 1
  · have : (x : Int) % 2 = 1 := by omega
    simp [h, this]
  · have : (x : Int) % 2 = 0 := by omega
    simp [h, this]
set_option maxRecDepth 100000 in
set_option maxHeartbeats 2000000 in
theorem in_any (s a : Nat) (hs : s < 65536) (ha : a < 16) (w : World) :
    Calls Tryd.prog 41 #[.int .u16 (s : Int), .int .i64 (a : Int)] w fun e w' => e = .returned (.bool (s.testBit a)) ∧ w = w' := by
  have hb : s.testBit a = decide (s / 2 ^ a % 2 = 1) := Nat.testBit_eq_decide_div_mod_eq
  rw [hb]
  clear hb
  go_enter Tryd.func41, Tryd.ntmps41
  go_wp2_with fail
  go_loopw [0, 5] (fun x iv wr => ∃ i : Nat, i ≤ a ∧ iv = .int .i64 (i : Int) ∧ x = .int .u16 ((s / 2 ^ i : Nat) : Int) ∧ wr = w) (fun _ iv _ => a - (intOf iv).toNat)
  case atStart => exact ⟨0, by omega, rfl, by simp, rfl⟩
  case round =>
    obtain ⟨i, hi, rfl, rfl, rfl⟩ := hrel
    have hle : s / 2 ^ i ≤ s := Nat.div_le_self _ _
    by_cases hlt : i < a
    · have hd : s / 2 ^ (i + 1) = s / 2 ^ i / 2 := by rw [Nat.pow_succ, Nat.div_div_eq_div_mul]
      have HD := Box.mk hd
      clear hd
      generalize s / 2 ^ i = x at *
      go_wp2_with fail
      go_roundw
      case rel => exact ⟨i + 1, by omega, by go_num, by rw [HD.out]; go_num, trivial⟩
      case measure => simp [intOf]; omega
    · obtain rfl : i = a := by omega
      have i5 : ((i : Int) < (i : Int)) = False := by simp
      clear hlt
      generalize hx : s / 2 ^ i = x at *
      have HX := Box.mk hx
      clear hx
      go_wp2_with fail
      go_ret
      refine ⟨?_, rfl⟩
      show Ending.returned (Value.bool ((x : Int) % 2 == 1)) = _
      rw [mod_bool, HX.out]

set_option maxRecDepth 100000 in
set_option maxHeartbeats 4000000 in
theorem members_own (s : Nat) (hs : s < 65536) (w : World) :
    Calls Tryd.prog 32 #[.int .u16 (s : Int)] w fun e w' => ∃ v, e = .returned v ∧ IIn w' v (R.els s) ∧ Below w.heap.size w w' ∧ ∀ k, v.ownBlock = some k → w.heap.size ≤ k := by
  have R0 := Box.mk (newRow w w.heap.size 3 1 (Nat.le_refl _))
  have BB := Box.mk (aset w (.cells #[] 3))
  go_enter Tryd.func32, Tryd.ntmps32
  go_wp2_with fail
  generalize (w.alloc (.cells #[] 3)) = W at *
  go_loopw [3, 4] (fun o av wr => ∃ (a g n cap : Nat) (F : List Nat), a ≤ 16 ∧ n ≤ a ∧ av = .int .i64 (a : Int) ∧ o = .slice (some ⟨g, 0, none⟩) n cap ∧ F.length = n ∧ Box (F = (List.range a).filter fun b => s.testBit b) ∧ Box (wr.ownsRow w.heap.size 3 1 (.slice (some ⟨g, 0, none⟩) n cap) n (ints F)) ∧ Box (Below w.heap.size w wr)) (fun _ av _ => 16 - (intOf av).toNat)
  case atStart => exact ⟨0, _, 0, 0, [], by omega, by omega, rfl, rfl, rfl, ⟨rfl⟩, R0, BB⟩
  case round =>
    clear R0 BB
    obtain ⟨a, g, n, cap, F, ha, hn, rfl, rfl, hF, HF, ROW, BB⟩ := hrel
    by_cases hlt : a < 16
    · have i2 : (a : Int) < 16 := by omega
      have hc := fun w => in_any s a hs hlt w
      have hnx : (List.range (a + 1)).filter (fun b => s.testBit b) = F ++ (if s.testBit a then [a] else []) := by
        rw [List.range_succ, List.filter_append, HF.out]
        congr 1
        cases h : s.testBit a <;> simp [h]
      have l0 := BB.out.size
      cases hq : s.testBit a with
      | true =>
        rw [hq] at hc hnx
        have HC := Box.mk hc; have HNX := Box.mk hnx
        clear hc hnx hq
        go_wp2_with (first
          | (go_at_call 41; ((with_reducible refine (HC.out _).mono ?_); rintro e w' ⟨rfl, rfl⟩))
          | (at_builtin; refine wpList_append_rows w.heap.size (by simp; omega) rfl (.tmp 13) (.tmp 15) 45 3 1 8 (.int .i64 0) (by rfl) Tryd.underlying45 info_one rfl (by decide) (by decide) g n cap (ints F) (by rfl) (ROW.out.alloc _) _ 1 [.int .i64 (a : Int)] (by rfl) (news_one (heap_alloc_new wr _)) (by intro u hu; simp at hu; subst hu; rfl) (by omega) ?_; intro g' cap' w4 r4 b4 _; have ROW4 := Box.mk r4; have B4 := Box.mk b4; clear r4 b4))
        go_roundw
        case rel => exact ⟨a + 1, g', n + 1, cap', F ++ [a], by omega, by omega, by go_num, rfl, by simp [hF], ⟨by rw [HNX.out]; simp⟩, ⟨by rw [← ints_app]; exact ROW4.out⟩, ⟨(bel' BB.out l0 (aset wr _)).trans B4.out⟩⟩
        case measure => simp [intOf]; omega
      | false =>
        rw [hq] at hc hnx
        have HC := Box.mk hc; have HNX := Box.mk hnx
        clear hc hnx hq
        go_wp2_with (first
          | (go_at_call 41; ((with_reducible refine (HC.out _).mono ?_); rintro e w' ⟨rfl, rfl⟩))
          | fail)
        go_roundw
        case rel => exact ⟨a + 1, g, n, cap, F, by omega, by omega, by go_num, rfl, hF, ⟨by rw [HNX.out]; simp⟩, ROW, BB⟩
        case measure => simp [intOf]; omega
    · obtain rfl : a = 16 := by omega
      have i5 : ((16 : Int) < 16) = False := by simp
      have hfin : F = R.els s := HF.out
      go_wp2_with fail
      go_ret
      refine ⟨_, rfl, ?_, BB.out, fun k hk => (rowLt ROW.out k hk).1⟩
      rw [← hfin]
      unfold IIn
      rw [hF]
      exact rowSlIn ROW.out
theorem members_any (s : Nat) (hs : s < 65536) (w : World) :
    Calls Tryd.prog 32 #[.int .u16 (s : Int)] w fun e w' => ∃ v, e = .returned v ∧ IIn w' v (R.els s) ∧ Below w.heap.size w w' := (members_own s hs w).mono fun _ _ ⟨v, h1, h2, h3, _⟩ => ⟨v, h1, h2, h3⟩
end Go.Proofs.YtbcbhofbikdfiaaDoor
