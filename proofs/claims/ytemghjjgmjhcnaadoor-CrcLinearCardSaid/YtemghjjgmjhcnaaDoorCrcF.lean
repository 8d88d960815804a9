/- The law of linear sums: the walk. -/
import Derived.Test.YtemghjjgmjhcnaaDoorCrcE
namespace Go.Proofs.YtemghjjgmjhcnaaDoor
open Go.RowKit M

@[go_sem] theorem run_min_int4 {P : Program} {w : World} (ts : Array TypeId) (t : TypeId) (k k1 k2 k3 : IntKind) (x y z u : Int) : (Builtin.min_ ts t #[.int k x, .int k1 y, .int k2 z, .int k3 u]).run P w =
    .ok (.int k (if u < (if z < (if y < x then y else x) then z else (if y < x then y else x)) then u else (if z < (if y < x then y else x) then z else (if y < x then y else x)))) w := by
  simp [Builtin.min_, Builtin.min2]

theorem xor_a (a b c x y z : Nat) : a ^^^ b ^^^ c ^^^ (x ^^^ y ^^^ z) = (a ^^^ x) ^^^ (b ^^^ y) ^^^ (c ^^^ z) := by
  apply Nat.eq_of_testBit_eq; intro i; simp only [Nat.testBit_xor]
  cases a.testBit i <;> cases b.testBit i <;> cases c.testBit i <;> cases x.testBit i <;> cases y.testBit i <;> cases z.testBit i <;> rfl
theorem xor_b (M a b c : Nat) : M ^^^ (a ^^^ b ^^^ c) = (M ^^^ a) ^^^ (M ^^^ b) ^^^ (M ^^^ c) := by
  apply Nat.eq_of_testBit_eq; intro i; simp only [Nat.testBit_xor]
  cases a.testBit i <;> cases b.testBit i <;> cases c.testBit i <;> cases M.testBit i <;> rfl
theorem xor_c (M a b c : Nat) : (a ^^^ b ^^^ c) ^^^ M = (a ^^^ M) ^^^ (b ^^^ M) ^^^ (c ^^^ M) := by
  apply Nat.eq_of_testBit_eq; intro i; simp only [Nat.testBit_xor]
  cases a.testBit i <;> cases b.testBit i <;> cases c.testBit i <;> cases M.testBit i <;> rfl

theorem xor8 {a b : Nat} (ha : a < 256) (hb : b < 256) : a ^^^ b < 256 := Nat.xor_lt_two_pow (n := 8) ha hb

/-- three bytes, as far as j -/
def lnf (s t u : ByteArray) (n j : Nat) : List Nat := (List.range n).map fun i => if i < j then bn s i ^^^ bn t i ^^^ bn u i else 0
theorem lnf_zero (s t u : ByteArray) (n : Nat) : byts (lnf s t u n 0) = List.replicate n (.int .u8 0) := by
  apply List.ext_getElem
  · simp [byts, lnf]
  · intro i h1 h2; simp [byts, lnf]
theorem lnf_length (s t u : ByteArray) (n j : Nat) : (lnf s t u n j).length = n := by simp [lnf]
theorem lnf_set (s t u : ByteArray) (n j : Nat) : (byts (lnf s t u n j)).set j (.int .u8 ((bn s j ^^^ bn t j ^^^ bn u j : Nat) : Int)) = byts (lnf s t u n (j + 1)) := by
  apply List.ext_getElem
  · simp [byts, lnf]
  · intro i h1 h2
    simp only [List.length_set, byts_length, lnf_length] at h1
    rw [List.getElem_set]
    by_cases h : j = i
    · subst h; simp [byts, lnf]
    · rw [if_neg h]
      simp only [byts, lnf, List.getElem_map, List.getElem_range]
      by_cases h3 : i < j
      · rw [if_pos h3, if_pos (by omega)]
      · rw [if_neg h3, if_neg (by omega)]
theorem lnf_lt (s t u : ByteArray) (n j : Nat) : ∀ d ∈ lnf s t u n j, d < 2 ^ 8 := by
  intro d hd
  simp [lnf] at hd
  obtain ⟨i, _, rfl⟩ := hd
  have h1 := bn_le s i
  have h2 := bn_le t i
  have h3 := bn_le u i
  split
  · exact xor8 (xor8 (by omega) (by omega)) (by omega)
  · omega

theorem num_xor3 : ∀ (n : Nat) (f g h : Nat → Nat), (∀ i, f i < 256) → (∀ i, g i < 256) → (∀ i, h i < 256) →
    num 8 ((List.range n).map fun i => f i ^^^ g i ^^^ h i) = num 8 ((List.range n).map f) ^^^ num 8 ((List.range n).map g) ^^^ num 8 ((List.range n).map h)
  | 0, f, g, h, _, _, _ => by simp [num]
  | n + 1, f, g, h, hf, hg, hh => by
    have ih := num_xor3 n f g h hf hg hh
    have lt : ∀ (k : Nat → Nat), (∀ i, k i < 256) → ∀ d ∈ (List.range n).map k, d < 2 ^ 8 := fun k hk d hd => by
      simp at hd; obtain ⟨i, _, rfl⟩ := hd; have := hk i; omega
    have one : ∀ x : Nat, num 8 [x] = x := fun x => by simp [num]
    simp only [List.range_succ, List.map_append, List.map_cons, List.map_nil]
    rw [num_join 8 _ _ (lt _ fun i => xor8 (xor8 (hf i) (hg i)) (hh i)), num_join 8 _ _ (lt f hf), num_join 8 _ _ (lt g hg), num_join 8 _ _ (lt h hh), ih]
    simp only [one, List.length_map, List.length_range, mul_pow_xor]
    exact xor_a _ _ _ _ _ _

theorem linear_math {n : Nat} {f g h : Nat → Nat} (hf : ∀ i, f i < 256) (hg : ∀ i, g i < 256) (hh : ∀ i, h i < 256) :
    ofN ((List.range n).map fun i => f i ^^^ g i ^^^ h i) = ofN ((List.range n).map f) ^^^ ofN ((List.range n).map g) ^^^ ofN ((List.range n).map h) := by
  have lt : ∀ (k : Nat → Nat), (∀ i, k i < 256) → ∀ d ∈ (List.range n).map k, d < 2 ^ 8 := fun k hk d hd => by
    simp at hd; obtain ⟨i, _, rfl⟩ := hd; have := hk i; omega
  have c1 := crcF_lt (show 4294967295 < 4294967296 by omega) _ (lt f hf)
  have c2 := crcF_lt (show 4294967295 < 4294967296 by omega) _ (lt g hg)
  have c3 := crcF_lt (show 4294967295 < 4294967296 by omega) _ (lt h hh)
  have c4 := crcF_lt (show 4294967295 < 4294967296 by omega) _ (lt _ fun i => xor8 (xor8 (hf i) (hg i)) (hh i))
  unfold ofN more
  simp only [Nat.sub_zero]
  rw [compl32 c4, compl32 c1, compl32 c2, compl32 c3]
  have e : crcF 4294967295 ((List.range n).map fun i => f i ^^^ g i ^^^ h i) = crcF 4294967295 ((List.range n).map f) ^^^ crcF 4294967295 ((List.range n).map g) ^^^ crcF 4294967295 ((List.range n).map h) := by
    unfold crcF
    simp only [List.length_map, List.length_range]
    rw [num_xor3 n f g h hf hg hh, ← sti_xor, ← sti_xor, xor_b]
  rw [e]
  exact xor_c _ _ _ _

theorem quiet_l {P : Program} {f : FuncId} {args : Array Value} {w : World} {n : Nat} {v : Value} (h : Calls P f args (w.drewN n) fun e w' => e = .returned v ∧ w.drewN n = w') :
    Calls P f args (w.drewN n) fun e w' => e = .returned v ∧ ∃ m, w' = w.drewN m :=
  h.mono fun _ _ hh => ⟨hh.1, n, hh.2.symm⟩

theorem sb_extract {x : ByteArray} {n : Nat} (h : n ≤ x.size) : sb (x.extract 0 n) = (List.range n).map (bn x) := by
  have hs : (x.extract 0 n).size = n := by simp; omega
  unfold sb
  rw [hs]
  apply List.map_congr_left
  intro i hi
  have hi' : i < n := by simpa using hi
  rw [← bn_of (show i < (x.extract 0 n).size by omega), ← bn_of (show i < x.size by omega)]
  simp [ByteArray.getElem_extract]

set_option maxRecDepth 100000 in
set_option maxHeartbeats 1000000 in
theorem crcLinear_walk (s t u : ByteArray) (hs : s.size ≤ 9223372036854775807) (ht : t.size ≤ 9223372036854775807) (hu : u.size ≤ 9223372036854775807) (w : World) (hH : Halves w) :
    Calls Tryd.prog 11 #[.string s, .string t, .string u] w fun e w' => e = .returned (.bool true) ∧ Below w.heap.size w w' := by
  have HH := Box.mk hH; clear hH
  obtain ⟨i0, hi, hz0, hz1, hz2⟩ := info_parts info_byte
  obtain ⟨n, hn⟩ : ∃ n, n = min (min (min s.size t.size) u.size) 300 := ⟨_, rfl⟩
  have n1 : n ≤ s.size := by omega
  have n2 : n ≤ t.size := by omega
  have n3 : n ≤ u.size := by omega
  have n4 : n ≤ 300 := by omega
  have HN := Box.mk hn; clear hn
  go_enter Tryd.func11, Tryd.ntmps11
  go_upto_region 1 with fail
  go_cut [7] (fun s7 wx => s7 = .int .i64 (n : Int) ∧ w = wx)
  case first =>
    go_wp2
    all_goals (go_meet; have hc := HN.out; exact ⟨congrArg (Value.int .i64) (by omega), rfl⟩)
  case rest =>
    obtain ⟨rfl, rfl⟩ := hcut
    clear HN
    go_wp2_with (at_make; refine wpList_make_full _ rfl (.tmp 17) (.tmp 17) 49 rfl w.heap.size 5 i0 (.int .u8 0) 1 Tryd.underlying49 hi hz0 hz1 .i64 .i64 (n : Int) (n : Int) n rfl rfl rfl rfl (by rw [hz2]; omega) (by unfold maxLen; omega) (Nat.le_refl _) ?_; intro w1 hown hg)
    have hown2 : w1.ownsRow w.heap.size 5 1 (.slice (some ⟨w.heap.size, 0, none⟩) n n) n (byts (lnf s t u n 0)) := by
      rw [lnf_zero]; have h := hown; rw [show (Value.int IntKind.u8 0).cells = #[.int .u8 0] from rfl, toList_madeCells_one, Nat.mul_one] at h; exact h
    have hb := (Below.refl w.heap.size w).grown hg (Nat.le_refl _) (fun k h => by cases h)
    clear hown hg
    go_loopw [9, 21] (fun _ i wr => ∃ j : Nat, j ≤ n ∧ i = .int .i64 j ∧ wr.ownsRow w.heap.size 5 1 (.slice (some ⟨w.heap.size, 0, none⟩) n n) n (byts (lnf s t u n j)) ∧ Below w.heap.size w wr) (fun _ i _ => n - (intOf i).toNat)
    case atStart => exact ⟨0, by omega, rfl, hown2, hb⟩
    case round =>
      clear hown2
      obtain ⟨j, hj, rfl, hown, hb⟩ := hrel
      by_cases hlt : j < n
      · have j1 : j < s.size := by omega
        have j2 : j < t.size := by omega
        have j3 : j < u.size := by omega
        have hcell : wr.cell? ⟨w.heap.size, j, none⟩ = some (.int .u8 0) := by
          rw [hown.cellAt j (by omega)]; simp [byts, lnf, hlt]
        have hfz : wr.frozen? ⟨w.heap.size, j, none⟩ = false := hown.frozenAt j
        have hst := (hown.stored j (.int .u8 ((bn s j ^^^ bn t j ^^^ bn u j : Nat) : Int))).1
        rw [lnf_set] at hst
        have l1 := bn_le s j
        have l2 := bn_le t j
        have l3 := bn_le u j
        rw [← bn_of j1, ← bn_of j2, ← bn_of j3] at hst
        rw [← bn_of j1] at l1
        rw [← bn_of j2] at l2
        rw [← bn_of j3] at l3
        have r1 : bits BinOp.xor IntKind.u8 (((s[j]'j1).toNat : Nat) : Int) (((t[j]'j2).toNat : Nat) : Int) = (((s[j]'j1).toNat ^^^ (t[j]'j2).toNat : Nat) : Int) := u8_xor_nat _ _ (by omega) (by omega)
        have r2 : bits BinOp.xor IntKind.u8 (((s[j]'j1).toNat ^^^ (t[j]'j2).toNat : Nat) : Int) (((u[j]'j3).toNat : Nat) : Int) = (((s[j]'j1).toNat ^^^ (t[j]'j2).toNat ^^^ (u[j]'j3).toNat : Nat) : Int) := u8_xor_nat _ _ (xor8 (by omega) (by omega)) (by omega)
        obtain ⟨y, hy⟩ : ∃ y, y = (s[j]'j1).toNat ^^^ (t[j]'j2).toNat := ⟨_, rfl⟩
        rw [← hy] at r1 r2 hst
        obtain ⟨z, hz⟩ : ∃ z, z = y ^^^ (u[j]'j3).toNat := ⟨_, rfl⟩
        rw [← hz] at r2 hst
        have HST := Box.mk hst
        clear hst hy hz hown l1 l2 l3
        go_wp2_with fail
        go_region
        go_wp2
        go_roundw
        case rel => exact ⟨j + 1, by omega, by go_num, HST.out, (hb.setCell (Nat.le_refl _) _).drew⟩
        case measure => simp [intOf]; omega
      · obtain rfl : n = j := by omega
        have hH2 := halves_below HH.out hb
        have hlen : ∀ x : ByteArray, n ≤ x.size → (x.extract 0 n).size = n := fun x hx => by simp; omega
        have hsb : ∀ x : ByteArray, n ≤ x.size → sb (x.extract 0 n) = (List.range n).map (bn x) := fun x hx => sb_extract hx
        have hL : lnf s t u n n = (List.range n).map fun i => bn s i ^^^ bn t i ^^^ bn u i := by
          apply List.map_congr_left; intro i hi; rw [if_pos (by simpa using hi)]
        have hlin := linear_math (n := n) (f := bn s) (g := bn t) (h := bn u) (fun i => by have := bn_le s i; omega) (fun i => by have := bn_le t i; omega) (fun i => by have := bn_le u i; omega)
        rw [← hL, ← hsb s n1, ← hsb t n2, ← hsb u n3] at hlin
        have hsz : (bs (lnf s t u n n)).size ≤ 9223372036854775807 := by rw [bs_size, lnf_length]; omega
        have q0 : ∀ k, Calls Tryd.prog 46 #[] (wr.drewN k) fun e w' => e = .returned (.bool true) ∧ ∃ m, w' = wr.drewN m := fun k => quiet_l (awake2_any _ hH2)
        have q1 : ∀ k, Calls Tryd.prog 47 #[.string (bs (lnf s t u n n))] (wr.drewN k) fun e w' => e = .returned (.int .u32 (ofN (lnf s t u n n) : Nat)) ∧ ∃ m, w' = wr.drewN m := fun k => quiet_l (by
          have h := crcOf_any (bs (lnf s t u n n)) hsz (wr.drewN k) hH2
          rwa [sb_bs _ (lnf_lt s t u n n)] at h)
        have q2 : ∀ k, Calls Tryd.prog 47 #[.string (s.extract 0 n)] (wr.drewN k) fun e w' => e = .returned (.int .u32 (ofN (sb (s.extract 0 n)) : Nat)) ∧ ∃ m, w' = wr.drewN m := fun k => quiet_l (crcOf_any _ (by rw [hlen s n1]; omega) _ hH2)
        have q3 : ∀ k, Calls Tryd.prog 47 #[.string (t.extract 0 n)] (wr.drewN k) fun e w' => e = .returned (.int .u32 (ofN (sb (t.extract 0 n)) : Nat)) ∧ ∃ m, w' = wr.drewN m := fun k => quiet_l (crcOf_any _ (by rw [hlen t n2]; omega) _ hH2)
        have q4 : ∀ k, Calls Tryd.prog 47 #[.string (u.extract 0 n)] (wr.drewN k) fun e w' => e = .returned (.int .u32 (ofN (sb (u.extract 0 n)) : Nat)) ∧ ∃ m, w' = wr.drewN m := fun k => quiet_l (crcOf_any _ (by rw [hlen u n3]; omega) _ hH2)
        have hconv : ∀ k, (convert 49 9 (.slice (some ⟨w.heap.size, 0, none⟩) n n)).run Tryd.prog (wr.drewN k) = .ok (.string (bs (lnf s t u n n))) (wr.drewN k) := fun k => conv_bytes (w := wr.drewN k) hown
        have a1 : ofN (sb (s.extract 0 n)) < 4294967296 := more_lt _ _
        have a2 : ofN (sb (t.extract 0 n)) < 4294967296 := more_lt _ _
        have a3 : ofN (sb (u.extract 0 n)) < 4294967296 := more_lt _ _
        generalize ofN (sb (s.extract 0 n)) = A at *
        generalize ofN (sb (t.extract 0 n)) = B at *
        generalize ofN (sb (u.extract 0 n)) = C at *
        generalize ofN (lnf s t u n n) = X at *
        have r1 := xor32 a1 a2
        have r2 := xor32 (xor_lt32 a1 a2) a3
        rw [← hlin] at r2
        obtain ⟨D, hD⟩ : ∃ D, D = A ^^^ B := ⟨_, rfl⟩
        rw [← hD] at r1 r2
        have Q0 := Box.mk q0
        have Q1 := Box.mk q1
        have Q2 := Box.mk q2
        have Q3 := Box.mk q3
        have Q4 := Box.mk q4
        clear q0 q1 q2 q3 q4 hlin hsz hL hsb hlen hH2 hown hD
        go_wp2_with fail
        go_quiet ((first | (go_at_call 46; exact Q0.out _) | (go_at_call 47; first | exact Q1.out _ | exact Q2.out _ | exact Q3.out _ | exact Q4.out _)))
        go_wp2
        go_ret
        exact ⟨rfl, below_drewN hb _⟩
end Go.Proofs.YtemghjjgmjhcnaaDoor
