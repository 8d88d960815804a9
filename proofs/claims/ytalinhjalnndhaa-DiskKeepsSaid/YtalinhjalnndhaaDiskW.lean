/- DiskTorn: one file that is appended to, synced and cut. -/
import Derived.Test.YtalinhjalnndhaaDiskV
namespace Go.Proofs.Ytalinhjalnndhaa
set_option maxRecDepth 100000
open Go.ChangeShapes Go.WideShapes Go.RowKit M

def tF (D : List Nat) (s : Nat) : Nat → FileS := fun i => if i = 1 then ⟨D, s, true⟩ else ⟨[], 0, false⟩
def tS (D : List Nat) (s c : Nat) : DS := ⟨[(nmA, 1)], [(nmA, 1)], [], 1, tF D s, 100000, D.length, -1, -1, false, c⟩
def t0S : DS := newS 100000
def t1S : DS := createS t0S nmA
theorem DS.same {S S' : DS} (h : { S with file := S'.file } = S') (hf : ∀ i, S.file i = S'.file i) : S = S' := by
  have e : S.file = S'.file := funext hf
  rw [← h, ← e]
theorem t_facts : (fineB t0S && fineB t1S && relsB t1S) = true := by rfl
theorem t_codes : createC t0S nmA = 0 ∧ syncNamesC t1S = 0 := ⟨by rfl, by rfl⟩
theorem t_start : syncNamesS t1S = tS [] 0 2 := by
  refine DS.same rfl (fun i => ?_)
  show (if i = 1 then _ else if i = 1 then _ else FileS.mk [] 0 false) = tF [] 0 i
  unfold tF
  by_cases h : i = 1
  · subst h; rfl
  · rw [if_neg h, if_neg h, if_neg h]

theorem t_fine {D : List Nat} {s c : Nat} (h1 : D.length ≤ 1000) (h2 : c ≤ 1000) : Fine (tS D s c) := by
  refine ⟨by show 1 ≤ _; omega, by show (0 : Int) ≤ 100000; omega, by show (100000 : Int) ≤ _; omega, by show (0 : Int) ≤ (D.length : Int); omega, by show (D.length : Int) ≤ _; omega, by show (-1 : Int) ≤ -1; omega, by show (-1 : Int) ≤ _; omega, by show (-1 : Int) ≤ -1; omega, by show (-1 : Int) ≤ _; omega, by show c ≤ _; omega, by show 0 ≤ _; omega, by show 1 ≤ _; omega, by show 1 ≤ _; omega, ?_, ?_, ?_, ?_⟩
  · intro n h3 h4
    obtain rfl : n = 1 := by have : n ≤ 1 := h4; omega
    show D.length ≤ _; omega
  · intro p hp; simp [tS] at hp; subst hp; exact ⟨Nat.le_refl _, Nat.le_refl _⟩
  · intro p hp; simp [tS] at hp; subst hp; exact ⟨Nat.le_refl _, Nat.le_refl _⟩
  · intro c hc; cases hc
theorem t_begin (D : List Nat) (s c : Nat) : beginC (tS D s c) = 0 ∧ beginS (tS D s c) = tS D s (c + 1) := ⟨by rfl, by rfl⟩
theorem t_append {D x : List Nat} {s c : Nat} (h : D.length + x.length ≤ 100000) : appendC (tS D s c) nmA x = 0 ∧ appendS (tS D s c) nmA x = tS (D ++ x) s (c + 1) := by
  have hf : (tS D s c).free = 100000 - (D.length : Int) := by show max ((100000 : Int) - (D.length : Int)) 0 = _; omega
  have hl : ¬ ((tS D s c).free < (x.length : Int)) := by rw [hf]; omega
  refine ⟨?_, ?_⟩
  · unfold appendC
    rw [if_neg (show ¬ (findC (tS D s c) nmA ≠ 0) from fun e => e rfl), if_neg hl]
    rfl
  · unfold appendS
    show (if (tS D s c).free < (x.length : Int) then _ else if beginC (tS D s c) = 8 then _ else _) = _
    rw [if_neg hl, if_neg (by rw [(t_begin D s c).1]; decide), (t_begin D s c).2]
    refine DS.same ?_ (fun i => ?_)
    · show DS.mk _ _ _ _ _ _ _ _ _ _ _ = tS (D ++ x) s (c + 1)
      unfold tS
      congr 1
      show ((D.length : Int) + (x.length : Int)) = ((D ++ x).length : Int)
      rw [List.length_append]; omega
    · show (if i = 1 then _ else tF D s i) = tF (D ++ x) s i
      unfold tF
      by_cases h : i = 1
      · subst h; rfl
      · rw [if_neg h, if_neg h, if_neg h]
theorem t_sync (D : List Nat) (s c : Nat) : syncC (tS D s c) nmA = 0 ∧ syncS (tS D s c) nmA = tS D D.length (c + 1) := by
  refine ⟨by rfl, ?_⟩
  refine DS.same rfl (fun i => ?_)
  show (if i = 1 then _ else tF D s i) = tF D D.length i
  unfold tF
  by_cases h : i = 1
  · subst h; rfl
  · rw [if_neg h, if_neg h, if_neg h]

theorem t_rest (D : List Nat) (s c : Nat) (ch : List Int) : rest0 (tS D s c) ch = { tS D s c with used := 0 } := by
  have e : (tS D s c).chg = [] := rfl
  unfold rest0 settleS
  rw [e, List.take_nil]
  rfl
theorem t_restok {D : List Nat} {s c : Nat} (ch : List Int) (h : D.length ≤ 1000) (hs : s ≤ 1000) : RestOk (tS D s c) ch := by
  unfold RestOk
  rw [t_rest, oldest_eq]
  refine ⟨by show 1 ≤ _; omega, fun p hp => by simp [tS] at hp; subst hp; exact ⟨Nat.le_refl _, Nat.le_refl _⟩, fun k n hn => ?_⟩
  have e : isort ((({ tS D s c with used := 0 } : DS)).names.map (·.2)) = [1] := rfl
  rw [e] at hn ⊢
  match k, hn with
  | 0, hn =>
    simp at hn; subst hn
    refine ⟨by show (0 : Int) ≤ 0; omega, by show (0 : Int) ≤ _; omega, by show D.length ≤ _; omega, by show s ≤ _; omega⟩
  | k + 1, hn => simp at hn
theorem t_data (D : List Nat) (s c : Nat) (ch : List Int) : findC (restartI (tS D s c) ch) nmA = 0 ∧ readD (restartI (tS D s c) ch) nmA = (cutF ch 1 ⟨D, s, true⟩).data ∧ ∀ p ∈ (restartI (tS D s c) ch).names, 1 ≤ p.2 ∧ p.2 ≤ (restartI (tS D s c) ch).made := by
  unfold restartI
  rw [t_rest]
  refine ⟨by rfl, by rfl, fun p hp => ?_⟩
  have hp' : p ∈ [(nmA, 1)] := hp
  simp at hp'; subst hp'
  exact ⟨Nat.le_refl _, Nat.le_refl _⟩
theorem cut_all {D : List Nat} {s : Nat} (ch : List Int) (k : Nat) (h : s ≤ D.length) : (cutF ch k ⟨D, s, true⟩).data = D.take (s + pickN ch k (D.length - s)) := by
  unfold cutF
  simp only
  by_cases hl : s < D.length
  · rw [if_pos hl]
  · rw [if_neg hl]
    have : s = D.length := by omega
    rw [this, Nat.sub_self]
    have := pickN_le ch k 0
    rw [List.take_of_length_le (by omega)]
theorem bs_take (A : ByteArray) (m : Nat) : bs ((sb A).take m) = A.extract 0 m := by
  have e : (sb A).take m = sb (A.extract 0 m) := by
    rw [sb_data, sb_data, ← List.map_take]
    congr 1
    rw [ByteArray.data_extract]
    simp [Array.toList_extract, List.extract]
  rw [e, bs_list]

/-- a slice of strings that can be read -/
structure StrsIn (w : World) (v : Value) (xs : List ByteArray) : Prop where
  val : ∃ q c, v = .slice q xs.length c
  cells : 0 < xs.length → ∃ b off c, v = .slice (some ⟨b, off, none⟩) xs.length c ∧ b < w.heap.size ∧ ∀ i, i < xs.length → w.cell? ⟨b, off + i, none⟩ = some (.string (xs.getD i ⟨#[]⟩))
  len : xs.length ≤ maxLen

theorem ext_size (x : ByteArray) (n : Nat) : (x.extract 0 n).size ≤ n := by
  rw [ByteArray.size_extract]; omega

set_option maxRecDepth 100000 in
set_option maxHeartbeats 2000000 in
theorem diskTorn_walk (v : Value) (xs : List ByteArray) (sy ch : Int) (w : World) (h : StrsIn w v xs) (hc1 : -9223372036854775808 ≤ ch) (hc2 : ch ≤ 9223372036854775807) :
    Calls Try.prog 5 #[v, .int .i64 sy, .int .i64 ch] w fun e w' => e = .returned (.bool true) ∧ Below w.heap.size w w' := by
  have F := t_facts
  simp only [Bool.and_eq_true] at F
  obtain ⟨⟨f0, f1⟩, r1⟩ := F
  obtain ⟨c1, c2⟩ := t_codes
  have cn : Calls Try.prog 7 #[.int .i64 100000] w fun e w' => ∃ b, e = .returned (.pointer (some ⟨b, 0, none⟩)) ∧ HasD w' b w.heap.size t0S ∧ Below w.heap.size w w' := new_h 100000 w (by omega) (by omega)
  have k1 : ∀ b w1, HasD w1 b w.heap.size t0S → Calls Try.prog 13 #[.pointer (some ⟨b, 0, none⟩), .string ⟨#[97]⟩] w1 (HasP b w.heap.size w1 (.int .i64 0) t1S) := fun b w1 h => by
    have := create_h b _ t0S nmA w1 h (Fine.of f0) (by unfold maxLen; decide)
    rw [c1] at this; exact this
  have k2 : ∀ b w1, HasD w1 b w.heap.size t1S → Calls Try.prog 16 #[.pointer (some ⟨b, 0, none⟩)] w1 (HasP b w.heap.size w1 (.int .i64 0) (tS [] 0 2)) := fun b w1 h => by
    have := syncNames_h b _ t1S w1 h (Fine.of f1) (RelsOk.of r1)
    rw [c2, t_start] at this; exact this
  have k3 : ∀ b w1 A x sf c, HasD w1 b w.heap.size (tS (sb A) sf c) → A.size ≤ 480 → x.size ≤ 60 → c ≤ 100 → Calls Try.prog 14 #[.pointer (some ⟨b, 0, none⟩), .string ⟨#[97]⟩, .string x] w1 (HasP b w.heap.size w1 (.int .i64 0) (tS (sb (A ++ x)) sf (c + 1))) := fun b w1 A x sf c h ha hx hc => by
    have := append_h b _ (tS (sb A) sf c) nmA x w1 h (t_fine (by rw [sb_length]; omega) (by omega)) (by unfold maxLen; decide) (by omega)
    obtain ⟨t1, t2⟩ := t_append (D := sb A) (x := sb x) (s := sf) (c := c) (by rw [sb_length, sb_length]; omega)
    rw [t1, t2, ← sb_append] at this; exact this
  have k4 : ∀ b w1 A sf c, HasD w1 b w.heap.size (tS (sb A) sf c) → A.size ≤ 600 → c ≤ 100 → Calls Try.prog 15 #[.pointer (some ⟨b, 0, none⟩), .string ⟨#[97]⟩] w1 (HasP b w.heap.size w1 (.int .i64 0) (tS (sb A) A.size (c + 1))) := fun b w1 A sf c h ha hc => by
    have := sync_h b _ (tS (sb A) sf c) nmA w1 h (t_fine (by rw [sb_length]; omega) (by omega)) (by unfold maxLen; decide)
    obtain ⟨t1, t2⟩ := t_sync (sb A) sf c
    rw [t1, t2, sb_length] at this; exact this
  have k5 : ∀ b w1 A sf c, HasD w1 b w.heap.size (tS (sb A) sf c) → A.size ≤ 600 → sf ≤ A.size → c ≤ 100 → Calls Try.prog 21 #[.pointer (some ⟨b, 0, none⟩), .slice (some ⟨w1.heap.size, 0, none⟩) 2 2] (w1.alloc (.cells #[.int .i64 0, .int .i64 ch] 3)) (HasP b w.heap.size (w1.alloc (.cells #[.int .i64 0, .int .i64 ch] 3)) (.tuple #[]) (restartI (tS (sb A) sf c) [0, ch])) := fun b w1 A sf c h ha hs hc =>
    restart_h b _ (tS (sb A) sf c) _ [0, ch] w1 _ h ((Below.refl _ _).alloc (Nat.le_refl _) _) (t_fine (by rw [sb_length]; omega) (by omega)) (t_restok _ (by rw [sb_length]; omega) (by omega)) (ints_two w1 0 ch (by omega) ⟨hc1, hc2⟩ _ 2) (fun k _ hk => by cases hk; exact .inr (Nat.le_refl _))
  have k6 : ∀ b w1 A sf c, HasD w1 b w.heap.size (restartI (tS (sb A) sf c) [0, ch]) → sf ≤ A.size → Calls Try.prog 22 #[.pointer (some ⟨b, 0, none⟩), .string ⟨#[97]⟩] w1 fun e w' => e = .returned (.tuple #[.string (A.extract 0 (sf + pickN [0, ch] 1 (A.size - sf))), .int .i64 0]) ∧ w1 = w' := fun b w1 A sf c h hs => by
    obtain ⟨t1, t2, t3⟩ := t_data (sb A) sf c [0, ch]
    have := read_h b _ (restartI (tS (sb A) sf c) [0, ch]) nmA w1 h t3 (by unfold maxLen; decide)
    rw [t1, t2, cut_all [0, ch] 1 (by rw [sb_length]; exact hs), sb_length, bs_take] at this; exact this
  have ck : ∀ (x : ByteArray) W, Calls Try.prog 12 #[.string x, .int .i64 60] W fun e w' => e = .returned (.string (x.extract 0 60)) ∧ W = w' := fun x W => cut_any x 60 W
  have ca := fun W => awake5 W
  obtain ⟨q0, cap0, hv⟩ := h.val
  obtain ⟨n, hn⟩ : ∃ n, n = xs.length := ⟨_, rfl⟩
  have hlen := h.len
  unfold maxLen at hlen
  rw [← hn] at hlen hv
  have CN := Box.mk cn; have K1 := Box.mk k1; have K2 := Box.mk k2; have K3 := Box.mk k3; have K4 := Box.mk k4; have K5 := Box.mk k5; have K6 := Box.mk k6; have CK := Box.mk ck; have CA := Box.mk ca; have HI := Box.mk h; have HN := Box.mk hn
  subst hv
  clear f0 f1 r1 c1 c2 cn k1 k2 k3 k4 k5 k6 ck ca h hn
  go_enter Try.func5, Try.ntmps5
  go_wp2_with (first
    | (go_at_call 7; ((with_reducible refine CN.out.mono ?_); rintro e w1 ⟨b, rfl, d1, b1⟩; have B1 := Box.mk b1; have A1 := Box.mk (K1.out b w1 d1); clear d1 b1 CN))
    | (go_at_call 13; ((with_reducible refine A1.out.mono ?_); rintro e w2 ⟨rfl, d2, b2⟩; have B2 := Box.mk (B1.out.trans b2); have A2 := Box.mk (K2.out b w2 d2); clear d2 b2 A1 B1))
    | (go_at_call 16; ((with_reducible refine A2.out.mono ?_); rintro e w3 ⟨rfl, d3, b3⟩; have B3 := Box.mk (B2.out.trans b3); have D3 := Box.mk d3; clear d3 b3 A2 B2)))
  go_loopw [8, 9, 10, 11] (fun al sa i _ wr => ∃ (k : Nat) (A : ByteArray) (sf c : Nat), k ≤ 8 ∧ k ≤ n ∧ i = .int .i64 (k : Int) ∧ al = .string A ∧ sa = .int .i64 (sf : Int) ∧ Box (HasD wr b w.heap.size (tS (sb A) sf c)) ∧ Box (Below w.heap.size w wr) ∧ sf ≤ A.size ∧ A.size ≤ 60 * k ∧ c ≤ 2 + 2 * k) (fun _ _ i _ _ => 8 - (intOf i).toNat)
  case atStart => exact ⟨0, ⟨#[]⟩, 0, 2, by omega, by omega, rfl, rfl, rfl, D3, B3, Nat.le_refl _, Nat.le_refl _, by omega⟩
  case round =>
    obtain ⟨k, A, sf, c, hk, hkn, rfl, rfl, rfl, hD, hB, hs, hA, hcc⟩ := hrel
    by_cases hlt : k < n ∧ k < 8
    · obtain ⟨hlt, hlt8⟩ := hlt
      obtain ⟨pb, off, cp, hve, hpb, hcells⟩ := HI.out.cells (by rw [← HN.out]; omega)
      injection hve with e1 e2 e3
      clear e2
      subst e1 e3
      have hcell := hcells k (by rw [← HN.out]; exact hlt)
      have hcell := (hB.out.cell (p := ⟨pb, off + k, none⟩) hpb).trans hcell
      obtain ⟨x, hx⟩ : ∃ x, x = xs.getD k ⟨#[]⟩ := ⟨_, rfl⟩
      rw [← hx] at hcell
      obtain ⟨y, hy⟩ : ∃ y, y = x.extract 0 60 := ⟨_, rfl⟩
      have hy60 : y.size ≤ 60 := by rw [hy]; exact ext_size _ _
      have cut := CK.out x wr
      rw [← hy] at cut
      have ap := K3.out b wr A y sf c hD.out (by omega) hy60 (by omega)
      have CUT := Box.mk cut; have AP := Box.mk ap
      have hsz : (A ++ y).size = A.size + y.size := ByteArray.size_append
      have HSZ := Box.mk hsz
      clear cut ap hcells hx hy hsz
      go_wp2_with (first
        | (go_at_call 12; ((with_reducible refine CUT.out.mono ?_); rintro e w' ⟨rfl, rfl⟩))
        | (go_at_call 14; ((with_reducible refine AP.out.mono ?_); rintro e w4 ⟨rfl, d4, b4⟩; have D4 := Box.mk d4; have B4 := Box.mk (hB.out.trans b4); have SY := Box.mk (K4.out b w4 (A ++ y) sf (c + 1) d4 (by rw [HSZ.out]; omega) (by omega)); clear d4 b4 AP))
        | (go_at_call 15; ((with_reducible refine SY.out.mono ?_); rintro e w5 ⟨rfl, d5, b5⟩; have D5 := Box.mk d5; have B5 := Box.mk (B4.out.trans b5); clear d5 b5 SY)))
      · go_roundw
        case rel =>
          exact ⟨k + 1, A ++ y, A.size + y.size, c + 1 + 1, by omega, by omega, by go_num, rfl, rfl, ⟨by have h := D5.out; rw [HSZ.out] at h; exact h⟩, B5, by rw [HSZ.out]; exact Nat.le_refl _, by rw [HSZ.out]; omega, by omega⟩
        case measure => simp [intOf]; omega
      · go_roundw
        case rel =>
          exact ⟨k + 1, A ++ y, sf, c + 1, by omega, by omega, by go_num, rfl, rfl, D4, B4, by rw [HSZ.out]; omega, by rw [HSZ.out]; omega, by omega⟩
        case measure => simp [intOf]; omega
    · obtain ⟨m, hm⟩ : ∃ m, m = sf + pickN [0, ch] 1 (A.size - sf) := ⟨_, rfl⟩
      have hp := pickN_le [0, ch] 1 (A.size - sf)
      have hm1 : sf ≤ m := by omega
      have hm2 : m ≤ A.size := by omega
      have hex : (A.extract 0 m).size = m := by rw [ByteArray.size_extract]; omega
      have k6 := fun w1 d => K6.out b w1 A sf c d hs
      rw [← hm] at k6
      have rs := K5.out b wr A sf c hD.out (by omega) hs (by omega)
      have hpk : ¬ (ch < 0 ∨ ((A.size : Int) - (sf : Int)) < ch) → (m : Int) = (sf : Int) + ch := fun hno => by
        have e : pickN [0, ch] 1 (A.size - sf) = ch.toNat := by
          unfold pickN
          show (ch % (((A.size - sf : Nat) : Int) + 1)).toNat = _
          rw [Int.emod_eq_of_lt (by omega) (by omega)]
        rw [hm, e]; omega
      have hkd : ¬ (k < n ∧ k < 8) := hlt
      have RS := Box.mk rs; have K6' := Box.mk k6; have HP := Box.mk hpk; have HEX := Box.mk hex; have HKD := Box.mk hkd
      clear hm hp k6 rs hpk hlt hkd
      have hk8 : (k < n ∧ ¬ k < 8) ∨ ¬ k < n := by
        by_cases e : k < n
        · exact .inl ⟨e, fun e2 => HKD.out ⟨e, e2⟩⟩
        · exact .inr e
      rcases hk8 with ⟨hk1, hk2⟩ | hk1
      all_goals
        go_wp2_with (first
          | (go_at_call 21; ((with_reducible refine RS.out.mono ?_); rintro e w5 ⟨rfl, d5, b5⟩; have B5 := Box.mk ((hB.out.alloc hB.out.size _).trans b5); have RD := Box.mk (K6'.out w5 d5); clear d5 b5 RS))
          | (go_at_call 22; ((with_reducible refine RD.out.mono ?_); rintro e w6 ⟨rfl, rfl⟩; have hex := HEX.out))
          | (go_at_call 9; ((with_reducible refine (CA.out _).mono ?_); rintro e w7 ⟨rfl, b7⟩; have B7 := Box.mk (B5.out.trans (b7.mono B5.out.size)); clear b7)))
        all_goals go_ret
        · exact ⟨rfl, B7.out⟩
        · refine ⟨congrArg Ending.returned (congrArg Value.bool ?_), B7.out⟩
          have e := HP.out (by omega)
          rw [e]
          exact beq_self_eq_true _
        · exact ⟨rfl, B7.out⟩

end Go.Proofs.Ytalinhjalnndhaa
