/- DiskKeeps: what was synced is there, whatever is done to others. -/
import Derived.Test.YtalinhjalnndhaaDiskY
namespace Go.Proofs.Ytalinhjalnndhaa
set_option maxRecDepth 100000
open Go.ChangeShapes Go.WideShapes Go.RowKit M

def mS (D : List Nat) (s c : Nat) : DS := ⟨[(nmM, 1)], [(nmM, 1)], [], 1, tF D s, 100000, D.length, -1, -1, false, c⟩
def mt1S : DS := createS t0S nmM
theorem m_facts : (fineB mt1S) = true := by rfl
theorem m_code : createC t0S nmM = 0 := by rfl
theorem mt_fine {D : List Nat} {s c : Nat} (h1 : D.length ≤ 1000) (h2 : c ≤ 1000) : Fine (mS D s c) := by
  refine ⟨by show 1 ≤ _; omega, by show (0 : Int) ≤ 100000; omega, by show (100000 : Int) ≤ _; omega, by show (0 : Int) ≤ (D.length : Int); omega, by show (D.length : Int) ≤ _; omega, by show (-1 : Int) ≤ -1; omega, by show (-1 : Int) ≤ _; omega, by show (-1 : Int) ≤ -1; omega, by show (-1 : Int) ≤ _; omega, by show c ≤ _; omega, by show 0 ≤ _; omega, by show 1 ≤ _; omega, by show 1 ≤ _; omega, ?_, ?_, ?_, ?_⟩
  · intro n h3 h4
    obtain rfl : n = 1 := by have : n ≤ 1 := h4; omega
    show D.length ≤ _; omega
  · intro p hp; simp [mS] at hp; subst hp; exact ⟨Nat.le_refl _, Nat.le_refl _⟩
  · intro p hp; simp [mS] at hp; subst hp; exact ⟨Nat.le_refl _, Nat.le_refl _⟩
  · intro c hc; cases hc
/-! ### how it begins -/
def m0S (D : List Nat) (s c : Nat) : DS := { mS D s c with safe := [], chg := [⟨⟨#[]⟩, nmM, 1, none⟩] }
theorem m_append {x : List Nat} (h : x.length ≤ 1000) : appendC mt1S nmM x = 0 ∧ appendS mt1S nmM x = m0S x 0 2 := by
  have hl : ¬ (mt1S.free < (x.length : Int)) := by rw [show mt1S.free = 100000 by rfl]; omega
  refine ⟨?_, ?_⟩
  · unfold appendC
    rw [if_neg (show ¬ (findC mt1S nmM ≠ 0) from fun e => e rfl), if_neg hl]
    rfl
  · unfold appendS
    show (if mt1S.free < (x.length : Int) then _ else if beginC mt1S = 8 then _ else _) = _
    rw [if_neg hl, if_neg (show ¬ beginC mt1S = 8 by decide)]
    refine DS.same ?_ (fun i => ?_)
    · show DS.mk _ _ _ _ _ _ _ _ _ _ _ = m0S x 0 2
      unfold m0S mS
      congr 1
      show ((0 : Int) + (x.length : Int)) = (x.length : Int)
      omega
    · show (if i = 1 then _ else if i = 1 then _ else if i = 1 then _ else FileS.mk [] 0 false) = tF x 0 i
      unfold tF
      by_cases h : i = 1
      · subst h; rfl
      · rw [if_neg h, if_neg h, if_neg h, if_neg h]
theorem m_sync (D : List Nat) (s c : Nat) : syncC (m0S D s c) nmM = 0 ∧ syncS (m0S D s c) nmM = m0S D D.length (c + 1) := by
  refine ⟨by rfl, ?_⟩
  refine DS.same rfl (fun i => ?_)
  show (if i = 1 then _ else tF D s i) = tF D D.length i
  unfold tF
  by_cases h : i = 1
  · subst h; rfl
  · rw [if_neg h, if_neg h, if_neg h]
theorem m_names (D : List Nat) (s c : Nat) : syncNamesC (m0S D s c) = 0 ∧ syncNamesS (m0S D s c) = mS D s (c + 1) := ⟨by rfl, by rfl⟩

theorem m_fine {D : List Nat} {s c : Nat} (h1 : D.length ≤ 1000) (h2 : c ≤ 1000) : Fine (m0S D s c) := by
  have f := mt_fine (s := s) h1 h2
  refine ⟨f.made, f.room0, f.room1, f.used0, f.used1, f.crash0, f.crash1, f.fail0, f.fail1, f.calls, by show 1 ≤ _; omega, f.names, by show 0 ≤ _; omega, f.data, f.nref, (fun p hp => nomatch (show p ∈ ([] : KL) from hp)), fun c hc => ?_⟩
  simp [m0S] at hc
  subst hc
  exact ⟨⟨Nat.le_refl _, Nat.le_refl _⟩, fun g hg => by simp at hg, by unfold maxLen; decide, by unfold maxLen; decide⟩
theorem m_rels {D : List Nat} {s c : Nat} (h1 : D.length ≤ 1000) : RelsOk (m0S D s c) := by
  intro k d hc
  match k, hc with
  | 0, hc =>
    obtain rfl : (⟨⟨#[]⟩, nmM, 1, none⟩ : Chg) = d := by simpa [m0S] using hc
    refine ⟨⟨?_, ?_, ?_⟩, fun n hn => by simp at hn⟩
    · show (D.length : Int) ≤ _; omega
    · show (-1099511627776 : Int) ≤ (D.length : Int) - (D.length : Int); omega
    · show D.length ≤ _; omega
  | k + 1, hc => simp [m0S] at hc


theorem m_keep {D : List Nat} (h : D.length ≤ 100) : Keep (mS D D.length 4) D 0 := by
  refine ⟨Nat.le_refl _, Nat.le_refl _, rfl, ?_, by show (-1 : Int) ≤ -1; omega, by show (-1 : Int) ≤ _; omega, rfl, Nat.le_refl _, Nat.le_refl _, Nat.le_refl _, fun n => ?_, fun n => ?_, fun p hp => ?_, fun p hp => ?_, fun c hc => (nomatch (show c ∈ ([] : List Chg) from hc)), rfl, rfl, rfl, fun p hp _ => ?_, fun c hc => (nomatch (show c ∈ ([] : List Chg) from hc))⟩
  · show (D.length : Int) = ((0 + D.length : Nat) : Int)
    omega
  · show (tF D D.length n).data.length ≤ _
    unfold tF
    by_cases e : n = 1
    · rw [if_pos e]; exact h
    · rw [if_neg e]; exact Nat.zero_le _
  · show (tF D D.length n).safe ≤ _
    unfold tF
    by_cases e : n = 1
    · rw [if_pos e]; exact h
    · rw [if_neg e]; exact Nat.zero_le _
  · have hp : p ∈ [(nmM, 1)] := hp
    simp at hp; subst hp; exact ⟨Nat.le_refl _, Nat.le_refl _⟩
  · have hp : p ∈ [(nmM, 1)] := hp
    simp at hp; subst hp; exact ⟨Nat.le_refl _, Nat.le_refl _⟩
  · have hp : p ∈ [(nmM, 1)] := hp
    simp at hp; subst hp; rfl

/-- acts that came in -/
structure ActIn (w : World) (v : Value) (n : Nat) (K N : Nat → Int) (A B : Nat → ByteArray) (C : Nat → Value) : Prop where
  shape : ∃ p c, v = .slice p n c
  cells : 0 < n → ∃ b off c, v = .slice (some ⟨b, off, none⟩) n c ∧ b < w.heap.size ∧ ∀ i, i < n →
    w.cell? ⟨b, off + i * 5, none⟩ = some (.int .i64 (K i)) ∧ w.cell? ⟨b, off + i * 5 + 1, none⟩ = some (.int .i64 (N i)) ∧ w.cell? ⟨b, off + i * 5 + 2, none⟩ = some (.string (A i)) ∧ w.cell? ⟨b, off + i * 5 + 3, none⟩ = some (.string (B i)) ∧ w.cell? ⟨b, off + i * 5 + 4, none⟩ = some (C i)
  cs : ∀ i, i < n → ∃ q l c, C i = .slice q l c
  nb : ∀ i, i < n → -9223372036854775808 ≤ N i ∧ N i ≤ 9223372036854775807

def fewB (k : Int) (b : ByteArray) : ByteArray := if k = 5 then (b.extract 0 100).extract 0 8 else b.extract 0 100
theorem fewB_size (k : Int) (b : ByteArray) : (fewB k b).size ≤ 100 := by
  unfold fewB
  split
  · have := ext_size (b.extract 0 100) 8; omega
  · exact ext_size b 100
set_option maxHeartbeats 1000000 in
theorem few_any (k n : Int) (a b : ByteArray) (q : Option Addr) (l cp : Nat) (w : World) :
    Calls Try.prog 17 #[.agg #[.int .i64 k, .int .i64 n, .string a, .string b, .slice q l cp]] w fun e w' => e = .returned (.agg #[.int .i64 k, .int .i64 n, .string (a.extract 0 8), .string (fewB k b), .slice q l cp]) ∧ Below w.heap.size w w' := by
  have c0 : ∀ w, Calls Try.prog 12 #[.string a, .int .i64 8] w fun e w' => e = .returned (.string (a.extract 0 8)) ∧ w = w' := fun w => cut_any a 8 w
  have c1 : ∀ w, Calls Try.prog 12 #[.string b, .int .i64 100] w fun e w' => e = .returned (.string (b.extract 0 100)) ∧ w = w' := fun w => cut_any b 100 w
  obtain ⟨x, hx⟩ : ∃ x, x = fewB k b := ⟨_, rfl⟩
  rw [← hx]
  obtain ⟨a', ha⟩ : ∃ x, x = a.extract 0 8 := ⟨_, rfl⟩
  rw [← ha] at c0 ⊢
  unfold fewB at hx
  obtain ⟨b', hb⟩ : ∃ x, x = b.extract 0 100 := ⟨_, rfl⟩
  rw [← hb] at c1 hx
  have c2 : ∀ w, Calls Try.prog 12 #[.string b', .int .i64 8] w fun e w' => e = .returned (.string (b'.extract 0 8)) ∧ w = w' := fun w => cut_any b' 8 w
  obtain ⟨b2, hb2⟩ : ∃ x, x = b'.extract 0 8 := ⟨_, rfl⟩
  rw [← hb2] at c2 hx
  have C0 := Box.mk c0; have C1 := Box.mk c1; have C2 := Box.mk c2
  clear ha hb hb2 c0 c1 c2
  by_cases h5 : k = 5
  case' pos => (subst h5; rw [if_pos rfl] at hx; subst hx)
  case' neg => (rw [if_neg h5] at hx; subst hx)
  all_goals
    go_enter Try.func17, Try.ntmps17
    go_wp2_with (first
      | (go_at_call 12; ((with_reducible refine (C0.out _).mono ?_); rintro e w' ⟨rfl, rfl⟩; clear C0))
      | (go_at_call 12; ((with_reducible refine (C1.out _).mono ?_); rintro e w' ⟨rfl, rfl⟩; clear C1))
      | (go_at_call 12; ((with_reducible refine (C2.out _).mono ?_); rintro e w' ⟨rfl, rfl⟩; clear C2)))
  · exact bodyPost_ret (v := .agg #[.int .i64 k, .int .i64 n, .string a', .string x, .slice q l cp]) (by simp [results, go_sem]) rfl ⟨rfl, (((Below.refl _ _).alloc (Nat.le_refl _) _).alloc (by simp) _)⟩
  · exact bodyPost_ret (v := .agg #[.int .i64 5, .int .i64 n, .string a', .string x, .slice q l cp]) (by simp [results, go_sem]) rfl ⟨rfl, (((Below.refl _ _).alloc (Nat.le_refl _) _).alloc (by simp) _)⟩

set_option maxRecDepth 100000 in
set_option maxHeartbeats 4000000 in
theorem diskKeeps_walk (mine : ByteArray) (v : Value) (n : Nat) (K N : Nat → Int) (A B : Nat → ByteArray) (C : Nat → Value) (choice : List Int) (cv : Value) (w : World) (hi : ActIn w v n K N A B C) (hn : n ≤ 9223372036854775807) (hv : IntsIn w cv choice) :
    Calls Try.prog 4 #[.string mine, v, cv] w fun e w' => e = .returned (.bool true) ∧ Below w.heap.size w w' := by
  have F := t_facts
  simp only [Bool.and_eq_true] at F
  obtain ⟨⟨f0, _⟩, _⟩ := F
  have f1 := m_facts
  have c1 := m_code
  obtain ⟨M, hM⟩ : ∃ M, M = mine.extract 0 100 := ⟨_, rfl⟩
  have hM6 : M.size ≤ 100 := by rw [hM]; exact ext_size _ _
  have cA : ∀ W, Calls Try.prog 12 #[.string mine, .int .i64 100] W fun e w' => e = .returned (.string M) ∧ W = w' := fun W => by rw [hM]; exact cut_any mine 100 W
  have lM : (sb M).length = M.size := sb_length M
  have cn : ∀ W, Calls Try.prog 7 #[.int .i64 100000] W fun e w' => ∃ b, e = .returned (.pointer (some ⟨b, 0, none⟩)) ∧ HasD w' b W.heap.size t0S ∧ Below W.heap.size W w' := fun W => new_h 100000 W (by omega) (by omega)
  have k1 : ∀ b w1, HasD w1 b w.heap.size t0S → Calls Try.prog 13 #[.pointer (some ⟨b, 0, none⟩), .string ⟨#[109, 105, 110, 101]⟩] w1 (HasP b w.heap.size w1 (.int .i64 0) mt1S) := fun b w1 h => by
    have := create_h b _ t0S nmM w1 h (Fine.of f0) (by unfold maxLen; decide)
    rw [c1] at this; exact this
  have k2 : ∀ b w1, HasD w1 b w.heap.size mt1S → Calls Try.prog 14 #[.pointer (some ⟨b, 0, none⟩), .string ⟨#[109, 105, 110, 101]⟩, .string M] w1 (HasP b w.heap.size w1 (.int .i64 0) (m0S (sb M) 0 2)) := fun b w1 h => by
    have := append_h b _ mt1S nmM M w1 h (Fine.of f1) (by unfold maxLen; decide) (by omega)
    obtain ⟨t1, t2⟩ := m_append (x := sb M) (by omega)
    rw [t1, t2] at this; exact this
  have k3 : ∀ b w1, HasD w1 b w.heap.size (m0S (sb M) 0 2) → Calls Try.prog 15 #[.pointer (some ⟨b, 0, none⟩), .string ⟨#[109, 105, 110, 101]⟩] w1 (HasP b w.heap.size w1 (.int .i64 0) (m0S (sb M) (sb M).length 3)) := fun b w1 h => by
    have := sync_h b _ (m0S (sb M) 0 2) nmM w1 h (m_fine (by omega) (by omega)) (by unfold maxLen; decide)
    obtain ⟨t1, t2⟩ := m_sync (sb M) 0 2
    rw [t1, t2] at this; exact this
  have k4 : ∀ b w1, HasD w1 b w.heap.size (m0S (sb M) (sb M).length 3) → Calls Try.prog 16 #[.pointer (some ⟨b, 0, none⟩)] w1 (HasP b w.heap.size w1 (.int .i64 0) (mS (sb M) (sb M).length 4)) := fun b w1 h => by
    have := syncNames_h b _ (m0S (sb M) (sb M).length 3) w1 h (m_fine (by omega) (by omega)) (m_rels (by omega))
    obtain ⟨t1, t2⟩ := m_names (sb M) (sb M).length 3
    rw [t1, t2] at this; exact this
  have mk := m_keep (D := sb M) (by omega)
  -- behind the acts
  have fin : ∀ b w1 (Z : DS), Kept Z (sb M) → HasD w1 b w.heap.size Z → Below w.heap.size w w1 → Calls Try.prog 21 #[.pointer (some ⟨b, 0, none⟩), cv] w1 fun e w2 => e = .returned (.tuple #[]) ∧ Below w.heap.size w w2 ∧ HasD w2 b w.heap.size (restartI Z choice) ∧ Kept (restartI Z choice) (sb M) ∧ Box (Calls Try.prog 22 #[.pointer (some ⟨b, 0, none⟩), .string ⟨#[109, 105, 110, 101]⟩] w2 fun e w' => e = .returned (.tuple #[.string M, .int .i64 0]) ∧ w2 = w') := fun b w1 Z hk h hb => by
    obtain ⟨ok, kk, kf, kr⟩ := hk.restart choice
    exact (restart_h b _ Z cv choice w1 w1 h (Below.refl _ _) hk.fine ok (hv.keep hb.size fun k hk hl => hb.block k hl) (fun k h0 hk => .inl (by
      obtain ⟨b', off, c', e', hl, _⟩ := hv.cells h0
      rw [e'] at hk
      cases hk
      exact hl))).mono fun e w2 ⟨he, hd, hb2⟩ => ⟨he, hb.trans hb2, hd, kk, ⟨by
      have := read_h b _ (restartI Z choice) nmM w2 hd kk.nref (by unfold maxLen; decide)
      rw [kf, kr, bs_list M] at this; exact this⟩⟩
  have ca := fun W => awake5 W
  obtain ⟨q0, cap0, hve⟩ := hi.shape
  obtain ⟨q1, cap1, hve1⟩ := hv.val
  obtain ⟨n1, hn1⟩ : ∃ n, n = choice.length := ⟨_, rfl⟩
  rw [← hn1] at hve1
  have CA := Box.mk cA; have CN := Box.mk cn; have K1 := Box.mk k1; have K2 := Box.mk k2; have K3 := Box.mk k3; have K4 := Box.mk k4; have FI := Box.mk fin; have AW := Box.mk ca; have MK := Box.mk mk; have HI := Box.mk hi
  clear f0 f1 c1 cA cn k1 k2 k3 k4 fin ca mk hi hM hn1 hv lM hM6
  subst hve hve1
  go_enter Try.func4, Try.ntmps4
  go_wp2_with (first
    | (go_at_call 12; ((with_reducible refine (CA.out _).mono ?_); rintro e w' ⟨rfl, rfl⟩; clear CA))
    | (go_at_call 7; ((with_reducible refine (CN.out _).mono ?_); rintro e w1 ⟨b, rfl, d, bb⟩; have BB1 := Box.mk bb; have D1 := Box.mk d; clear d bb CN))
    | (go_at_call 13; ((with_reducible refine (K1.out b _ D1.out).mono ?_); rintro e w2 ⟨rfl, d, bb⟩; have BB2 := Box.mk (BB1.out.trans bb); have D2 := Box.mk d; clear d bb BB1 D1 K1))
    | (go_at_call 14; ((with_reducible refine (K2.out b _ D2.out).mono ?_); rintro e w3 ⟨rfl, d, bb⟩; have BB3 := Box.mk (BB2.out.trans bb); have D3 := Box.mk d; clear d bb BB2 D2 K2))
    | (go_at_call 15; ((with_reducible refine (K3.out b _ D3.out).mono ?_); rintro e w4 ⟨rfl, d, bb⟩; have BB4 := Box.mk (BB3.out.trans bb); have D4 := Box.mk d; clear d bb BB3 D3 K3))
    | (go_at_call 16; ((with_reducible refine (K4.out b _ D4.out).mono ?_); rintro e w5 ⟨rfl, d, bb⟩; have BB5 := Box.mk (BB4.out.trans bb); have D5 := Box.mk d; clear d bb BB4 D4 K4)))
  go_loopw [8] (fun i wr => ∃ (k : Nat) (Z : DS), k ≤ 20 ∧ k ≤ n ∧ i = .int .i64 (k : Int) ∧ Box (HasD wr b w.heap.size Z) ∧ Box (Below w.heap.size w wr) ∧ Box (Keep Z (sb M) k)) (fun i _ => 20 - (intOf i).toNat)
  case atStart => exact ⟨0, _, by omega, by omega, rfl, D5, BB5, MK⟩
  case round =>
    obtain ⟨k, Z, hk20, hkn, rfl, hD, HB, hK⟩ := hrel
    by_cases h1 : k < n
    · by_cases h2 : k < 20
      · obtain ⟨pb, off, c', hve, hlt, hcell⟩ := HI.out.cells (by omega)
        obtain ⟨rfl, _, rfl⟩ := Value.slice.inj hve
        obtain ⟨e0, e1, e2, e3, e4⟩ := hcell k h1
        obtain ⟨cq, cl, cc, ec⟩ := HI.out.cs k h1
        rw [ec] at e4
        have e0 : wr.cell? ⟨pb, off + k * 5, none⟩ = some (.int .i64 (K k)) := by rw [HB.out.cell hlt]; exact e0
        have e1 : wr.cell? ⟨pb, off + k * 5 + 1, none⟩ = some (.int .i64 (N k)) := by rw [HB.out.cell hlt]; exact e1
        have e2 : wr.cell? ⟨pb, off + k * 5 + 2, none⟩ = some (.string (A k)) := by rw [HB.out.cell hlt]; exact e2
        have e3 : wr.cell? ⟨pb, off + k * 5 + 3, none⟩ = some (.string (B k)) := by rw [HB.out.cell hlt]; exact e3
        have e4 : wr.cell? ⟨pb, off + k * 5 + 4, none⟩ = some (.slice cq cl cc) := by rw [HB.out.cell hlt]; exact e4
        have hnb := HI.out.nb k h1
        have fw := few_any (K k) (N k) (A k) (B k) cq cl cc wr
        have sa := ext_size (A k) 8
        have sB := fewB_size (K k) (B k)
        generalize (A k).extract 0 8 = a' at *
        generalize fewB (K k) (B k) = b' at *
        generalize K k = Kk at *
        generalize N k = Nk at *
        generalize A k = Ak at *
        generalize B k = Bk at *
        have hf := Box.mk (hK.out.fine (by omega))
        have k1 : Box (a' ≠ nmM → ∀ W, HasD W b w.heap.size Z → Calls Try.prog 13 #[.pointer (some ⟨b, 0, none⟩), .string a'] W (HasP b w.heap.size W (.int .i64 (createC Z a')) (createS Z a'))) := ⟨fun _ W h => create_h b _ Z a' W h hf.out (by unfold maxLen; omega)⟩
        have k2 : Box (∀ W, HasD W b w.heap.size Z → Calls Try.prog 14 #[.pointer (some ⟨b, 0, none⟩), .string a', .string b'] W (HasP b w.heap.size W (.int .i64 (appendC Z a' (sb b'))) (appendS Z a' (sb b')))) := ⟨fun W h => append_h b _ Z a' b' W h hf.out (by unfold maxLen; omega) (by omega)⟩
        have k4 : Box (∀ W, HasD W b w.heap.size Z → Calls Try.prog 16 #[.pointer (some ⟨b, 0, none⟩)] W (HasP b w.heap.size W (.int .i64 (syncNamesC Z)) (syncNamesS Z))) := ⟨fun W h => syncNames_h b _ Z W h hf.out (hK.out.rels (by omega))⟩
        have k5 : Box (∀ W, HasD W b w.heap.size Z → Calls Try.prog 18 #[.pointer (some ⟨b, 0, none⟩), .string a', .string b'] W (HasP b w.heap.size W (.int .i64 (renameC Z a' b')) (renameS Z a' b'))) := ⟨fun W h => rename_h b _ Z a' b' W h hf.out (by unfold maxLen; omega) (by unfold maxLen; omega)⟩
        have k6 : Box (∀ W, HasD W b w.heap.size Z → Calls Try.prog 19 #[.pointer (some ⟨b, 0, none⟩), .string a'] W (HasP b w.heap.size W (.int .i64 (removeC Z a')) (removeS Z a'))) := ⟨fun W h => remove_h b _ Z a' W h hf.out (by unfold maxLen; omega)⟩
        have k8 : Box (∀ W, HasD W b w.heap.size Z → Calls Try.prog 20 #[.pointer (some ⟨b, 0, none⟩), .int .i64 Nk] W (HasP b w.heap.size W (.tuple #[]) { Z with crash := max Nk (-1) })) := ⟨fun W h => crash_h b _ Z Nk W h⟩
        have FW := Box.mk fw
        have SA := Box.mk sa; have SB := Box.mk sB; have NB := Box.mk hnb
        clear fw sa sB hnb hcell hve ec hf
        by_cases hA : a' = nmM
        · subst hA
          have hmm : nmM = ⟨#[109, 105, 110, 101]⟩ := rfl
          rw [hmm] at FW
          clear hmm k1 k2 k4 k5 k6 k8
          go_wp2_with
          (first
            | (go_at_call 17; ((with_reducible refine FW.out.mono ?_); rintro e w6 ⟨rfl, b6⟩; have B6 := Box.mk b6; have T6 := Box.mk (HB.out.trans (b6.mono HB.out.size)); clear b6 FW)))
          all_goals
            go_roundw
            case rel => exact ⟨k + 1, Z, by omega, by omega, by go_num, ⟨HasD.below hD.out ((B6.out).alloc B6.out.size _)⟩, ⟨T6.out.alloc T6.out.size _⟩, ⟨hK.out.up (Nat.le_succ k)⟩⟩
            case measure => simp [intOf]; omega
        by_cases hB : b' = nmM
        · subst hB
          have hmm : nmM = ⟨#[109, 105, 110, 101]⟩ := rfl
          rw [hmm] at FW
          clear hmm k1 k2 k4 k5 k6 k8
          go_wp2_with
          (first
            | (go_at_call 17; ((with_reducible refine FW.out.mono ?_); rintro e w6 ⟨rfl, b6⟩; have B6 := Box.mk b6; have T6 := Box.mk (HB.out.trans (b6.mono HB.out.size)); clear b6 FW)))
          all_goals
            go_roundw
            case rel => exact ⟨k + 1, Z, by omega, by omega, by go_num, ⟨HasD.below hD.out ((B6.out).alloc B6.out.size _)⟩, ⟨T6.out.alloc T6.out.size _⟩, ⟨hK.out.up (Nat.le_succ k)⟩⟩
            case measure => simp [intOf]; omega
        by_cases h1 : Kk = 1
        · subst h1
          have KN := Box.mk (hK.out.create hA (by have := SA.out; unfold maxLen; omega))
          go_wp2_with
          (first
            | (go_at_call 17; ((with_reducible refine FW.out.mono ?_); rintro e w6 ⟨rfl, b6⟩; have B6 := Box.mk b6; have T6 := Box.mk (HB.out.trans (b6.mono HB.out.size)); clear b6 FW))
            | (go_at_call 13; ((with_reducible refine (k1.out hA _ (HasD.below hD.out ((B6.out).alloc B6.out.size _))).mono ?_); rintro e w7 ⟨rfl, d7, b7⟩; have D7 := Box.mk d7; have B7 := Box.mk ((T6.out.alloc T6.out.size _).trans b7); clear d7 b7)))
          all_goals
            go_roundw
            case rel => first | exact ⟨k + 1, _, by omega, by omega, by go_num, D7, B7, KN⟩ | exact ⟨k + 1, Z, by omega, by omega, by go_num, ⟨HasD.below hD.out ((B6.out).alloc B6.out.size _)⟩, ⟨T6.out.alloc T6.out.size _⟩, ⟨hK.out.up (Nat.le_succ k)⟩⟩
            case measure => simp [intOf]; omega
        by_cases h2 : Kk = 2
        · subst h2
          have KN := Box.mk (hK.out.append hA (s := sb b') (by rw [sb_length]; exact SB.out))
          go_wp2_with
          (first
            | (go_at_call 17; ((with_reducible refine FW.out.mono ?_); rintro e w6 ⟨rfl, b6⟩; have B6 := Box.mk b6; have T6 := Box.mk (HB.out.trans (b6.mono HB.out.size)); clear b6 FW))
            | (go_at_call 14; ((with_reducible refine (k2.out _ (HasD.below hD.out ((B6.out).alloc B6.out.size _))).mono ?_); rintro e w7 ⟨rfl, d7, b7⟩; have D7 := Box.mk d7; have B7 := Box.mk ((T6.out.alloc T6.out.size _).trans b7); clear d7 b7)))
          all_goals
            go_roundw
            case rel => first | exact ⟨k + 1, _, by omega, by omega, by go_num, D7, B7, KN⟩ | exact ⟨k + 1, Z, by omega, by omega, by go_num, ⟨HasD.below hD.out ((B6.out).alloc B6.out.size _)⟩, ⟨T6.out.alloc T6.out.size _⟩, ⟨hK.out.up (Nat.le_succ k)⟩⟩
            case measure => simp [intOf]; omega
        by_cases h4 : Kk = 4
        · subst h4
          have KN := Box.mk (hK.out.syncNames)
          go_wp2_with
          (first
            | (go_at_call 17; ((with_reducible refine FW.out.mono ?_); rintro e w6 ⟨rfl, b6⟩; have B6 := Box.mk b6; have T6 := Box.mk (HB.out.trans (b6.mono HB.out.size)); clear b6 FW))
            | (go_at_call 16; ((with_reducible refine (k4.out _ (HasD.below hD.out ((B6.out).alloc B6.out.size _))).mono ?_); rintro e w7 ⟨rfl, d7, b7⟩; have D7 := Box.mk d7; have B7 := Box.mk ((T6.out.alloc T6.out.size _).trans b7); clear d7 b7)))
          all_goals
            go_roundw
            case rel => first | exact ⟨k + 1, _, by omega, by omega, by go_num, D7, B7, KN⟩ | exact ⟨k + 1, Z, by omega, by omega, by go_num, ⟨HasD.below hD.out ((B6.out).alloc B6.out.size _)⟩, ⟨T6.out.alloc T6.out.size _⟩, ⟨hK.out.up (Nat.le_succ k)⟩⟩
            case measure => simp [intOf]; omega
        by_cases h5 : Kk = 5
        · subst h5
          have KN := Box.mk (hK.out.rename hA hB (by have := SA.out; unfold maxLen; omega) (by have := SB.out; unfold maxLen; omega))
          go_wp2_with
          (first
            | (go_at_call 17; ((with_reducible refine FW.out.mono ?_); rintro e w6 ⟨rfl, b6⟩; have B6 := Box.mk b6; have T6 := Box.mk (HB.out.trans (b6.mono HB.out.size)); clear b6 FW))
            | (go_at_call 18; ((with_reducible refine (k5.out _ (HasD.below hD.out ((B6.out).alloc B6.out.size _))).mono ?_); rintro e w7 ⟨rfl, d7, b7⟩; have D7 := Box.mk d7; have B7 := Box.mk ((T6.out.alloc T6.out.size _).trans b7); clear d7 b7)))
          all_goals
            go_roundw
            case rel => first | exact ⟨k + 1, _, by omega, by omega, by go_num, D7, B7, KN⟩ | exact ⟨k + 1, Z, by omega, by omega, by go_num, ⟨HasD.below hD.out ((B6.out).alloc B6.out.size _)⟩, ⟨T6.out.alloc T6.out.size _⟩, ⟨hK.out.up (Nat.le_succ k)⟩⟩
            case measure => simp [intOf]; omega
        by_cases h6 : Kk = 6
        · subst h6
          have KN := Box.mk (hK.out.remove hA (by have := SA.out; unfold maxLen; omega))
          go_wp2_with
          (first
            | (go_at_call 17; ((with_reducible refine FW.out.mono ?_); rintro e w6 ⟨rfl, b6⟩; have B6 := Box.mk b6; have T6 := Box.mk (HB.out.trans (b6.mono HB.out.size)); clear b6 FW))
            | (go_at_call 19; ((with_reducible refine (k6.out _ (HasD.below hD.out ((B6.out).alloc B6.out.size _))).mono ?_); rintro e w7 ⟨rfl, d7, b7⟩; have D7 := Box.mk d7; have B7 := Box.mk ((T6.out.alloc T6.out.size _).trans b7); clear d7 b7)))
          all_goals
            go_roundw
            case rel => first | exact ⟨k + 1, _, by omega, by omega, by go_num, D7, B7, KN⟩ | exact ⟨k + 1, Z, by omega, by omega, by go_num, ⟨HasD.below hD.out ((B6.out).alloc B6.out.size _)⟩, ⟨T6.out.alloc T6.out.size _⟩, ⟨hK.out.up (Nat.le_succ k)⟩⟩
            case measure => simp [intOf]; omega
        by_cases h8 : Kk = 8
        · subst h8
          have KN := Box.mk (hK.out.crashed NB.out.2)
          go_wp2_with
          (first
            | (go_at_call 17; ((with_reducible refine FW.out.mono ?_); rintro e w6 ⟨rfl, b6⟩; have B6 := Box.mk b6; have T6 := Box.mk (HB.out.trans (b6.mono HB.out.size)); clear b6 FW))
            | (go_at_call 20; ((with_reducible refine (k8.out _ (HasD.below hD.out ((B6.out).alloc B6.out.size _))).mono ?_); rintro e w7 ⟨rfl, d7, b7⟩; have D7 := Box.mk d7; have B7 := Box.mk ((T6.out.alloc T6.out.size _).trans b7); clear d7 b7)))
          all_goals
            go_roundw
            case rel => first | exact ⟨k + 1, _, by omega, by omega, by go_num, D7, B7, KN⟩ | exact ⟨k + 1, Z, by omega, by omega, by go_num, ⟨HasD.below hD.out ((B6.out).alloc B6.out.size _)⟩, ⟨T6.out.alloc T6.out.size _⟩, ⟨hK.out.up (Nat.le_succ k)⟩⟩
            case measure => simp [intOf]; omega
        · clear k1 k2 k4 k5 k6 k8
          go_wp2_with
          (first
            | (go_at_call 17; ((with_reducible refine FW.out.mono ?_); rintro e w6 ⟨rfl, b6⟩; have B6 := Box.mk b6; have T6 := Box.mk (HB.out.trans (b6.mono HB.out.size)); clear b6 FW)))
          all_goals
            go_roundw
            case rel => exact ⟨k + 1, Z, by omega, by omega, by go_num, ⟨HasD.below hD.out ((B6.out).alloc B6.out.size _)⟩, ⟨T6.out.alloc T6.out.size _⟩, ⟨hK.out.up (Nat.le_succ k)⟩⟩
            case measure => simp [intOf]; omega
      · have KZ := Box.mk (hK.out.kept (by omega))
        all_goals
          go_wp2_with (first
            | (go_at_call 21; ((with_reducible refine (FI.out b _ Z KZ.out hD.out HB.out).mono ?_); rintro e w6 ⟨rfl, bb, d, kk, rr⟩; have BB6 := Box.mk bb; have D6 := Box.mk d; have KK := Box.mk kk; have RR := Box.mk rr; clear bb d kk rr KZ))
            | (go_at_call 22; ((with_reducible refine RR.out.out.mono ?_); rintro e w' ⟨rfl, rfl⟩; clear RR))
            | (go_at_call 21; ((with_reducible refine (FI.out b _ _ KK.out D6.out BB6.out).mono ?_); rintro e w7 ⟨rfl, bb, d, kk, rr⟩; have BB7 := Box.mk bb; have R2 := Box.mk rr; clear bb d kk rr KK))
            | (go_at_call 22; ((with_reducible refine R2.out.out.mono ?_); rintro e w' ⟨rfl, rfl⟩; clear R2))
            | (go_at_call 9; ((with_reducible refine (AW.out _).mono ?_); rintro e w8 ⟨rfl, b8⟩; have B8 := Box.mk (BB7.out.trans (b8.mono BB7.out.size)); clear b8)))
          all_goals go_ret
          all_goals exact ⟨rfl, B8.out⟩
    · have KZ := Box.mk (hK.out.kept (by omega))
      all_goals
          go_wp2_with (first
            | (go_at_call 21; ((with_reducible refine (FI.out b _ Z KZ.out hD.out HB.out).mono ?_); rintro e w6 ⟨rfl, bb, d, kk, rr⟩; have BB6 := Box.mk bb; have D6 := Box.mk d; have KK := Box.mk kk; have RR := Box.mk rr; clear bb d kk rr KZ))
            | (go_at_call 22; ((with_reducible refine RR.out.out.mono ?_); rintro e w' ⟨rfl, rfl⟩; clear RR))
            | (go_at_call 21; ((with_reducible refine (FI.out b _ _ KK.out D6.out BB6.out).mono ?_); rintro e w7 ⟨rfl, bb, d, kk, rr⟩; have BB7 := Box.mk bb; have R2 := Box.mk rr; clear bb d kk rr KK))
            | (go_at_call 22; ((with_reducible refine R2.out.out.mono ?_); rintro e w' ⟨rfl, rfl⟩; clear R2))
            | (go_at_call 9; ((with_reducible refine (AW.out _).mono ?_); rintro e w8 ⟨rfl, b8⟩; have B8 := Box.mk (BB7.out.trans (b8.mono BB7.out.size)); clear b8)))
          all_goals go_ret
          all_goals exact ⟨rfl, B8.out⟩

end Go.Proofs.Ytalinhjalnndhaa
