/- The law RelOrders, walked. -/
import Derived.Test.YtbcbhofbikdfiaaDoorRelK
namespace Go.Proofs.YtbcbhofbikdfiaaDoor
set_option maxRecDepth 100000
open Go.RowKit M

/-- the set of a list's things -/
def seenM (l : List Nat) : Nat := l.foldl (fun s a => s ||| 2 ^ a) 0
theorem seen_app (l : List Nat) (a : Nat) : seenM (l ++ [a]) = seenM l ||| 2 ^ a := by unfold seenM; rw [List.foldl_append]; rfl
theorem seen_bit (l : List Nat) (b : Nat) : (seenM l).testBit b = decide (b ∈ l) := by
  have : ∀ (l : List Nat) (s : Nat), (l.foldl (fun s a => s ||| 2 ^ a) s).testBit b = (s.testBit b || decide (b ∈ l)) := by
    intro l
    induction l with
    | nil => intro s; simp
    | cons a l ih =>
      intro s
      rw [List.foldl_cons, ih, Nat.testBit_or, Nat.testBit_two_pow]
      by_cases e : a = b
      · subst e; simp
      · have e' : ¬ b = a := Ne.symm e
        simp [e, e']
  rw [seenM, this]; simp
theorem seen_lt {l : List Nat} (h : ∀ a ∈ l, a < 16) : seenM l < 65536 := by
  apply Nat.lt_pow_two_of_testBit (n := 16)
  intro i hi
  rw [seen_bit]
  exact decide_eq_false (fun k => by have := h i k; omega)
theorem bit16 {v k : Nat} (hv : v < 65536) (_hk : k < 16) : bits BinOp.and IntKind.u16 ((v : Int) / 2 ^ k) 1 = if v.testBit k then 1 else 0 := by
  rw [show ((2 : Int) ^ k) = ((2 ^ k : Nat) : Int) by simp, ← Int.natCast_ediv]
  have hle : v / 2 ^ k ≤ v := Nat.div_le_self _ _
  have h := and16 (a := v / 2 ^ k) (b := 1) (by omega) (by omega)
  rw [show ((1 : Nat) : Int) = 1 from rfl] at h
  rw [h, Nat.testBit_eq_decide_div_mod_eq, Nat.and_one_is_mod]
  by_cases e : v / 2 ^ k % 2 = 1
  · simp [e]
  · have : v / 2 ^ k % 2 = 0 := by omega
    simp [this]
/-- what an order says of itself -/
structure OrdOk (r : List Nat) (s : Nat) (l : List Nat) : Prop where
  mem : ∀ a, a ∈ l ↔ a ∈ R.els s
  nd : l.Nodup
  pw : l.Pairwise (fun x y => R.has r y x = false)
theorem ordOk {r : List Nat} (hr : R.Wf r) {s : Nat} (hs : s < 65536) {l : List Nat} (h : R.ordM r s = some l) : OrdOk r s l := by
  obtain ⟨h1, h2, h3, _⟩ := R.ord_some (R.turn_wf hr) 16 s l hs (R.els_len s) h
  exact ⟨h1, h2, h3.imp fun {x y} hh => by rw [R.has_turn hr] at hh; exact hh⟩
theorem OrdOk.all {r : List Nat} {s : Nat} (hs : s < 65536) {l : List Nat} (h : OrdOk r s l) : seenM l = s := by
  apply Nat.eq_of_testBit_eq
  intro i
  rw [seen_bit, Bool.eq_iff_iff, decide_eq_true_eq, h.mem, R.mem_els]
  refine ⟨fun k => k.2, fun k => ⟨?_, k⟩⟩
  rcases Nat.lt_or_ge i 16 with h1 | h1
  · exact h1
  · have h2 := Nat.ge_two_pow_of_testBit k
    have h4 : 2 ^ 16 ≤ 2 ^ i := Nat.pow_le_pow_right (by decide) h1
    omega
theorem ordNone {r : List Nat} (hr : R.Wf r) {s : Nat} (hs : s < 65536) (h : R.ordM r s = none) : R.roundM (R.andM r (R.crossM s s)) = true := by
  obtain ⟨l, h1, h2, h3⟩ := R.ord_none (R.turn_wf hr) 16 s hs (R.els_len s) h
  refine R.round_of (R.and_wf hr) h1 (fun a ha => ?_)
  obtain ⟨b, hb, hc⟩ := h3 a ha
  rw [R.has_turn hr] at hc
  refine ⟨b, hb, ?_⟩
  rw [R.has_and hr, hc, has_cross hs, decide_eq_true (h2 b hb), (R.mem_els.1 (h2 a ha)).2]; rfl

set_option maxRecDepth 100000 in
set_option linter.unusedSimpArgs false in
set_option maxHeartbeats 4000000 in
theorem relOrders_none (r : List Nat) (s : Nat) (hr : R.Wf r) (hs : s < 65536) (hn : R.ordM r s = none) (w : World) (hT : Tab64 w) :
    Calls Tryd.prog 6 #[.agg (w16 r).toArray, .int .u16 (s : Int)] w fun e w' => e = .returned (.bool true) ∧ Below w.heap.size w w' := by
  have ko : ∀ W, Tab64 W → Calls Tryd.prog 30 #[.agg (w16 r).toArray, .int .u16 (s : Int)] W fun e w' => e = .returned (.tuple #[.slice none 0 0, .bool false]) ∧ Below W.heap.size W w' := fun W h => by
    refine (order_any r hr s hs W h).mono ?_
    rintro e w' ⟨hb, hm⟩
    rw [hn] at hm
    exact ⟨hm, hb⟩
  have ka : ∀ W, Tab64 W → Calls Tryd.prog 8 #[] W fun e w' => e = .returned (.bool true) ∧ Below W.heap.size W w' := fun W h => awake16_any W h
  have kc : ∀ W, Tab64 W → Calls Tryd.prog 33 #[.int .u16 (s : Int), .int .u16 (s : Int)] W fun e w' => e = .returned (.agg (w16 (R.crossM s s)).toArray) ∧ Below W.heap.size W w' := fun W h => cross_any s s hs hs W h
  have kd : ∀ W, Calls Tryd.prog 18 #[.agg (w16 r).toArray, .agg (w16 (R.crossM s s)).toArray] W fun e w' => e = .returned (.agg (w16 (R.andM r (R.crossM s s))).toArray) ∧ Below W.heap.size W w' := fun W => and_any r _ hr (cross_wf s hs) W
  have kr : ∀ W, Calls Tryd.prog 28 #[.agg (w16 (R.andM r (R.crossM s s))).toArray] W fun e w' => e = .returned (.bool true) ∧ Below W.heap.size W w' := fun W => by
    have := around_any (R.andM r (R.crossM s s)) (R.and_wf hr) W
    rw [ordNone hr hs hn] at this; exact this
  have KO := Box.mk ko; have KA := Box.mk ka; have KC := Box.mk kc; have KD := Box.mk kd; have KR := Box.mk kr
  have RR := Box.mk (RB.new w r)
  have TT := Box.mk (tab_bel hT (aset w (.cells (w16 r).toArray 25)))
  have BB := Box.mk (aset w (.cells (w16 r).toArray 25))
  have IR := Box.mk (infoL hr)
  clear ko ka kc kd kr hT hr hn
  generalize R.andM r (R.crossM s s) = X1 at *
  generalize R.crossM s s = X2 at *
  go_enter Tryd.func6, Tryd.ntmps6
  go_wp2_with (first
    | ((with_reducible refine at_load 25 (.tmp 2) ?_); refine wpList_load_mid rfl 25 (.tmp 2) (by rfl) w.heap.size 0 (by rfl) (w16 r) _ RR.out.range undR rfl IR.out ?_)
    | (go_at_call 30; ((with_reducible refine (KO.out _ TT.out).mono ?_); rintro e w1 ⟨rfl, b1⟩; replace RR := Box.mk (RR.out.below b1); replace TT := Box.mk (tab_bel TT.out b1); replace BB := Box.mk (bel BB.out b1); clear b1)))
  refine wp_region_held_drew (S := fun w' => RB w' w.heap.size r ∧ Tab64 w' ∧ Below w.heap.size w w') (by kernel_rfl) ⟨RR.out, TT.out, BB.out.drew⟩ (fun hHeld => ?_)
  refine wpAnyH_ready (rs := [0]) (by kernel_rfl) (by simp) ?_
  refine AllReadyH.cons rfl (fun K hK => ?_) AllReadyH.nil
  go_simp
  go_wp2_with (first
    | (go_at_call 8; ((with_reducible refine (KA.out _ hHeld.2.1).mono ?_); rintro e w1 ⟨rfl, b1⟩))
    | (go_at_call 33; ((with_reducible refine (KC.out _ hHeld.2.1).mono ?_); rintro e w1 ⟨rfl, b1⟩))
    | (go_at_call 18; ((with_reducible refine (KD.out _).mono ?_); rintro e w1 ⟨rfl, b1⟩))
    | (go_at_call 28; ((with_reducible refine (KR.out _).mono ?_); rintro e w1 ⟨rfl, b1⟩)))
  refine hK.out _ _ ⟨hHeld.1.below b1, tab_bel hHeld.2.1 b1, bel hHeld.2.2 b1⟩ (fun hHeld => ?_)
  clear hK K b1
  try simp only [Act.put, List.setIfInBounds_toArray, List.set_cons_zero, List.set_cons_succ]
  refine wpAnyH_ready (rs := [1]) (by kernel_rfl) (by simp) ?_
  refine AllReadyH.cons rfl (fun K hK => ?_) AllReadyH.nil
  go_simp
  refine hK.out _ _ hHeld (fun hHeld => ?_)
  clear hK K
  try simp only [Act.put, List.setIfInBounds_toArray, List.set_cons_zero, List.set_cons_succ]
  refine wpAnyH_ready (rs := [2]) (by kernel_rfl) (by simp) ?_
  refine AllReadyH.cons rfl (fun K hK => ?_) AllReadyH.nil
  go_simp
  refine hK.out _ _ hHeld (fun hHeld => ?_)
  clear hK K
  try simp only [Act.put, List.setIfInBounds_toArray, List.set_cons_zero, List.set_cons_succ]
  refine wpAnyH_ready (rs := [3]) (by kernel_rfl) (by simp) ?_
  refine AllReadyH.cons rfl (fun K hK => ?_) AllReadyH.nil
  go_simp
  refine hK.out _ _ hHeld (fun hHeld => ?_)
  clear hK K
  try simp only [Act.put, List.setIfInBounds_toArray, List.set_cons_zero, List.set_cons_succ]
  refine wpAnyH_ready (rs := [4]) (by kernel_rfl) (by simp) ?_
  refine AllReadyH.cons rfl (fun K hK => ?_) AllReadyH.nil
  go_simp
  refine hK.out _ _ hHeld (fun hHeld => ?_)
  clear hK K
  try simp only [Act.put, List.setIfInBounds_toArray, List.set_cons_zero, List.set_cons_succ]
  refine wpAnyH_ready (rs := [5]) (by kernel_rfl) (by simp) ?_
  refine AllReadyH.cons rfl (fun K hK => ?_) AllReadyH.nil
  go_simp
  refine hK.out _ _ hHeld (fun hHeld => ?_)
  clear hK K
  try simp only [Act.put, List.setIfInBounds_toArray, List.set_cons_zero, List.set_cons_succ]
  refine wpAnyH_ready (rs := [6]) (by kernel_rfl) (by simp) ?_
  refine AllReadyH.cons rfl (fun K hK => ?_) AllReadyH.nil
  go_simp
  refine hK.out _ _ hHeld (fun hHeld => ?_)
  clear hK K
  try simp only [Act.put, List.setIfInBounds_toArray, List.set_cons_zero, List.set_cons_succ]
  refine wpAnyH_take (i := 7) (v := _) rfl (by kernel_rfl) (by kernel_rfl) (by kernel_rfl) (fun _ _ _ h => h) (yieldsIf_load_mid (by rfl) _ _ rfl _ _ rfl (w16 r) _ (fun w' h => h.1.range) undR rfl IR.out) hHeld ?_
  try simp only [Act.put, List.setIfInBounds_toArray, List.set_cons_zero, List.set_cons_succ]
  refine wpAnyH_take (i := 8) (v := _) rfl (by kernel_rfl) (by kernel_rfl) (by kernel_rfl) (fun _ _ _ h => h) (Or.inl ⟨by rfl, fun w' hw' => by go_simp; rfl⟩) hHeld ?_
  try simp only [Act.put, List.setIfInBounds_toArray, List.set_cons_zero, List.set_cons_succ]
  refine wpAnyH_ready (rs := [9]) (by kernel_rfl) (by simp) ?_
  refine AllReadyH.cons rfl (fun K hK => ?_) AllReadyH.nil
  go_simp
  refine hK.out _ _ hHeld (fun hHeld => ?_)
  clear hK K
  try simp only [Act.put, List.setIfInBounds_toArray, List.set_cons_zero, List.set_cons_succ]
  refine wpAnyH_ready (rs := [10]) (by kernel_rfl) (by simp) ?_
  refine AllReadyH.cons rfl (fun K hK => ?_) AllReadyH.nil
  go_simp
  go_wp2_with (first
    | (go_at_call 8; ((with_reducible refine (KA.out _ hHeld.2.1).mono ?_); rintro e w1 ⟨rfl, b1⟩))
    | (go_at_call 33; ((with_reducible refine (KC.out _ hHeld.2.1).mono ?_); rintro e w1 ⟨rfl, b1⟩))
    | (go_at_call 18; ((with_reducible refine (KD.out _).mono ?_); rintro e w1 ⟨rfl, b1⟩))
    | (go_at_call 28; ((with_reducible refine (KR.out _).mono ?_); rintro e w1 ⟨rfl, b1⟩)))
  refine hK.out _ _ ⟨hHeld.1.below b1, tab_bel hHeld.2.1 b1, bel hHeld.2.2 b1⟩ (fun hHeld => ?_)
  clear hK K b1
  try simp only [Act.put, List.setIfInBounds_toArray, List.set_cons_zero, List.set_cons_succ]
  refine wpAnyH_ready (rs := [11]) (by kernel_rfl) (by simp) ?_
  refine AllReadyH.cons rfl (fun K hK => ?_) AllReadyH.nil
  go_simp
  go_wp2_with (first
    | (go_at_call 8; ((with_reducible refine (KA.out _ hHeld.2.1).mono ?_); rintro e w1 ⟨rfl, b1⟩))
    | (go_at_call 33; ((with_reducible refine (KC.out _ hHeld.2.1).mono ?_); rintro e w1 ⟨rfl, b1⟩))
    | (go_at_call 18; ((with_reducible refine (KD.out _).mono ?_); rintro e w1 ⟨rfl, b1⟩))
    | (go_at_call 28; ((with_reducible refine (KR.out _).mono ?_); rintro e w1 ⟨rfl, b1⟩)))
  refine hK.out _ _ ⟨hHeld.1.below b1, tab_bel hHeld.2.1 b1, bel hHeld.2.2 b1⟩ (fun hHeld => ?_)
  clear hK K b1
  try simp only [Act.put, List.setIfInBounds_toArray, List.set_cons_zero, List.set_cons_succ]
  refine wpAnyH_ready (rs := [12]) (by kernel_rfl) (by simp) ?_
  refine AllReadyH.cons rfl (fun K hK => ?_) AllReadyH.nil
  go_simp
  go_wp2_with (first
    | (go_at_call 8; ((with_reducible refine (KA.out _ hHeld.2.1).mono ?_); rintro e w1 ⟨rfl, b1⟩))
    | (go_at_call 33; ((with_reducible refine (KC.out _ hHeld.2.1).mono ?_); rintro e w1 ⟨rfl, b1⟩))
    | (go_at_call 18; ((with_reducible refine (KD.out _).mono ?_); rintro e w1 ⟨rfl, b1⟩))
    | (go_at_call 28; ((with_reducible refine (KR.out _).mono ?_); rintro e w1 ⟨rfl, b1⟩)))
  refine hK.out _ _ ⟨hHeld.1.below b1, tab_bel hHeld.2.1 b1, bel hHeld.2.2 b1⟩ (fun hHeld => ?_)
  clear hK K b1
  try simp only [Act.put, List.setIfInBounds_toArray, List.set_cons_zero, List.set_cons_succ]
  refine wpAnyH_ready (rs := [13]) (by kernel_rfl) (by simp) ?_
  refine AllReadyH.cons rfl (fun K hK => ?_) AllReadyH.nil
  go_simp
  refine hK.out _ _ hHeld (fun hHeld => ?_)
  clear hK K
  try simp only [Act.put, List.setIfInBounds_toArray, List.set_cons_zero, List.set_cons_succ]
  refine wpAnyH_ready (rs := [14]) (by kernel_rfl) (by simp) ?_
  refine AllReadyH.cons rfl (fun K hK => ?_) AllReadyH.nil
  go_simp
  refine hK.out _ _ hHeld (fun hHeld => ?_)
  clear hK K
  try simp only [Act.put, List.setIfInBounds_toArray, List.set_cons_zero, List.set_cons_succ]
  refine wpAnyH_done (by kernel_rfl) ?_ _
  go_wp2_with fail
  go_ret
  exact ⟨rfl, hHeld.2.2⟩

theorem seen_pre {l : List Nat} {i : Nat} (h : i < l.length) : seenM (l.take (i + 1)) = seenM (l.take i) ||| 2 ^ l.getD i 0 := by
  rw [List.take_add_one, List.getElem?_eq_getElem h, List.getD, List.getElem?_eq_getElem h]
  exact seen_app _ _
set_option maxRecDepth 100000 in
set_option maxHeartbeats 4000000 in
theorem relOrders_some (r : List Nat) (s : Nat) (hr : R.Wf r) (hs : s < 65536) (l : List Nat) (hn : R.ordM r s = some l) (w : World) (hT : Tab64 w) :
    Calls Tryd.prog 6 #[.agg (w16 r).toArray, .int .u16 (s : Int)] w fun e w' => e = .returned (.bool true) ∧ Below w.heap.size w w' := by
  have hok := ordOk hr hs hn
  have hl16 : ∀ a ∈ l, a < 16 := fun a ha => (R.mem_els.1 ((hok.mem a).1 ha)).1
  have hll : l.length ≤ 16 := by
    have h1 := ((List.perm_ext_iff_of_nodup hok.nd (R.els_nodup s)).2 hok.mem).length_eq
    have h2 := R.els_len s
    omega
  have ko : ∀ W, Tab64 W → Calls Tryd.prog 30 #[.agg (w16 r).toArray, .int .u16 (s : Int)] W fun e w' => ∃ v, e = .returned (.tuple #[v, .bool true]) ∧ w'.ownsRow W.heap.size 3 1 v l.length (ints l) ∧ Below W.heap.size W w' := fun W h => by
    refine (order_any r hr s hs W h).mono ?_
    rintro e w' ⟨hb, hm⟩
    rw [hn] at hm
    obtain ⟨v, hv, hrow⟩ := hm
    exact ⟨v, hv, hrow, hb⟩
  have ka : ∀ W, Tab64 W → Calls Tryd.prog 8 #[] W fun e w' => e = .returned (.bool true) ∧ Below W.heap.size W w' := fun W h => awake16_any W h
  have KO := Box.mk ko; have KA := Box.mk ka
  have RR := Box.mk (RB.new w r)
  have TT := Box.mk (tab_bel hT (aset w (.cells (w16 r).toArray 25)))
  have BB := Box.mk (aset w (.cells (w16 r).toArray 25))
  have IR := Box.mk (infoL hr)
  have HR := Box.mk hr; have OK := Box.mk hok; have L16 := Box.mk hl16
  clear ko ka hT hr hn hok hl16
  go_enter Tryd.func6, Tryd.ntmps6
  go_upto_region 5 with (first
    | ((with_reducible refine at_load 25 (.tmp 2) ?_); refine wpList_load_mid rfl 25 (.tmp 2) (by rfl) w.heap.size 0 (by rfl) (w16 r) _ RR.out.range undR rfl IR.out ?_)
    | (go_at_call 30; ((with_reducible refine (KO.out _ TT.out).mono ?_); rintro e w1 ⟨v1, rfl, row1, b1⟩; have RW := Box.mk row1; replace RR := Box.mk (RR.out.below b1); replace TT := Box.mk (tab_bel TT.out b1); replace BB := Box.mk (bel BB.out b1); clear b1 row1)))
  obtain ⟨p1, c1, rfl⟩ := rowSlice RW.out
  have hp : 0 < l.length → ∃ g, p1 = some ⟨g, 0, none⟩ := fun h0 => by
    obtain ⟨g, c, e⟩ := rowSome RW.out h0
    injection e with e1
    exact ⟨g, e1⟩
  have HP := Box.mk hp
  clear hp
  generalize hm : l.length = m at *
  have HM := Box.mk hm
  clear hm
  go_wp2_with fail
  go_loopw [7, 35] (fun sn iv wr => ∃ i : Nat, i ≤ m ∧ iv = .int .i64 (i : Int) ∧ sn = .int .u16 ((seenM (l.take i) : Nat) : Int) ∧ Box (RB wr w.heap.size r) ∧ Box (wr.ownsRow (w.alloc (.cells (w16 r).toArray 25)).heap.size 3 1 (.slice p1 m c1) m (ints l)) ∧ Box (Tab64 wr) ∧ Box (Below w.heap.size w wr)) (fun _ iv _ => m - (intOf iv).toNat)
  case atStart => exact ⟨0, by omega, rfl, rfl, RR, RW, TT, BB⟩
  case round =>
    clear RR RW TT BB
    obtain ⟨i, hi, rfl, rfl, RR, RW, TT, BB⟩ := hrel
    by_cases hlt : i < m
    · obtain ⟨g, rfl⟩ := HP.out (by omega)
      obtain ⟨a, hA⟩ : ∃ a, a = l.getD i 0 := ⟨_, rfl⟩
      have hil : i < l.length := by rw [HM.out]; exact hlt
      have hget : l[i]? = some a := by rw [hA, List.getD, List.getElem?_eq_getElem hil]; rfl
      have ha16 := L16.out a (List.mem_of_getElem? hget)
      have ca : wr.cell? ⟨g, i, none⟩ = some (.int .i64 (a : Int)) := by
        rw [RW.out.cellAt i (by omega)]
        simp [ints, hget]
      have hsl : seenM (l.take i) < 65536 := seen_lt fun x hx => L16.out x (List.mem_of_mem_take hx)
      have hsn : seenM (l.take (i + 1)) = seenM (l.take i) ||| 2 ^ a := by rw [seen_pre hil, ← hA]
      have e1 := bit16 hs ha16
      rw [(R.mem_els.1 ((OK.out.mem a).1 (List.mem_of_getElem? hget))).2] at e1
      have e2 := bit16 hsl ha16
      have hnm : a ∉ l.take i := fun k => by
        obtain ⟨j, hj, he⟩ := List.mem_iff_getElem.1 k
        have hj' : j < i := by simp at hj; omega
        rw [List.getElem_take] at he
        have h1 := (List.nodup_iff_pairwise_ne.1 OK.out.nd)
        have h2 := List.pairwise_iff_getElem.1 h1 j i (by omega) hil hj'
        have h3 : l[i] = a := by rw [List.getElem?_eq_getElem hil] at hget; exact Option.some.inj hget
        rw [he, h3] at h2
        exact h2 rfl
      rw [seen_bit, decide_eq_false hnm] at e2
      have hpair : ∀ b ∈ l.take i, R.has r a b = false := fun b k => by
        obtain ⟨j, hj, he⟩ := List.mem_iff_getElem.1 k
        have hj' : j < i := by simp at hj; omega
        rw [List.getElem_take] at he
        have h2 := List.pairwise_iff_getElem.1 OK.out.pw j i (by omega) hil hj'
        have h3 : l[i] = a := by rw [List.getElem?_eq_getElem hil] at hget; exact Option.some.inj hget
        rw [he, h3] at h2
        exact h2
      have hin : ∀ b, b < 16 → bits BinOp.and IntKind.u16 (((seenM (l.take i) : Nat) : Int) / 2 ^ b) 1 = if b ∈ l.take i then 1 else 0 := fun b hb => by
        rw [bit16 hsl hb, seen_bit]; simp
      simp only [if_true, if_false, Bool.false_eq_true] at e1 e2
      have n0 := or16 hsl (R.one_lt ha16)
      have p0 := pow16 ha16
      have N0 : Box (bits BinOp.or IntKind.u16 ((seenM (l.take i) : Nat) : Int) ((2 : Int) ^ a) = ((seenM (l.take i) ||| 2 ^ a : Nat) : Int)) := ⟨by rw [← n0]; simp⟩
      have HSN := Box.mk hsn; have HPR := Box.mk hpair; have HIN := Box.mk hin
      have HMI : Box (∀ b, b ∈ l.take i → b < 16) := ⟨fun b hb => L16.out b (List.mem_of_mem_take hb)⟩
      clear hsn hpair hin hnm hget hil hA hsl
      generalize seenM (l.take i) = sn at *
      generalize (sn ||| 2 ^ a) = sn2 at *
      generalize l.take i = pre at *
      have i1 : (0 : Int) ≤ (a : Int) := by omega
      have i2 : (a : Int) < 16 := by omega
      have i3 : ¬ (15 : Int) < (a : Int) := by omega
      have i4 : ¬ (a : Int) < 0 := by omega
      go_wp2_with fail
      go_loopw [10] (fun bv wr => ∃ b : Nat, b ≤ 16 ∧ bv = .int .i64 (b : Int) ∧ Box (RB wr w.heap.size r) ∧ Box (wr.ownsRow (w.alloc (.cells (w16 r).toArray 25)).heap.size 3 1 (.slice (some ⟨g, 0, none⟩) m c1) m (ints l)) ∧ Box (Tab64 wr) ∧ Box (Below w.heap.size w wr)) (fun bv _ => 16 - (intOf bv).toNat)
      case atStart => exact ⟨0, by omega, rfl, RR, RW, TT, BB⟩
      case round =>
        clear RR RW TT BB ca
        obtain ⟨b, hb, rfl, RR, RW, TT, BB⟩ := hrel
        by_cases hbt : b < 16
        · have hb0 := HIN.out b hbt
          have i6 : (0 : Int) ≤ (b : Int) := by omega
          have i7 : (b : Int) < 16 := by omega
          by_cases hbm : b ∈ pre
          · rw [if_pos hbm] at hb0
            have hc := has_any r HR.out (a : Int) (b : Int) wr
            rw [hasI_nat, HPR.out b hbm] at hc
            have HC := Box.mk hc
            clear hc hbm
            go_wp2_with (first
              | ((with_reducible refine at_load 25 (.tmp 2) ?_); refine wpList_load_wanted (by rfl) 25 (.tmp 2) (by rfl) w.heap.size 0 (by rfl) (w16 r) _ RR.out.range undR rfl IR.out ?_)
              | (go_at_call 12; ((with_reducible refine HC.out.mono ?_); rintro e w2 ⟨rfl, b2⟩; have B2 := Box.mk b2; clear b2)))
            go_roundw
            case rel => exact ⟨b + 1, by omega, by go_num, ⟨RR.out.below B2.out⟩, ⟨rowBel RW.out B2.out⟩, ⟨tab_bel TT.out B2.out⟩, ⟨bel BB.out B2.out⟩⟩
            case measure => simp [intOf]; omega
          · rw [if_neg hbm] at hb0
            clear hbm
            go_wp2_with fail
            go_roundw
            case rel => exact ⟨b + 1, by omega, by go_num, RR, RW, TT, BB⟩
            case measure => simp [intOf]; omega
        · obtain rfl : b = 16 := by omega
          have i8 : ((16 : Int) < 16) = False := by simp
          go_wp2_with fail
          go_roundw
          case rel => exact ⟨i + 1, by omega, by go_num, by rw [HSN.out, N0.out], RR, RW, TT, BB⟩
          case measure => simp [intOf]; omega
    · obtain rfl : m = i := by omega
      have hfin : seenM (l.take m) = s := by rw [← HM.out, List.take_length]; exact OK.out.all hs
      rw [hfin]
      clear hfin
      have i5 : ((m : Int) < (m : Int)) = False := by simp
      go_wp2_with (first
        | (go_at_call 8; ((with_reducible refine (KA.out _ TT.out).mono ?_); rintro e w2 ⟨rfl, b2⟩)))
      go_ret
      exact ⟨rfl, bel BB.out b2⟩

theorem relOrders_walk (r : List Nat) (s : Nat) (hr : R.Wf r) (hs : s < 65536) (w : World) (hT : Tab64 w) :
    Calls Tryd.prog 6 #[.agg (w16 r).toArray, .int .u16 (s : Int)] w fun e w' => e = .returned (.bool true) ∧ Below w.heap.size w w' := by
  cases h : R.ordM r s with
  | none => exact relOrders_none r s hr hs h w hT
  | some l => exact relOrders_some r s hr hs l h w hT
end Go.Proofs.YtbcbhofbikdfiaaDoor
