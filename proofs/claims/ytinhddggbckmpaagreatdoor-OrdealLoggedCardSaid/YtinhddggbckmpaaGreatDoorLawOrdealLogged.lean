/- OrdealLogged: FOR EVERY INPUT THE CALL RETURNS true; each argument reads behind the call as it read before.
   Conditions: the listed package-level variables lie as the program's text lays them (the card ties that). -/
import Derived.Test.YtinhddggbckmpaaGreatDoorCards
import Derived.Test.YtinhddggbckmpaaGreatDoorTie
import Derived.Test.YtinhddggbckmpaaGreatDoorLogB
import Derived.Test.YtinhddggbckmpaaGreatDoorRowX
import Derived.Test.YtinhddggbckmpaaGreatDoorIc
import Derived.Test.YtinhddggbckmpaaGreatDoorArgsN
namespace Go.Proofs.YtinhddggbckmpaaGreatDoor.lawOrdealLogged
set_option maxRecDepth 100000
open Go.ChangeShapes Go.WideShapes Go.ChangeAt Go.RowKit M
open Go.ChangeMaps (open_string shut_string)

theorem laidOut : laidOutB Tryz.prog = true := by kernel_rfl
theorem gTab0 : Tryz.prog.globalNamed "ordeal/crc.halves" = some 0 := by kernel_rfl
theorem gTabType0 : (Tryz.prog.globals[0]?).map (·.type) = some 158 := by kernel_rfl
theorem cellsA0 : Tryz.prog.cellsOf 158 = 16 := by kernel_rfl
theorem cellsE0 : Tryz.prog.cellsOf 94 = 1 := by kernel_rfl
theorem table0 {W : World} (h : laidMetH Tryz.prog Rows.ordealLoggedRow.laid W) : Lib.TabIs Tryz.prog W "ordeal/crc.halves" .u32 [0, 274646895, 549293790, 820201905, 1098587580, 1361435347, 1640403810, 1905808397, 2197175160, 2460548119, 2722870694, 2987750089, 3280807620, 3553878443, 3811616794, 4084100981] :=
  Lib.tabIs_of_head (rest := []) gTab0 gTabType0 Tryz.underlying158 Tryz.underlying94 cellsE0 cellsA0 (h.filter (fun x => x.1 == "ordeal/crc.halves"))
theorem tabOf0 {W : World} (h : laidMetH Tryz.prog Rows.ordealLoggedRow.laid W) : Halves W := fun t ht => by
  have hc := (table0 h).cell gTab0 t ht
  rw [hc]
  exact congrArg (fun z => some (Value.int .u32 z)) (halves_get t ht)
theorem gTab5 : Tryz.prog.globalNamed "math/bits.deBruijn64tab" = some 1 := by kernel_rfl
theorem gTabType5 : (Tryz.prog.globals[1]?).map (·.type) = some 140 := by kernel_rfl
theorem cellsA5 : Tryz.prog.cellsOf 140 = 64 := by kernel_rfl
theorem cellsE5 : Tryz.prog.cellsOf 5 = 1 := by kernel_rfl
theorem table5 {W : World} (h : laidMetH Tryz.prog Rows.ordealLoggedRow.laid W) : Lib.TabIs Tryz.prog W "math/bits.deBruijn64tab" .u8 [0, 1, 56, 2, 57, 49, 28, 3, 61, 58, 42, 50, 38, 29, 17, 4, 62, 47, 59, 36, 45, 43, 51, 22, 53, 39, 33, 30, 24, 18, 12, 5, 63, 55, 48, 27, 60, 41, 37, 16, 46, 35, 44, 21, 52, 32, 23, 11, 54, 26, 40, 15, 34, 20, 31, 10, 25, 14, 19, 9, 13, 8, 7, 6] :=
  Lib.tabIs_of_head (rest := []) gTab5 gTabType5 Tryz.underlying140 Tryz.underlying5 cellsE5 cellsA5 (h.filter (fun x => x.1 == "math/bits.deBruijn64tab"))
theorem tabOf5 {W : World} (h : laidMetH Tryz.prog Rows.ordealLoggedRow.laid W) : Tab64 W := fun t ht => by
  have hc := (table5 h).cell gTab5 t ht
  rw [hc]
  exact congrArg (fun z => some (Value.int .u8 z)) (deBruijn_get t ht)
theorem gTab7 : Tryz.prog.globalNamed "ordeal/sha.roundConstants" = some 4 := by kernel_rfl
theorem gTabType7 : (Tryz.prog.globals[4]?).map (·.type) = some 178 := by kernel_rfl
theorem cellsA7 : Tryz.prog.cellsOf 178 = 64 := by kernel_rfl
theorem cellsE7 : Tryz.prog.cellsOf 94 = 1 := by kernel_rfl
theorem table7 {W : World} (h : laidMetH Tryz.prog Rows.ordealLoggedRow.laid W) : Lib.TabIs Tryz.prog W "ordeal/sha.roundConstants" .u32 [1116352408, 1899447441, 3049323471, 3921009573, 961987163, 1508970993, 2453635748, 2870763221, 3624381080, 310598401, 607225278, 1426881987, 1925078388, 2162078206, 2614888103, 3248222580, 3835390401, 4022224774, 264347078, 604807628, 770255983, 1249150122, 1555081692, 1996064986, 2554220882, 2821834349, 2952996808, 3210313671, 3336571891, 3584528711, 113926993, 338241895, 666307205, 773529912, 1294757372, 1396182291, 1695183700, 1986661051, 2177026350, 2456956037, 2730485921, 2820302411, 3259730800, 3345764771, 3516065817, 3600352804, 4094571909, 275423344, 430227734, 506948616, 659060556, 883997877, 958139571, 1322822218, 1537002063, 1747873779, 1955562222, 2024104815, 2227730452, 2361852424, 2428436474, 2756734187, 3204031479, 3329325298] :=
  Lib.tabIs_of_head (rest := []) gTab7 gTabType7 Tryz.underlying178 Tryz.underlying94 cellsE7 cellsA7 (h.filter (fun x => x.1 == "ordeal/sha.roundConstants"))
theorem tabOf7 {W : World} (h : laidMetH Tryz.prog Rows.ordealLoggedRow.laid W) : KTab W := fun t ht => by
  have hc := (table7 h).cell gTab7 t ht
  rw [hc]
  exact congrArg (fun z => some (Value.int .u32 z)) (kN_get t ht)
set_option maxRecDepth 100000 in
theorem contract (H : Type) (enc : TypeId × Value → H) (W : World) (base : Nat) (args : Array Value) (ds gs : List (DataW H)) (before : List MemPlace)
    (hval : ∀ (j : Nat) t v, Tryz.f8.params[j]? = some t → args[j]? = some v → Value.okWide Tryz.prog W .any base t v)
    (hW : DataW.Whole enc Tryz.prog Tryz.f8.params.toList Rows.ordealLoggedSpec.vars false W args.toList ds gs before) (hL : laidMetH Tryz.prog Rows.ordealLoggedRow.laid W) (hsh : W.ShapedOpen Tryz.prog) :
    Calls Tryz.prog 8 args W fun e W' => ∃ v, e = .returned v ∧ Rows.ordealLoggedSpec.post enc Tryz.prog Tryz.f8 false true false false W args v W' := by
  have hW' := hW
  obtain ⟨p, q, hA0, hV, rfl, hfz, hnd⟩ := hW
  have hA : DataW.TrodAll enc Tryz.prog W 0 (fun _ => true) true Tryz.f8.params.toList args.toList ds p := hA0
  rw [Tryz.params8] at hA hval
  obtain ⟨v0, vs0, d0, ds0, p0, q0, hargs, rfl, rfl, h0, r0⟩ := trodAll_cons hA
  obtain ⟨v1, vs1, d1, ds1, p1, q1, rfl, rfl, rfl, h1, r1⟩ := trodAll_cons r0
  obtain ⟨v2, vs2, d2, ds2, p2, q2, rfl, rfl, rfl, h2, r2⟩ := trodAll_cons r1
  obtain ⟨v3, vs3, d3, ds3, p3, q3, rfl, rfl, rfl, h3, r3⟩ := trodAll_cons r2
  obtain ⟨rfl, rfl, rfl⟩ := trodAll_nil r3
  obtain rfl : args = #[v0, v1, v2, v3] := by cases args; simp_all
  obtain ⟨rfl, rfl⟩ := trodVars_none hV
  have k0 := h0
  obtain ⟨V0, a0, n0, c0, rfl, m0, i0⟩ := open_uin Tryz.underlying55 Tryz.underlying30 (by kernel_rfl) (hval 0 55 v0 rfl rfl) h0
  obtain ⟨a1, rfl, rfl, rfl, w1⟩ := open_int Tryz.underlying3 (hval 1 3 v1 rfl rfl) h1
  have b1 : -9223372036854775808 ≤ a1 ∧ a1 ≤ 9223372036854775807 := by simpa [Lit.wf, IntKind.min, IntKind.max, IntKind.signed, IntKind.bits] using w1
  obtain ⟨a2, rfl, rfl, rfl, w2⟩ := open_int Tryz.underlying3 (hval 2 3 v2 rfl rfl) h2
  have b2 : -9223372036854775808 ≤ a2 ∧ a2 ≤ 9223372036854775807 := by simpa [Lit.wf, IntKind.min, IntKind.max, IntKind.signed, IntKind.bits] using w2
  have k3 := h3
  obtain ⟨x3, i3⟩ := open_ints_w Tryz.underlying36 Tryz.underlying3 (by kernel_rfl) (hval 3 36 v3 rfl rfl) h3
  clear hA0
  simp only [List.append_nil] at hW'
  have l0 : ∀ x ∈ p0, x.block < W.heap.size := fun x hx => by simpa using hW'.lt x (by simp [hx])
  have l3 : ∀ x ∈ p3, x.block < W.heap.size := fun x hx => by simpa using hW'.lt x (by simp [hx])
  have hH := tabOf0 hL
  have hB := libW_of hL hsh
  have hT := tabOf5 hL
  have hK := tabOf7 hL
  refine (logged_walk a0 n0 c0 V0 a1 a2 v3 x3 W i0 m0 b1.2 b2.2 i3 hB hH hK hT).mono fun e W' ⟨he, bel⟩ => ?_
  subst he
  exact ⟨_, rfl, _, _, _, [], _, [], hW', trodAll_mk1 (shut_bool Tryz.underlying4 _), (trodAll_cons_mk (Below.trod laidOut (by kernel_rfl) (of_decide_eq_true (by kernel_rfl)) k0 bel l0) (trodAll_cons_mk (shut_int Tryz.underlying3 w1) (trodAll_cons_mk (shut_int Tryz.underlying3 w2) (trodAll_cons_mk (Below.trod laidOut (by kernel_rfl) (of_decide_eq_true (by kernel_rfl)) k3 bel l3) trodAll_mk0)))), rfl, bel.frame _, fun h => by cases h⟩

set_option maxRecDepth 100000 in
theorem reads (os : Os) {H : Type} (enc : TypeId × Value → H) : ∃ places, DataW.whole enc Tryz.prog ((World.laidAll Tryz.prog os Rows.ordealLoggedRow.laid).forCall (fun _ _ => 0) ⟨#[], #[Value.slice none 0 0, .int .i64 0, .int .i64 0, .slice none 0 0], []⟩).memory Tryz.f8.params.toList Rows.ordealLoggedSpec.vars false #[Value.slice none 0 0, .int .i64 0, .int .i64 0, .slice none 0 0].toList 8 = some ([.nil, .lit (.int .i64 0), .lit (.int .i64 0), .nil], [], places) :=
  ⟨[], by kernel_rfl⟩

set_option maxRecDepth 100000 in
theorem lifted (os : Os) (started : os.Started) (H : Type) (enc : TypeId × Value → H) (F : Stop.Interp) :
    ReturnsInHanded {} Tryz.checked os 8 .any ((OpenSpec.ofChange Rows.ordealLoggedSpec).preRow enc Tryz.prog Tryz.f8 Rows.ordealLoggedRow.domain false Rows.ordealLoggedRow.laid) (((OpenSpec.ofChange Rows.ordealLoggedSpec).at F).post enc Tryz.prog Tryz.f8 false true false false) := by
  obtain ⟨places, hx⟩ := reads os enc
  refine returnsInHanded_of_row (C := Tryz.checked) (s := (OpenSpec.ofChange Rows.ordealLoggedSpec)) own started (by kernel_rfl) Tryz.func8
    (witness_row_atRef (enc := enc) (C := Tryz.checked) false (World.laidAll Tryz.prog os Rows.ordealLoggedRow.laid) #[Value.slice none 0 0, .int .i64 0, .int .i64 0, .slice none 0 0] (World.laidAll_os _ _ _) (by kernel_rfl) (by kernel_rfl) (by kernel_rfl)
      (OpenSpec.preRow_of_cond 8 hx (by kernel_rfl) (fun k hk => by cases hk) (by kernel_rfl) (laidMet_laidAll _ (by kernel_rfl) (by kernel_rfl)))) ?_
  intro W base args ds gs before hval hW _ _ _ hL hsh _
  exact contract H enc W base args ds gs before hval hW hL hsh

theorem said : Rows.OrdealLoggedSaid :=
  OpenClaim.holds_of_cond 8 Tryz.f8 rfl rfl rfl rfl rfl rfl rfl ⟨rfl, rfl, rfl, rfl, rfl⟩ rfl rfl rfl rfl rfl (by kernel_rfl) Tryz.func8 (by kernel_rfl)
    (of_decide_eq_true (by kernel_rfl)) (by unfold Func.isWrapper; first | (rw [if_pos (by decide +kernel)]; kernel_rfl) | (rw [if_neg (by decide +kernel)]; exact ⟨rfl, rfl⟩))
    (fun os started H enc _ F => by rw [OpenClaim.pre_eq_preRow]; exact lifted os started H enc F)

theorem plain (f : FuncId) (fn : Func) (hf : Tryz.pinned.checked.prog.funcNamed "ordeal/ordealtop.OrdealLogged" = some f) (hfn : Tryz.pinned.checked.prog.funcs[f]? = some fn) :
    true = Tryz.pinned.checked.prog.looks [] ∧ ∀ (j : Nat) t, fn.params[j]? = some t → Tryz.pinned.checked.prog.wantsStandIn t = false := by
  obtain rfl : f = 8 := Option.some.inj ((show Tryz.prog.funcNamed "ordeal/ordealtop.OrdealLogged" = some 8 by kernel_rfl).symm.trans hf) |>.symm
  obtain rfl : fn = Tryz.f8 := (Option.some.inj (Tryz.func8.symm.trans hfn)).symm
  refine ⟨by kernel_rfl, fun j t ht => ?_⟩
  rw [Tryz.params8] at ht
  have hm := Array.mem_of_getElem? ht
  have hall : ∀ u ∈ #[55, 3, 3, 36], Tryz.prog.wantsStandIn u = false := by
    intro u hu
    simp at hu
    rcases hu with rfl | rfl | rfl
    all_goals kernel_rfl
  exact hall t hm

theorem card : Rows.OrdealLoggedCardSaid :=
  Claim7.holds_tied_plain_at .later [] _ _ _ _ said (fun _ h => by cases h) (by kernel_rfl) (fun _ h => by cases h) ordealLogged_row_tie rfl ⟨rfl, rfl⟩ (by kernel_rfl) rfl plain (by kernel_rfl)

end Go.Proofs.YtinhddggbckmpaaGreatDoor.lawOrdealLogged
