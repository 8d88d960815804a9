/- Tables: ordeallaw22.TableOrder. -/
import Derived.Test.YtpinpplbjgbkaaaDoorTabT
import Derived.BigQuiet
import Derived.Deep.RegionHeld3
namespace Go.Proofs.YtpinpplbjgbkaaaDoor
set_option maxRecDepth 100000
open Go.RowKit Go.Maps Go.Sort M

theorem Tab.nodup {w : World} {b : Nat} {mo : Option Nat} {l : List Ent} (h : Tab w b mo l) : (l.map kkE).Nodup := by
  cases mo with
  | none => rw [h.empt rfl]; exact List.nodup_nil
  | some m => exact (h.mapd m rfl).2.nd
theorem nodup_of_kk {l : List Ent} (h : (l.map kkE).Nodup) : l.Nodup := List.Pairwise.imp (fun h e => h (by rw [e])) (List.pairwise_map.1 h)
theorem cBelT {w w' : World} {a : Addr} {v : Value} (h : w.cell? a = some v) (hb : Below w.heap.size w w') : w'.cell? a = some v := (hb.cell (World.block_lt_of_cell? w _ h)).trans h
theorem belT {w W W' : World} (h : Below w.heap.size w W) (hb : Below W.heap.size W W') : Below w.heap.size w W' := h.trans (hb.mono h.size)
/-- each place comes up -/
theorem order_all : ∀ r : Fin 12, ∀ k : Fin 12, ∃ i : Fin 13, (i.val * (1 + r.val)) % 13 = k.val := by decide

theorem order_step {A B : Nat → ByteArray} {l l2 l3 : List Ent} {bl : Bool} {x : Ent} {j c q : Nat} (hu : ∀ a ∈ l, ∀ b ∈ l, kkE a = kkE b → a = b) (hx : x = itE A B ((j * c) % 13)) (hxl : x ∈ l) (hl : l2.length ≤ j)
    (hS : ∀ y ∈ l2, y ∈ l) (hC : ∀ i, i < j → (i * c) % 13 < q → itE A B ((i * c) % 13) ∈ l2)
    (hD : (bl = false ∧ l3 = l2 ∧ ∃ y ∈ l2, y.key = x.key) ∨ (bl = true ∧ l3 = x :: l2 ∧ ∀ y ∈ l2, y.key ≠ x.key)) :
    l3.length ≤ j + 1 ∧ (∀ y ∈ l3, y ∈ l) ∧ ∀ i, i < j + 1 → (i * c) % 13 < q → itE A B ((i * c) % 13) ∈ l3 := by
  have key : x ∈ l3 ∧ l3.length ≤ j + 1 ∧ (∀ y ∈ l3, y ∈ l) ∧ ∀ y ∈ l2, y ∈ l3 := by
    rcases hD with ⟨_, rfl, y, hy, he⟩ | ⟨_, rfl, _⟩
    · have e : y = x := hu y (hS y hy) x hxl (kkE_of he)
      exact ⟨e ▸ hy, by omega, hS, fun _ h => h⟩
    · refine ⟨by simp, by simp; omega, fun y hy => ?_, fun y hy => by simp [hy]⟩
      rcases List.mem_cons.1 hy with e | e
      · rw [e]; exact hxl
      · exact hS y e
  refine ⟨key.2.1, key.2.2.1, fun i hi hq => ?_⟩
  by_cases e : i = j
  · rw [e, ← hx]; exact key.1
  · exact key.2.2.2 _ (hC i (by omega) hq)
theorem order_done {A B : Nat → ByteArray} {l l2 : List Ent} {c q : Nat} (hc : 1 ≤ c ∧ c ≤ 12) (hq : q ≤ 12) (hl : l = itL A B q) (h1 : (l.map kkE).Nodup) (h2 : (l2.map kkE).Nodup)
    (hS : ∀ y ∈ l2, y ∈ l) (hC : ∀ i, i < 13 → (i * c) % 13 < q → itE A B ((i * c) % 13) ∈ l2) : l2.Perm l := by
  rw [List.perm_ext_iff_of_nodup (nodup_of_kk h2) (nodup_of_kk h1)]
  refine fun x => ⟨hS x, fun hx => ?_⟩
  rw [hl] at hx
  unfold itL at hx
  rw [List.mem_reverse, List.mem_map] at hx
  obtain ⟨k, hk, rfl⟩ := hx
  have hk := List.mem_range.1 hk
  obtain ⟨i, hi⟩ := order_all ⟨c - 1, by omega⟩ ⟨k, by omega⟩
  have hi : (i.val * (1 + (c - 1))) % 13 = k := hi
  rw [show 1 + (c - 1) = c by omega] at hi
  have := hC i.val i.isLt (by rw [hi]; exact hk)
  rwa [hi] at this

set_option maxRecDepth 100000 in
set_option maxHeartbeats 4000000 in
theorem tableOrder_walk (v : Value) (n : Nat) (A B : Nat → ByteArray) (step : Int) (w : World) (h : IIn w v n A B) (hn : n ≤ 9223372036854775807) (hK : KTab w) :
    Calls Tryd.prog 4 #[v, .int .i64 step] w fun e w' => e = .returned (.bool true) ∧ Below w.heap.size w w' := by
  obtain ⟨vp, vc, rfl⟩ := h.shape
  have cgr := grow_any _ n A B w h hn hK
  have caw := fun W (hb : Below w.heap.size w W) => awake22_any W (ktab_below hK hb)
  obtain ⟨q, hq⟩ : ∃ q, q = min n 12 := ⟨_, rfl⟩
  have hqi : min (n : Int) 12 = (q : Int) := by omega
  rw [show GrowP w n A B = fun e w' => ∃ tb mo l v R, e = .returned (.tuple #[.pointer (some ⟨tb, 0, none⟩), v]) ∧ Tab w' tb mo l ∧ RefIn w' v R ∧ R.Perm l ∧ Rising R ∧ l.Sublist (itL A B q) ∧ Below w.heap.size w w' ∧ w.heap.size ≤ tb ∧ ∀ m, mo = some m → w.heap.size ≤ m by rw [hq]; rfl] at cgr
  have hqn : q ≤ n := by omega
  have hq12 : q ≤ 12 := by omega
  have CG := Box.mk cgr; have CA := Box.mk caw; have H := Box.mk h; have HK := Box.mk hK
  clear cgr caw h hK hq
  go_enter Tryd.func4, Tryd.ntmps4
  go_upto_region 2 with (go_at_call 11; ((with_reducible refine CG.out.mono ?_); rintro e w1 ⟨tb, mo, l, vR, R, rfl, t1, r1, p1, o1, s1, b1, k1, m1⟩; obtain ⟨rp, rc, rfl⟩ := r1.val; have T1 := Box.mk t1; have P1 := Box.mk p1; have S1 := Box.mk s1; have B1 := Box.mk b1; have K1 := Box.mk k1; have M1 := Box.mk m1; clear t1 r1 p1 o1 s1 b1 k1 m1 CG))
  by_cases hc : R.length = q ∧ ¬ step < 1 ∧ ¬ step > 100
  · obtain ⟨hRq, hs1, hs2⟩ := hc
    rw [hRq]
    have e1 : ((q : Int) != (q : Int)) = false := by simp
    have e2 : (step < 1) = False := eq_false hs1
    have e3 : (100 < step) = False := eq_false (by omega)
    obtain ⟨s, rfl⟩ : ∃ s : Nat, step = (s : Int) := ⟨step.toNat, by omega⟩
    obtain ⟨c, hcc⟩ : ∃ c, c = 1 + s % 12 := ⟨_, rfl⟩
    have hc1 : 1 ≤ c ∧ c ≤ 12 := by omega
    have hll : l.length = q := by have := P1.out.length_eq; omega
    have hle : l = itL A B q := S1.out.eq_of_length (by rw [itL_length, hll])
    obtain ⟨U, hU⟩ : ∃ U, U = w1.alloc (.cells #[.map none] 40) := ⟨_, rfl⟩
    have bU : Below w1.heap.size w1 U := by rw [hU]; exact aset22 _ _
    have tU : U.heap[w1.heap.size]? = some (.cells #[.map none] 40 (0, 0)) := by rw [hU]; exact heap_alloc_new w1 _
    have U0 : Tab U w1.heap.size none [] := ⟨by simp only [World.cell?, tU]; rfl, by simp only [World.frozen?, tU]; rfl, fun _ => rfl, fun m e => by cases e⟩
    have UT := Box.mk U0; have BU := Box.mk bU; have HU := Box.mk hU; have HLE := Box.mk hle; have HCC := Box.mk hcc
    clear U0 bU tU hU hle P1 S1 hcc e1 hRq
    go_upto_region 6 with fail
    go_wp2_with fail
    rw [← HU.out]
    go_loopw [9] (fun i wr => ∃ (j : Nat) (mo2 : Option Nat) (l2 : List Ent), i = .int .i64 (j : Int) ∧ j ≤ 13 ∧ l2.length ≤ j ∧ Box (Tab wr w1.heap.size mo2 l2) ∧ Box (∀ y ∈ l2, y ∈ l) ∧ Box (∀ i, i < j → (i * c) % 13 < q → itE A B ((i * c) % 13) ∈ l2) ∧ Box (Below w1.heap.size w1 wr) ∧ Box (∀ m, mo2 = some m → w1.heap.size ≤ m)) (fun i _ => 13 - (intOf i).toNat)
    case atStart => exact ⟨0, none, [], rfl, by omega, by simp, UT, ⟨fun y hy => by simp at hy⟩, ⟨fun i hi => by omega⟩, BU, ⟨fun m e => by cases e⟩⟩
    case round =>
      obtain ⟨j, mo2, l2, rfl, hj, hl2, hT, hS, hC, hB, hM⟩ := hrel
      by_cases hlt : j < 13
      · obtain ⟨f, hf⟩ : ∃ f, f = (j * c) % 13 := ⟨_, rfl⟩
        have hjc : j * c ≤ 12 * 12 := Nat.mul_le_mul (by omega) hc1.2
        have hcs : (1 : Int) + (s : Int) % 12 = (c : Int) := by rw [HCC.out]; omega
        have hkw : (wrap64 ((j : Int) * (1 + (s : Int) % 12))).tmod 13 = (f : Int) := by
          have e : wrap64 ((j : Int) * (c : Int)) = ((j * c : Nat) : Int) := by
            rw [← Int.natCast_mul]
            generalize j * c = g at hjc
            unfold wrap64
            omega
          rw [hcs, e, hf]
          exact (Int.ofNat_tmod _ _).symm
        have HKW := Box.mk hkw
        clear hkw hcs hjc
        have HF := Box.mk hf
        by_cases hfq : f < q
        · have hfn : f < n := Nat.lt_of_lt_of_le hfq hqn
          obtain ⟨ib, io, ic, hv, hib, hcl⟩ := H.out.cells (Nat.lt_of_le_of_lt (Nat.zero_le _) hfn)
          obtain ⟨rfl, _, rfl⟩ := Value.slice.inj hv
          obtain ⟨c0, c1⟩ := hcl f hfn
          have bw : Below w.heap.size w wr := B1.out.trans (hB.out.mono B1.out.size)
          have q0 : wr.cell? ⟨ib, io + f * 2, none⟩ = some (.string (A f)) := (bw.cell hib).trans c0
          have q1 : wr.cell? ⟨ib, io + f * 2 + 1, none⟩ = some (.string (B f)) := (bw.cell hib).trans c1
          obtain ⟨x, hx⟩ : ∃ x, x = itE A B f := ⟨_, rfl⟩
          have cu1 : ∀ W : World, Calls Tryd.prog 6 #[.string (A f), .int .i64 20] W fun e w' => e = .returned (.string ((A f).extract 0 20)) ∧ W = w' := fun W => cut_any (A f) 20 W
          have cu2 : ∀ W : World, Calls Tryd.prog 6 #[.string (B f), .int .i64 60] W fun e w' => e = .returned (.string x.text) ∧ W = w' := fun W => by rw [hx]; exact cut_any (B f) 60 W
          have co : ∀ W, Below w.heap.size w W → Calls Tryd.prog 7 #[.string ((A f).extract 0 20)] W fun e w' => e = .returned (.agg (byts x.key).toArray) ∧ Below W.heap.size W w' := fun W hb => by
            rw [hx]; exact shaOf_any _ (by rw [ByteArray.size_extract]; omega) W (ktab_below HK.out hb)
          have cp : ∀ W, Tab W w1.heap.size mo2 l2 → Calls Tryd.prog 12 #[.pointer (some ⟨w1.heap.size, 0, none⟩), .agg (byts x.key).toArray, .string x.text] W (TPutP w1.heap.size mo2 l2 x W) := fun W h => tput_any w1.heap.size mo2 l2 x W h (by omega)
          have hxl : x ∈ l := by
            rw [HLE.out, hx]
            unfold itL
            rw [List.mem_reverse, List.mem_map]
            exact ⟨f, List.mem_range.2 hfq, rfl⟩
          have hbx : (byts x.key).length = 32 := by rw [byts_length]; exact x.kl
          have HX := Box.mk hx; have HXL := Box.mk hxl
          obtain ⟨C, hCc⟩ : ∃ C, C = byts x.key := ⟨_, rfl⟩
          rw [← hCc] at hbx co cp
          obtain ⟨A2, hA2⟩ : ∃ A2, A2 = (A f).extract 0 20 := ⟨_, rfl⟩
          rw [← hA2] at cu1 co
          obtain ⟨Tx, hTx⟩ : ∃ T, T = x.text := ⟨_, rfl⟩
          rw [← hTx] at cu2 cp
          obtain ⟨Ak, hAk⟩ : ∃ a, a = A f := ⟨_, rfl⟩
          rw [← hAk] at q0 cu1 c0
          obtain ⟨Bk, hBk⟩ : ∃ a, a = B f := ⟨_, rfl⟩
          rw [← hBk] at q1 cu2 c1
          have CU1 := Box.mk cu1; have CU2 := Box.mk cu2; have CO := Box.mk co; have CP := Box.mk cp
          have szw : w.heap.size ≤ w1.heap.size := B1.out.size
          have SZW := Box.mk szw
          have CC0 := Box.mk c0; have CC1 := Box.mk c1
          clear cu1 cu2 co cp c0 c1 hcl hv hx hCc hA2 hTx hAk hBk hxl hf szw
          have hkw := HKW.out
          go_upto_region 11 with fail
          have tD := hT.out.below ((Below.refl wr.heap.size wr).drew)
          clear hkw
          go_region_held3 (fun W => W.cell? ⟨ib, io + f * 2, none⟩ = some (.string Ak) ∧ W.cell? ⟨ib, io + f * 2 + 1, none⟩ = some (.string Bk) ∧ Below w.heap.size w W)
            (first
              | (exact ⟨q0, q1, bw.drew⟩)
              | assumption
              | exact ⟨by assumption, by assumption, by assumption⟩
              | (go_split_ands; exact ⟨cBelT (by assumption) (by assumption), cBelT (by assumption) (by assumption), belT (by assumption) (by assumption)⟩))
            (first
              | (go_at_call 6; ((with_reducible refine (CU1.out _).mono ?_); rintro e w' ⟨rfl, rfl⟩))
              | (go_at_call 6; ((with_reducible refine (CU2.out _).mono ?_); rintro e w' ⟨rfl, rfl⟩))
              | (go_at_call 7; ((with_reducible refine (CO.out _ (by first | assumption | exact bw.drew)).mono ?_); rintro e w2 ⟨rfl, b2⟩; have T2 := Box.mk (tD.below b2); have BW2 := Box.mk (belT bw.drew b2); have BB2 := Box.mk ((hB.out.drew).trans (b2.mono hB.out.drew.size))))
              | (go_at_call 12; ((with_reducible refine (CP.out _ T2.out).mono ?_); rintro e w3 ⟨bl, mo3, l3, rfl, t3, x3, d3⟩; have T3 := Box.mk t3; have D3 := Box.mk d3; have bw3 : Below w.heap.size w w3 := BW2.out.trans (x3.below (B := w.heap.size) SZW.out BW2.out.size (fun m e => Nat.le_trans SZW.out (hM.out m e))); have BB3 := Box.mk (BB2.out.trans (x3.below (B := w1.heap.size) (Nat.le_refl _) BB2.out.size hM.out)); have M3 := Box.mk (show ∀ m, mo3 = some m → w1.heap.size ≤ m from fun m e => by rcases x3.lies with q | q; exact hM.out m (q ▸ e); have := q m e; have := BB2.out.size; omega); have k0 := (bw3.cell hib).trans CC0.out; have k1 := (bw3.cell hib).trans CC1.out; clear t3 d3 x3)))
          all_goals
            go_wp2_with fail
            have st := order_step T1.out.uniq (HF.out ▸ HX.out) HXL.out hl2 hS.out hC.out D3.out
            have ST := Box.mk st
            clear st
            go_roundw
            case rel => exact ⟨j + 1, mo3, l3, by go_num, by omega, ST.out.1, T3, ⟨ST.out.2.1⟩, ⟨ST.out.2.2⟩, BB3, M3⟩
            case measure => simp [intOf] <;> omega
        · have hkw := HKW.out
          have hfd : ((f : Int) < (q : Int)) = False := eq_false (fun h => hfq (Int.ofNat_lt.1 h))
          have hC2 : ∀ i, i < j + 1 → (i * c) % 13 < q → itE A B ((i * c) % 13) ∈ l2 := fun i hi hq => by
            by_cases e : i = j
            · rw [e, ← hf] at hq; exact absurd hq hfq
            · exact hC.out i (by omega) hq
          have C2 := Box.mk hC2
          clear hC2 hf hC
          go_wp2_with fail
          go_roundw
          case rel => exact ⟨j + 1, mo2, l2, by go_num, by omega, by omega, hT, hS, C2, hB, hM⟩
          case measure => simp [intOf] <;> omega
      · obtain rfl : j = 13 := by omega
        have hpm : l2.Perm l := order_done hc1 hq12 HLE.out T1.out.nodup hT.out.nodup hS.out hC.out
        have htx : ∀ x ∈ l, x.text.size ≤ 1000 := fun x hx => by
          have := itL_text (A := A) (B := B) (k := q) (l := l) (by rw [HLE.out]; exact List.Sublist.refl _) x hx
          omega
        have bw : Below w.heap.size w wr := B1.out.trans (hB.out.mono B1.out.size)
        have tt : Tab wr tb mo l := T1.out.below hB.out
        have hk : ∀ W, Below wr.heap.size wr W → KTab W := fun W h => ktab_below HK.out (bw.trans (h.mono bw.size))
        have cbu := fun W (h : Below wr.heap.size wr W) => tbytes_any w1.heap.size mo2 l2 W (hT.out.below h) (by omega) (fun x hx => htx x (hpm.mem_iff.1 hx)) (hk W h)
        have cbt := fun W (h : Below wr.heap.size wr W) => tbytes_any tb mo l W (tt.below h) (by omega) htx (hk W h)
        have cwu : ∀ W, Below wr.heap.size wr W → Calls Tryd.prog 13 #[.pointer (some ⟨w1.heap.size, 0, none⟩), .pointer (some ⟨tb, 0, none⟩)] W fun e w' => e = .returned (.bool true) ∧ Below W.heap.size W w' := fun W h =>
          (within_any w1.heap.size mo2 l2 tb mo l W (hT.out.below h) (tt.below h)).mono fun e w' ⟨β, h1, h2, h3⟩ => ⟨by rw [h1, h2.2 (fun x hx => hpm.mem_iff.1 hx)], h3⟩
        have cwt : ∀ W, Below wr.heap.size wr W → Calls Tryd.prog 13 #[.pointer (some ⟨tb, 0, none⟩), .pointer (some ⟨w1.heap.size, 0, none⟩)] W fun e w' => e = .returned (.bool true) ∧ Below W.heap.size W w' := fun W h =>
          (within_any tb mo l w1.heap.size mo2 l2 W (tt.below h) (hT.out.below h)).mono fun e w' ⟨β, h1, h2, h3⟩ => ⟨by rw [h1, h2.2 (fun x hx => hpm.mem_iff.2 hx)], h3⟩
        have CBU := Box.mk cbu; have CBT := Box.mk cbt; have CWU := Box.mk cwu; have CWT := Box.mk cwt; have BW := Box.mk bw; have PM := Box.mk hpm
        clear cbu cbt cwu cwt bw hpm htx tt hk hT hS hC hB hM
        go_wp2_with (first
          | (go_at_call 9; ((with_reducible refine (CA.out _ BW.out).mono ?_); rintro e w5 ⟨rfl, b5⟩; have X5 := Box.mk b5; clear b5))
          | (go_at_call 10; ((with_reducible refine (CBU.out _ X5.out).mono ?_); rintro e w6 ⟨ys, hp6, hr6, rfl, b6⟩; have X6 := Box.mk (belT X5.out b6); have P6 := Box.mk hp6; have R6 := Box.mk hr6; obtain ⟨SS, hSS⟩ : ∃ S, S = bs (bytT ys) := ⟨_, rfl⟩; rw [← hSS]; have HSS := Box.mk hSS; clear b6 hp6 hr6 hSS))
          | (go_at_call 10; ((with_reducible refine (CBT.out _ X6.out).mono ?_); rintro e w7 ⟨zs, hp7, hr7, rfl, b7⟩; have X7 := Box.mk (belT X6.out b7); have e7 : bs (bytT zs) = SS := (by rw [HSS.out, rising_one (hp7.trans (PM.out.symm.trans P6.out.symm)) hr7 R6.out]); rw [e7]; have sb1 := str_beq SS SS; rw [decide_eq_true rfl] at sb1; clear b7 hp7 hr7 e7))
          | (go_at_call 13; ((with_reducible refine (CWU.out _ X7.out).mono ?_); rintro e w8 ⟨rfl, b8⟩; have X8 := Box.mk (belT X7.out b8); clear b8))
          | (go_at_call 13; ((with_reducible refine (CWT.out _ X8.out).mono ?_); rintro e w9 ⟨rfl, b9⟩; have X9 := Box.mk (belT X8.out b9); clear b9)))
        go_ret
        exact ⟨rfl, BW.out.trans (X9.out.mono BW.out.size)⟩
  · by_cases hRq : R.length = q
    · rw [hRq]
      have e1 : ((q : Int) != (q : Int)) = false := by simp
      by_cases hs : step < 1
      · have e2 : (step < 1) = True := eq_true hs
        clear hc hRq
        go_wp2_with (go_at_call 9; ((with_reducible refine (CA.out _ B1.out).mono ?_); rintro e w5 ⟨rfl, b5⟩; have X5 := Box.mk (B1.out.trans (b5.mono B1.out.size)); clear b5))
        go_ret
        exact ⟨rfl, X5.out⟩
      · have e2 : (step < 1) = False := eq_false hs
        have e3 : (100 < step) = True := eq_true (by omega)
        clear hc hRq
        go_wp2_with (go_at_call 9; ((with_reducible refine (CA.out _ B1.out).mono ?_); rintro e w5 ⟨rfl, b5⟩; have X5 := Box.mk (B1.out.trans (b5.mono B1.out.size)); clear b5))
        go_ret
        exact ⟨rfl, X5.out⟩
    · have e1 : ((R.length : Int) != (q : Int)) = true := by simp; omega
      have e2 : ((R.length : Int) = (q : Int)) = False := eq_false (by omega)
      have e3 : (R.length = q) = False := eq_false hRq
      clear hc
      go_wp2_with (go_at_call 9; ((with_reducible refine (CA.out _ B1.out).mono ?_); rintro e w5 ⟨rfl, b5⟩; have X5 := Box.mk (B1.out.trans (b5.mono B1.out.size)); clear b5))
      go_ret
      exact ⟨rfl, X5.out⟩
end Go.Proofs.YtpinpplbjgbkaaaDoor
