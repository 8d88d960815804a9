/- RtbG, RtbH, in one text. -/
import Derived.Test.YtacfdnjdjgdbcaaGreatDoorSc
import Derived.Test.YtacfdnjdjgdbcaaGreatDoorUb
import Derived.BigQuiet
namespace Go.Proofs.YtacfdnjdjgdbcaaGreatDoor
set_option maxRecDepth 100000
open Go.RowKit Go.Maps Go.Sort M

/-! ### a disk with one file -/
def oneS : DS := createS (newS 10000) nmS
theorem one_c : createC (newS 10000) nmS = 0 := by decide
theorem one_names : oneS.names = [(nmS, 1)] := by unfold oneS; rfl
theorem one_find : findN oneS nmS = some 1 := by
  unfold findN
  rw [one_names]
  decide
theorem one_app (D : List Nat) (hD : D.length ≤ 1000) : appendC oneS nmS D = 0 ∧ findC (appendS oneS nmS D) nmS = 0 ∧ readD (appendS oneS nmS D) nmS = D := by
  have hf : findC oneS nmS = 0 := by decide
  have hb : beginC oneS = 0 := by decide
  have hr : oneS.free = 10000 := by decide
  have ha : appendS oneS nmS D = Proofs.YtacfdnjdjgdbcaaGreatDoor.appF (beginS oneS) 1 D := by
    unfold appendS
    rw [one_find]
    show (if oneS.free < (D.length : Int) then oneS else if beginC oneS = 8 then beginS oneS else Proofs.YtacfdnjdjgdbcaaGreatDoor.appF (beginS oneS) 1 D) = _
    rw [hr, if_neg (by omega), hb, if_neg (by decide)]
  have hn : (Proofs.YtacfdnjdjgdbcaaGreatDoor.appF (beginS oneS) 1 D).names = oneS.names := rfl
  have hd : (Proofs.YtacfdnjdjgdbcaaGreatDoor.appF (beginS oneS) 1 D).dead = false := rfl
  refine ⟨?_, ?_, ?_⟩
  · unfold appendC
    rw [hf, if_neg (by decide), hr, if_neg (by omega), hb]
  · rw [ha]
    unfold findC
    rw [hn, hd, one_names]
    decide
  · rw [ha]
    unfold readD findN
    rw [hn, hd, one_names]
    show ((Proofs.YtacfdnjdjgdbcaaGreatDoor.appF (beginS oneS) 1 D).file 1).data = D
    unfold Proofs.YtacfdnjdjgdbcaaGreatDoor.appF DS.setF
    simp only [if_pos]
    show ([] : List Nat) ++ D = D
    rfl
theorem create_one (b : Nat) (F : Nat → Prop) (w : World) (h : HasF w b F (newS 10000)) :
    Calls Tryz.prog 15 #[.pointer (some ⟨b, 0, none⟩), .string ⟨#[115, 116, 111, 114, 101]⟩] w fun e w' => e = .returned (.int .i64 0) ∧ HasF w' b F oneS ∧ KeepF F w w' :=
  (create_f b F (newS 10000) nmS w h ((Sz.begun 10000 (by omega)).fine (by omega) (by omega)) nmS_len).mono fun e w' ⟨h1, h2, h3⟩ => ⟨by rw [h1, one_c], h2, h3⟩
theorem append_one (b : Nat) (F : Nat → Prop) (T : ByteArray) (hT : T.size ≤ 1000) (w : World) (h : HasF w b F oneS) :
    Calls Tryz.prog 16 #[.pointer (some ⟨b, 0, none⟩), .string ⟨#[115, 116, 111, 114, 101]⟩, .string T] w fun e w' => e = .returned (.int .i64 0) ∧ HasF w' b F (appendS oneS nmS (sb T)) ∧ KeepF F w w' :=
  (append_f b F oneS nmS T w h (((Sz.begun 10000 (by omega)).create nmS_len).fine (by omega) (by omega)) nmS_len (by omega)).mono fun e w' ⟨h1, h2, h3⟩ => ⟨by rw [h1, (one_app (sb T) (by rw [sb_length]; exact hT)).1], h2, h3⟩
theorem one_refs (T : ByteArray) (hT : T.size ≤ 1000) : ∀ p ∈ (appendS oneS nmS (sb T)).names, 1 ≤ p.2 ∧ p.2 ≤ (appendS oneS nmS (sb T)).made :=
  (((((Sz.begun 10000 (by omega)).create nmS_len).append' nmS (s := sb T) 10 (by rw [sb_length]; omega)).fine (by omega) (by omega))).nref

/-! ### Load -/
/-- what Load leaves of a file's bytes -/
def LoadE (T : ByteArray) (k : Nat) (l : List Ent) (w : World) (e : Ending) (w' : World) : Prop :=
  Below w.heap.size w w' ∧ ((k ≠ 0 ∧ e = .returned (.tuple #[.pointer none, .bool false, .int .i64 (k : Int)])) ∨ (k = 0 ∧ ∃ tb mo, e = .returned (.tuple #[.pointer (some ⟨tb, 0, none⟩), .bool true, .int .i64 0]) ∧ Tab w' tb mo l.reverse ∧ Rising l)) ∧ SaysT T k l
theorem loadE_some (b : Nat) (F : Nat → Prop) (T : ByteArray) (w : World) (h : HasF w b F (appendS oneS nmS (sb T))) (hT : T.size ≤ 900) (hK : KTab w) :
    Calls Tryz.prog 17 #[.pointer (some ⟨b, 0, none⟩)] w fun e w' => ∃ k l, LoadE T k l w e w' := by
  have c : Calls Tryz.prog 42 #[.pointer (some ⟨b, 0, none⟩), .string ⟨#[115, 116, 111, 114, 101]⟩] w fun e w' => e = .returned (.tuple #[.string (bs (readD (appendS oneS nmS (sb T)) nmS)), .int .i64 (findC (appendS oneS nmS (sb T)) nmS)]) ∧ w = w' := read_f b F _ nmS w h (one_refs T (by omega)) nmS_len
  obtain ⟨_, r1, r2⟩ := one_app (sb T) (by rw [sb_length]; omega)
  rw [r1, r2, bs_list] at c
  have cp := parseE_any T w hT hK
  have C := Box.mk c; have CP := Box.mk cp
  clear c cp h r1 r2 hK hT
  go_enter Tryz.func17, Tryz.ntmps17
  go_upto_region 8 with (first
    | (go_at_call 42; ((with_reducible refine C.out.mono ?_); rintro e w' ⟨rfl, rfl⟩; clear C))
    | (go_at_call 7; ((with_reducible refine CP.out.mono ?_); rintro e w2 ⟨b2, k, l, hsay, h2⟩; have SAY := Box.mk hsay; have B2 := Box.mk b2; have ev : ∃ v k, e = .returned (.tuple #[.pointer v, .int .i64 k]) := (by rcases h2 with ⟨_, rfl⟩ | ⟨_, _, _, rfl, _⟩; exact ⟨_, _, rfl⟩; exact ⟨_, _, rfl⟩); obtain ⟨tv, tk, rfl⟩ := ev; have H2 := Box.mk h2; clear hsay b2 h2)))
  rcases H2.out with ⟨hk, he⟩ | ⟨hk, tb, mo, he, ht2, hr⟩
  · simp only [Ending.returned.injEq, Value.tuple.injEq, Array.mk.injEq, List.cons.injEq, Value.pointer.injEq, Value.int.injEq, and_true, true_and] at he
    obtain ⟨rfl, rfl⟩ := he
    have e1 : ((k : Int) == 0) = false := by rw [beq_eq_false_iff_ne]; omega
    have e1p : ((k : Int) = 0) = False := eq_false (by omega)
    have e1n : (k = 0) = False := eq_false hk
    go_wp2_with fail
    exact bodyPost_ret (v := .tuple #[.pointer none, .bool false, .int .i64 (k : Int)]) (by simp [results, go_sem]) rfl ⟨k, l, B2.out, .inl ⟨hk, rfl⟩, SAY.out⟩
  · subst hk
    simp only [Ending.returned.injEq, Value.tuple.injEq, Array.mk.injEq, List.cons.injEq, Value.pointer.injEq, Value.int.injEq, and_true, true_and] at he
    obtain ⟨rfl, rfl⟩ := he
    have TT := Box.mk ht2; have RI := Box.mk hr
    clear ht2 hr H2
    go_wp2_with fail
    exact bodyPost_ret (v := .tuple #[.pointer (some ⟨tb, 0, none⟩), .bool true, .int .i64 0]) (by simp [results, go_sem]) rfl ⟨0, l, B2.out, .inr ⟨rfl, tb, mo, rfl, TT.out, RI.out⟩, SAY.out⟩
theorem loadE_none (b : Nat) (F : Nat → Prop) (w : World) (h : HasF w b F (newS 10000)) :
    Calls Tryz.prog 17 #[.pointer (some ⟨b, 0, none⟩)] w (LoadP false [] w) :=
  load_none b F (newS 10000) none w h ((Sz.begun 10000 (by omega)).fine (by omega) (by omega)).nref rfl (inv_new 10000 (fun x => x = none) rfl).2

/-! ### the reference's Load -/
set_option maxHeartbeats 1000000 in
theorem refLoad_none (gs cs gk ck : Nat) (p q : Option Addr) (c m d : Nat) (w : World) :
    Calls Tryz.prog 18 #[.agg #[.slice (some ⟨gs, 0, none⟩) 8 cs, .slice (some ⟨gk, 0, none⟩) 64 ck], .slice p 0 c, .slice q m d] w fun e w' => e = .returned (.tuple #[.slice none 0 0, .bool false, .int .i64 0]) ∧ Below w.heap.size w w' := by
  go_enter Tryz.func18, Tryz.ntmps18
  go_wp2_with fail
  go_loopw [15] (fun i wr => i = .int .i64 0 ∧ Box (Below w.heap.size w wr)) (fun _ _ => 0)
  case atStart => exact ⟨rfl, ⟨aset22 _ _⟩⟩
  case round =>
    obtain ⟨rfl, hb⟩ := hrel
    go_wp2_with fail
    exact bodyPost_ret (v := .tuple #[.slice none 0 0, .bool false, .int .i64 0]) (by simp [results, go_sem]) rfl ⟨rfl, hb.out⟩
/-- what the reference's Load leaves of a file's bytes -/
def RLoadE (T : ByteArray) (w : World) (e : Ending) (w' : World) : Prop :=
  ∃ (k : Nat) (l : List Ent) (v : Value), e = .returned (.tuple #[v, .bool (decide (k = 0)), .int .i64 (k : Int)]) ∧ SaysT T k l ∧ (k ≠ 0 → v = .slice none 0 0) ∧ (k = 0 → RefIn w' v l) ∧ Below w.heap.size w w'
set_option maxRecDepth 100000 in
set_option maxHeartbeats 4000000 in
theorem refLoad_one (T : ByteArray) (hT : T.size ≤ 900) (gs cs gk ck g c h d : Nat) (w : World) (hS : Row32 w gs 8 (v8l iV)) (hK : Row32 w gk 64 kN) (hn : w.cell? ⟨g, 0, none⟩ = some (.string ⟨#[115, 116, 111, 114, 101]⟩)) (ht : w.cell? ⟨h, 0, none⟩ = some (.string T)) :
    Calls Tryz.prog 18 #[.agg #[.slice (some ⟨gs, 0, none⟩) 8 cs, .slice (some ⟨gk, 0, none⟩) 64 ck], .slice (some ⟨g, 0, none⟩) 1 c, .slice (some ⟨h, 0, none⟩) 1 d] w (RLoadE T w) := by
  obtain ⟨W0, hW0⟩ : ∃ W, W = w.alloc (.cells #[.slice (some ⟨gs, 0, none⟩) 8 cs, .slice (some ⟨gk, 0, none⟩) 64 ck] 36) := ⟨_, rfl⟩
  have b0 : Below w.heap.size w W0 := by rw [hW0]; exact aset22 _ _
  have t0 : W0.heap[w.heap.size]? = some (.cells #[.slice (some ⟨gs, 0, none⟩) 8 cs, .slice (some ⟨gk, 0, none⟩) 64 ck] 36 (0, 0)) := by rw [hW0]; exact heap_alloc_new w _
  have q0 : W0.cell? ⟨w.heap.size, 0, none⟩ = some (.slice (some ⟨gs, 0, none⟩) 8 cs) := by simp only [World.cell?, t0]; rfl
  have q1 : W0.cell? ⟨w.heap.size, 1, none⟩ = some (.slice (some ⟨gk, 0, none⟩) 64 ck) := by simp only [World.cell?, t0]; rfl
  have q2 : W0.cell? ⟨h, 0, none⟩ = some (.string T) := pcell_keep ht b0
  have q3 : W0.cell? ⟨g, 0, none⟩ = some (.string ⟨#[115, 116, 111, 114, 101]⟩) := pcell_keep hn b0
  have bd : Below w.heap.size w W0.drew := b0.drew
  have K0 := Box.mk (And.intro (hS.below bd (hS.lt (by decide))) (hK.below bd (hK.lt (by decide))))
  have B0 := Box.mk bd
  have B1 := Box.mk b0
  have HW0 := Box.mk hW0
  have HT := Box.mk hT
  obtain ⟨tb, htb⟩ : ∃ tb, tb = w.heap.size := ⟨_, rfl⟩
  rw [← htb] at q0 q1
  have Q := Box.mk (And.intro q0 (And.intro q1 (And.intro q2 q3)))
  have HTB := Box.mk htb
  clear b0 bd t0 hS hK hn ht hW0 htb q0 q1 q2 q3
  go_enter Tryz.func18, Tryz.ntmps18
  go_wp2_with fail
  rw [← HW0.out, ← HTB.out]
  go_loopw [15] (fun i wr => i = .int .i64 0 ∧ Box (wr = W0)) (fun _ _ => 0)
  case atStart => exact ⟨rfl, ⟨rfl⟩⟩
  case round =>
    obtain ⟨rfl, hwr⟩ := hrel
    have hwr := hwr.out
    subst hwr
    have q0 := Q.out.1
    have q1 := Q.out.2.1
    have q2 := Q.out.2.2.1
    have q3 := Q.out.2.2.2
    go_upto_region 5 with fail
    have d0 : wr.drew.cell? ⟨tb, 0, none⟩ = some (.slice (some ⟨gs, 0, none⟩) 8 cs) := q0
    have d1 : wr.drew.cell? ⟨tb, 1, none⟩ = some (.slice (some ⟨gk, 0, none⟩) 64 ck) := q1
    have d2 : wr.drew.cell? ⟨h, 0, none⟩ = some (.string T) := q2
    clear Q
    go_region_held3 (fun W => W.cell? ⟨tb, 0, none⟩ = some (.slice (some ⟨gs, 0, none⟩) 8 cs) ∧ W.cell? ⟨tb, 1, none⟩ = some (.slice (some ⟨gk, 0, none⟩) 64 ck) ∧ W.cell? ⟨h, 0, none⟩ = some (.string T))
      (first | exact ⟨d0, d1, d2⟩ | exact ⟨p0, p1, p2⟩ | assumption)
      ((go_at_call 8; (with_reducible refine (refParse_any T _ HT.out _ _ _ _ K0.out.1 K0.out.2).mono ?_); rintro e w5 ⟨b5, k, l, hsay, h5⟩; have SAY := Box.mk hsay; have B5 := Box.mk (B0.out.trans (b5.mono B0.out.size)); have p0 := pcell_keep d0 b5; have p1 := pcell_keep d1 b5; have p2 := pcell_keep d2 b5; have ev : ∃ v, e = .returned (.tuple #[v, .int .i64 (k : Int)]) ∧ (k ≠ 0 → v = .slice none 0 0) ∧ (k = 0 → RefIn w5 v l) := (by rcases h5 with ⟨h, rfl⟩ | ⟨h, v, rfl, hv⟩; exact ⟨_, rfl, fun _ => rfl, fun e => absurd e h⟩; exact ⟨v, by rw [h]; rfl, fun e => absurd h e, fun _ => hv⟩); obtain ⟨v5, rfl, hv5⟩ := ev; have V5 := Box.mk hv5; clear hsay b5 h5 hv5))
    all_goals
      by_cases hk : k = 0
      · subst hk
        go_wp2_with fail
        exact bodyPost_ret (v := .tuple #[v5, .bool true, .int .i64 0]) (by simp [results, go_sem]) rfl ⟨0, l, v5, rfl, SAY.out, fun h => absurd rfl h, fun _ => V5.out.2 (by simp), B5.out⟩
      · have e1 : ((k : Int) == 0) = false := by rw [beq_eq_false_iff_ne]; omega
        have e1p : ((k : Int) = 0) = False := eq_false (by omega)
        have e1n : (k = 0) = False := eq_false hk
        go_wp2_with fail
        exact bodyPost_ret (v := .tuple #[v5, .bool false, .int .i64 (k : Int)]) (by simp [results, go_sem]) rfl ⟨k, l, v5, by rw [decide_eq_false hk], SAY.out, V5.out.1, V5.out.2, B5.out⟩
end Go.Proofs.YtacfdnjdjgdbcaaGreatDoor
namespace Go.Proofs.YtacfdnjdjgdbcaaGreatDoor
set_option maxRecDepth 100000
open Go.RowKit Go.Maps Go.Sort M

theorem info_strL : (Tryz.prog.info? 9).map (fun i => (i.zero, i.size, i.bytes)) = some (some (.string ⟨#[]⟩), 1, 16) := by kernel_rfl
theorem rising_nil : Rising [] := List.Pairwise.nil
theorem refIn_nil (w : World) : RefIn w (.slice none 0 0) [] := ⟨⟨_, _, rfl⟩, fun h => absurd h (by simp)⟩
/-- one string more in a row that was empty: what stands behind it -/
theorem HasF.grew {w w' : World} {b g : Nat} {F : Nat → Prop} {S : DS} (h : HasF w b F S) (o : Obj) (hg : (w.alloc o).grownBy w' (some g)) (hF : F g) :
    HasF w' b F S ∧ ∀ k, k < w.heap.size → k ≠ g → w'.heap[k]? = w.heap[k]? := by
  have hb : ∀ k, k < w.heap.size → k ≠ g → w'.heap[k]? = w.heap[k]? := fun k h1 h2 => (hg.block k (by simp; omega) (fun e => h2 (Option.some.inj e))).trans ((aset22 w o).block k h1)
  refine ⟨h.mine (by have := hg.size; simp at this; omega) (fun k hk hn => hb k hk (fun e => hn (by rw [e]; exact hF))) (fun k hf => .inl hf), hb⟩

set_option maxRecDepth 100000 in
set_option maxHeartbeats 4000000 in
theorem ckptLoads_walk (s : ByteArray) (sl th : Bool) (w : World) (hK : KTab w) :
    Calls Tryz.prog 4 #[.string s, .bool sl, .bool th] w fun e w' => e = .returned (.bool true) ∧ Below w.heap.size w w' := by
  have ccut := cut_any s 300 w
  rw [show ((300 : Nat) : Int) = 300 from rfl] at ccut
  obtain ⟨A, hA⟩ : ∃ A, A = s.extract 0 300 := ⟨_, rfl⟩
  have hAs : A.size ≤ 300 := by rw [hA, ByteArray.size_extract]; omega
  rw [← hA] at ccut
  have co : ∀ (W : World) (gs cs gk ck : Nat), Row32 W gs 8 (v8l iV) → Row32 W gk 64 kN → Calls Tryz.prog 14 #[.agg #[.slice (some ⟨gs, 0, none⟩) 8 cs, .slice (some ⟨gk, 0, none⟩) 64 ck], .string A] W fun e w' => e = .returned (.string (bs (shaN (sb A)))) ∧ Below W.heap.size W w' := fun W gs cs gk ck h1 h2 => refOf_any A (by omega) gs cs gk ck W h1 h2
  obtain ⟨S2, hS2⟩ : ∃ S, S = bs (shaN (sb A)) := ⟨_, rfl⟩
  have hSs : S2.size = 32 := by rw [hS2, bs_size, shaN_length]
  rw [← hS2] at co
  obtain ⟨T, hT⟩ : ∃ T, T = if sl then A ++ S2 else A := ⟨_, rfl⟩
  have hTs : T.size ≤ 332 := by
    rw [hT]; split
    · rw [ByteArray.size_append]; omega
    · omega
  have hlt : (9223372036854775807 < A.size + S2.size) = False := eq_false (by omega)
  have cn := dnew_f 10000 w (by omega) (by omega)
  have caw := fun W (h : KTab W) => awake23_any W h
  have CC := Box.mk ccut; have CO := Box.mk co; have CN := Box.mk cn; have CA := Box.mk caw; have HK := Box.mk hK; have TS := Box.mk hTs
  have clw := fun (b : Nat) (F : Nat → Prop) (W : World) (h : HasF W b F oneS) => append_one b F T (by omega) W h
  have cld := fun (b : Nat) (F : Nat → Prop) (W : World) (h : HasF W b F (appendS oneS nmS (sb T))) (hk : KTab W) => loadE_some b F T W h (by omega) hk
  have crl := fun gs cs gk ck g c h d (W : World) (h1 : Row32 W gs 8 (v8l iV)) (h2 : Row32 W gk 64 kN) (h3 : W.cell? ⟨g, 0, none⟩ = some (.string ⟨#[115, 116, 111, 114, 101]⟩)) (h4 : W.cell? ⟨h, 0, none⟩ = some (.string T)) => refLoad_one T (by omega) gs cs gk ck g c h d W h1 h2 h3 h4
  have cfw := fun l (h : SaysT T 0 l) => says_few (by omega) h
  have CLW := Box.mk clw; have CLD := Box.mk cld; have CRL := Box.mk crl; have CFW := Box.mk cfw
  clear ccut co cn caw hK hA hAs hS2 hSs clw cld crl cfw hTs
  cases sl <;> cases th
  · -- as it is, not there
    have hTl : A = T := by rw [hT]; rfl
    clear hT
    subst hTl
    go_enter Tryz.func4, Tryz.ntmps4
    go_upto_region 7 with (first
      | (go_at_call 5; ((with_reducible refine CC.out.mono ?_); rintro e w' ⟨rfl, rfl⟩))
      | (go_at_call 12; ((with_reducible refine CN.out.mono ?_); rintro e w1 ⟨b, rfl, d1, b1⟩; have D1 := Box.mk d1; have B1 := Box.mk b1; clear d1 b1 CN))
      | (go_at_call 13; ((with_reducible refine (CA.out _ (ktab_below HK.out B1.out)).mono ?_); rintro e w2 ⟨rfl, b2⟩; have B2 := Box.mk (B1.out.trans (b2.mono B1.out.size)); have D2 := Box.mk (D1.out.below b2); clear b2)))
    obtain ⟨wx, hwx⟩ : ∃ wx, wx = w2 := ⟨_, rfl⟩
    rw [← hwx] at B2 D2 ⊢
    have hsx : w.heap.size ≤ wx.heap.size := B2.out.size
    obtain ⟨WB, hWB⟩ : ∃ W, W = (wx.alloc (.cells #[] 9)).alloc (.cells #[] 9) := ⟨_, rfl⟩
    have bB : Below wx.heap.size wx WB := by rw [hWB]; exact (aset22 _ _).alloc (by simp) _
    have sB : WB.heap.size = wx.heap.size + 2 := by rw [hWB]; simp
    have BB := Box.mk (B2.out.trans (bB.mono hsx))
    have DB := Box.mk (D2.out.below bB)
    have HWB := Box.mk hWB
    clear bB sB hWB hwx
    go_upto_region 13 with fail
    rw [← HWB.out]
    go_wp2_with (first
      | (go_at_call 17; ((with_reducible refine (loadE_none _ _ _ DB.out).mono ?_); rintro e w9 ⟨b9, tb, mo, l, rfl, t9, p9⟩; obtain rfl := p9.eq_nil; have B9 := Box.mk (BB.out.trans (b9.mono BB.out.size)); have T9 := Box.mk t9; clear b9 t9 p9))
      | (go_at_call 9; ((with_reducible refine (made_rows _).mono ?_); rintro e w10 ⟨⟨gs10, cs10, gk10, ck10, rfl, r1, r2, _, _⟩, b3⟩; have R10 := Box.mk (And.intro r1 r2); have B10 := Box.mk (B9.out.trans (b3.mono B9.out.size)); have T10 := Box.mk (T9.out.below b3); clear r1 r2 b3))
      | (go_at_call 18; ((with_reducible refine (refLoad_none _ _ _ _ _ _ _ _ _ _).mono ?_); rintro e w11 ⟨rfl, b11⟩; have B11 := Box.mk (B10.out.trans (b11.mono B10.out.size)); have T11 := Box.mk (T10.out.below b11); clear b11))
      | (go_at_call 11; ((with_reducible refine (same_any _ _ _ _ _ _ T11.out (refIn_nil _) (List.Perm.refl _) rising_nil (by simp)).mono ?_); rintro e w12 ⟨rfl, b12⟩; have B12 := Box.mk (B11.out.trans (b12.mono B11.out.size)); clear b12)))
    go_ret
    exact ⟨rfl, B12.out⟩
  · -- as it is, there
    have hTl : A = T := by rw [hT]; rfl
    clear hT
    subst hTl
    go_enter Tryz.func4, Tryz.ntmps4
    go_upto_region 7 with (first
      | (go_at_call 5; ((with_reducible refine CC.out.mono ?_); rintro e w' ⟨rfl, rfl⟩))
      | (go_at_call 12; ((with_reducible refine CN.out.mono ?_); rintro e w1 ⟨b, rfl, d1, b1⟩; have D1 := Box.mk d1; have B1 := Box.mk b1; clear d1 b1 CN))
      | (go_at_call 13; ((with_reducible refine (CA.out _ (ktab_below HK.out B1.out)).mono ?_); rintro e w2 ⟨rfl, b2⟩; have B2 := Box.mk (B1.out.trans (b2.mono B1.out.size)); have D2 := Box.mk (D1.out.below b2); clear b2)))
    obtain ⟨wx, hwx⟩ : ∃ wx, wx = w2 := ⟨_, rfl⟩
    rw [← hwx] at B2 D2 ⊢
    have hsx : w.heap.size ≤ wx.heap.size := B2.out.size
    obtain ⟨WB, hWB⟩ : ∃ W, W = (wx.alloc (.cells #[] 9)).alloc (.cells #[] 9) := ⟨_, rfl⟩
    have bB : Below wx.heap.size wx WB := by rw [hWB]; exact (aset22 _ _).alloc (by simp) _
    have sB : WB.heap.size = wx.heap.size + 2 := by rw [hWB]; simp
    have BB := Box.mk (B2.out.trans (bB.mono hsx))
    have rn : WB.ownsRow wx.heap.size 9 1 (.slice (some ⟨wx.heap.size, 0, none⟩) 0 0) 0 [] := by rw [hWB]; exact (World.ownsRow_made _ _ _ (Nat.le_refl _) (by decide) rfl).alloc _
    have rt : WB.ownsRow (wx.heap.size + 1) 9 1 (.slice (some ⟨wx.heap.size + 1, 0, none⟩) 0 0) 0 [] := by
      have h : ((wx.alloc (.cells #[] 9)).alloc (.cells #[] 9)).ownsRow (wx.heap.size + 1) 9 1 (.slice (some ⟨(wx.alloc (.cells #[] 9)).heap.size, 0, none⟩) 0 0) 0 [] := World.ownsRow_made _ _ _ (by simp) (by decide) rfl
      rw [show (wx.alloc (.cells #[] 9)).heap.size = wx.heap.size + 1 by simp] at h
      rw [hWB]; exact h
    obtain ⟨F, hF⟩ : ∃ F, F = ExtF (fun k => k < w.heap.size) wx WB := ⟨_, rfl⟩
    have fold : ∀ k, k < w.heap.size → F k := by rw [hF]; exact fun k h => .inl h
    have fnew : ∀ k, wx.heap.size ≤ k → k < WB.heap.size → F k := by rw [hF]; exact fun k h1 h2 => .inr ⟨h1, h2⟩
    have dB : HasF WB b F (newS 10000) := by rw [hF]; exact D2.out.ext bB
    have DB := Box.mk dB; have HWB := Box.mk hWB; have FOLD := Box.mk fold; have FNEW := Box.mk fnew; have RN := Box.mk rn; have RT := Box.mk rt; have SB := Box.mk sB
    clear bB sB hWB hwx rn rt hF fold fnew dB
    go_upto_region 9 with fail
    rw [← HWB.out]
    go_upto_region 11 with (first
      | (go_at_call 15; ((with_reducible refine (create_one _ _ _ DB.out).mono ?_); rintro e w5 ⟨rfl, d5, k5⟩; have D5 := Box.mk d5; have K5 := Box.mk k5; clear d5 k5))
      | (go_at_call 16; ((with_reducible refine (CLW.out _ _ _ D5.out).mono ?_); rintro e w6 ⟨rfl, d6, k6⟩; have D6 := Box.mk d6; have K6 := Box.mk (K5.out.trans k6); clear d6 k6)))
    have RN6 := Box.mk (rowKeep RN.out (fun k hk => K6.out.block k (FNEW.out k (rowLt RN.out k hk).1 (rowLt RN.out k hk).2) (rowLt RN.out k hk).2))
    have RT6 := Box.mk (rowKeep RT.out (fun k hk => K6.out.block k (FNEW.out k (by have := (rowLt RT.out k hk).1; omega) (rowLt RT.out k hk).2) (rowLt RT.out k hk).2))
    have s6 : wx.heap.size + 2 ≤ w6.heap.size := by have := K6.out.size; have := SB.out; omega
    have B6 := Box.mk (BB.out.trans (K6.out.below BB.out.size FOLD.out))
    obtain ⟨i0, hi0, hz0, hz1, hz2⟩ := info_parts info_strL
    go_upto_region 12 with (at_builtin; refine wpList_append_lies _ rfl (.tmp 43) (.tmp 44) 44 rfl wx.heap.size 9 i0 _ 1 16 Tryz.underlying44 hi0 hz0 hz1 hz2 rfl (by omega) _ 0 [] rfl (RN6.out.alloc _) ⟨w6.heap.size, 0, none⟩ 1 1 [.string ⟨#[115, 116, 111, 114, 101]⟩] rfl rfl (World.news_of_block (cs := #[.string ⟨#[115, 116, 111, 114, 101]⟩]) (t := 9) (fr := (0, 0)) (heap_alloc_new _ _)) (by simp [Value.oneCell']) (by omega) (by unfold maxLen; omega) (by omega) (by simp; omega) (w6.heap.size + 1) (by simp) ?_; intro g7 cap7 w7 hown hgrow hat hlt9; have PN7 := Box.mk hown; have GR7 := Box.mk hgrow; have AT7 := Box.mk hat; have LT7 := Box.mk hlt9; clear hown hgrow hat hlt9)
    have h7 := D6.out.grew (g := wx.heap.size) _ GR7.out (FNEW.out wx.heap.size (Nat.le_refl _) (by have := SB.out; omega))
    have D7 := Box.mk h7.1; have H7 := Box.mk h7.2
    clear h7
    have RT7 := Box.mk (rowKeep RT6.out (fun k hk => H7.out k (rowLt RT6.out k hk).2 (by have := (rowLt RT6.out k hk).1; omega)))
    have s7 : w6.heap.size ≤ w7.heap.size := by have := GR7.out.size; simp at this; omega
    have n7 : w7.cell? ⟨g7, 0, none⟩ = some (.string ⟨#[115, 116, 111, 114, 101]⟩) := by have := PN7.out.cellAt 0 (by simp); simpa using this
    have N7 := Box.mk n7
    have g7n : g7 ≠ wx.heap.size + 1 := by
      rcases AT7.out with h | h
      · have h : wx.heap.size = g7 := Option.some.inj h
        omega
      · omega
    have B7 : Box (Below w.heap.size w w7) := ⟨(B6.out.alloc (by have := B6.out.size; omega) _).grown GR7.out (by have := B6.out.size; simp; omega) (fun k hk => by have : k = wx.heap.size := (Option.some.inj hk).symm; omega)⟩
    clear n7
    go_upto_region 13 with (at_builtin; refine wpList_append_lies _ rfl (.tmp 46) (.tmp 48) 44 rfl (wx.heap.size + 1) 9 i0 _ 1 16 Tryz.underlying44 hi0 hz0 hz1 hz2 rfl (by omega) _ 0 [] rfl (RT7.out.alloc _) ⟨w7.heap.size, 0, none⟩ 1 1 [.string A] rfl rfl (World.news_of_block (cs := #[.string A]) (t := 9) (fr := (0, 0)) (heap_alloc_new _ _)) (by simp [Value.oneCell']) (by omega) (by unfold maxLen; omega) (by omega) (by simp; omega) (w7.heap.size + 1) (by simp) ?_; intro g8 cap8 w8 hown hgrow hat hlt9; have PN8 := Box.mk hown; have GR8 := Box.mk hgrow; have AT8 := Box.mk hat; have LT8 := Box.mk hlt9; clear hown hgrow hat hlt9)
    have h8 := D7.out.grew (g := wx.heap.size + 1) _ GR8.out (FNEW.out (wx.heap.size + 1) (by omega) (by have := SB.out; omega))
    have D8 := Box.mk h8.1; have H8 := Box.mk h8.2
    clear h8
    have N8 := Box.mk ((tcell_keep (a := ⟨g7, 0, none⟩) (H8.out g7 LT7.out g7n)).trans N7.out)
    have t8 : w8.cell? ⟨g8, 0, none⟩ = some (.string A) := by have := PN8.out.cellAt 0 (by simp); simpa using this
    have T8 := Box.mk t8
    have B8 : Box (Below w.heap.size w w8) := ⟨(B7.out.alloc (by have := B7.out.size; omega) _).grown GR8.out (by have := B7.out.size; simp; omega) (fun k hk => by have : k = wx.heap.size + 1 := (Option.some.inj hk).symm; omega)⟩
    clear t8 s6 s7 g7n
    go_upto_region 15 with (first
      | (go_at_call 17; ((with_reducible refine (CLD.out _ _ _ D8.out (ktab_below HK.out B8.out)).mono ?_); rintro e w9 ⟨k, l, b9, h9, hsay⟩; have SAY := Box.mk hsay; have ev : ∃ pv, e = .returned (.tuple #[.pointer pv, .bool (decide (k = 0)), .int .i64 (k : Int)]) ∧ (k ≠ 0 → pv = none) ∧ (k = 0 → ∃ tb mo, pv = some ⟨tb, 0, none⟩ ∧ Tab w9 tb mo l.reverse ∧ Rising l) := (by rcases h9 with ⟨h, rfl⟩ | ⟨h, tb, mo, rfl, ht, hr⟩; exact ⟨none, by rw [decide_eq_false h], fun _ => rfl, fun e => absurd e h⟩; exact ⟨_, by rw [h]; rfl, fun e => absurd h e, fun _ => ⟨tb, mo, rfl, ht, hr⟩⟩); obtain ⟨pv, rfl, hp1, hp2⟩ := ev; have P1 := Box.mk hp1; have P2 := Box.mk hp2; have B9 := Box.mk (B8.out.trans (b9.mono B8.out.size)); have N9 := Box.mk (pcell_keep N8.out b9); have T9 := Box.mk (pcell_keep T8.out b9); clear b9 h9 hsay hp1 hp2))
      | (go_at_call 9; ((with_reducible refine (made_rows _).mono ?_); rintro e w10 ⟨⟨gs10, cs10, gk10, ck10, rfl, r1, r2, _, _⟩, b3⟩; have R10 := Box.mk (And.intro r1 r2); have B10 := Box.mk (B9.out.trans (b3.mono B9.out.size)); have Y10 := Box.mk b3; have N10 := Box.mk (pcell_keep N9.out b3); have T10 := Box.mk (pcell_keep T9.out b3); clear r1 r2 b3))
      | (go_at_call 18; ((with_reducible refine (CRL.out _ _ _ _ _ _ _ _ _ R10.out.1 R10.out.2 N10.out T10.out).mono ?_); rintro e w11 ⟨k2, l2, v2, rfl, hs2, hv1, hv2, b11⟩; obtain ⟨hk2, hl2⟩ := SAY.out.one hs2; subst hk2; have L2 := Box.mk hl2; have V1 := Box.mk hv1; have V2 := Box.mk hv2; have B11 := Box.mk (B10.out.trans (b11.mono B10.out.size)); have Y11 := Box.mk (Y10.out.trans (b11.mono Y10.out.size)); clear hs2 hl2 hv1 hv2 b11)))
    by_cases hk : k = 0
    · subst hk
      obtain ⟨tb, mo, hpv, ht, hr⟩ := P2.out rfl
      subst hpv
      have hl := L2.out rfl
      subst hl
      have rr := V2.out rfl
      obtain ⟨vp, vc, rfl⟩ := rr.val
      have RR := Box.mk rr
      have TB := Box.mk (ht.below Y11.out)
      have FW := Box.mk (CFW.out l SAY.out)
      have RI := Box.mk hr
      clear ht hr rr
      simp only
      go_wp2_with (go_at_call 11; ((with_reducible refine (same_any _ _ _ _ _ _ TB.out RR.out (List.reverse_perm l).symm RI.out FW.out).mono ?_); rintro e w12 ⟨rfl, b12⟩; have B12 := Box.mk (B11.out.trans (b12.mono B11.out.size)); clear b12))
      go_ret
      exact ⟨rfl, B12.out⟩
    · have hpv := P1.out hk
      subst hpv
      have hv := V1.out hk
      subst hv
      have e1 : ((k : Int) != 0) = true := by simp; omega
      have e1p : ((k : Int) = 0) = False := eq_false (by omega)
      have e1n : (k = 0) = False := eq_false hk
      simp only [decide_eq_false hk]
      clear hk
      go_wp2_with fail
      go_ret
      exact ⟨rfl, B11.out⟩
  · -- sealed, not there
    have hTl : A ++ S2 = T := by rw [hT]; rfl
    clear hT
    go_enter Tryz.func4, Tryz.ntmps4
    go_upto_region 7 with (first
      | (go_at_call 5; ((with_reducible refine CC.out.mono ?_); rintro e w' ⟨rfl, rfl⟩))
      | (go_at_call 12; ((with_reducible refine CN.out.mono ?_); rintro e w1 ⟨b, rfl, d1, b1⟩; have D1 := Box.mk d1; have B1 := Box.mk b1; clear d1 b1 CN))
      | (go_at_call 13; ((with_reducible refine (CA.out _ (ktab_below HK.out B1.out)).mono ?_); rintro e w2 ⟨rfl, b2⟩; have B2 := Box.mk (B1.out.trans (b2.mono B1.out.size)); have D2 := Box.mk (D1.out.below b2); clear b2))
      | (go_at_call 9; ((with_reducible refine (made_rows _).mono ?_); rintro e w3 ⟨⟨gs3, cs3, gk3, ck3, rfl, r1, r2, _, _⟩, b3⟩; have R3 := Box.mk (And.intro r1 r2); have B3 := Box.mk (B2.out.trans (b3.mono B2.out.size)); have D3 := Box.mk (D2.out.below b3); clear r1 r2 b3))
      | (go_at_call 14; ((with_reducible refine (CO.out _ _ _ _ _ R3.out.1 R3.out.2).mono ?_); rintro e w4 ⟨rfl, b4⟩; have B4 := Box.mk (B3.out.trans (b4.mono B3.out.size)); have D4 := Box.mk (D3.out.below b4); clear b4)))
    (try rw [hTl])
    obtain ⟨wx, hwx⟩ : ∃ wx, wx = w4 := ⟨_, rfl⟩
    rw [← hwx] at B4 D4 ⊢
    have hsx : w.heap.size ≤ wx.heap.size := B4.out.size
    obtain ⟨WB, hWB⟩ : ∃ W, W = (wx.alloc (.cells #[] 9)).alloc (.cells #[] 9) := ⟨_, rfl⟩
    have bB : Below wx.heap.size wx WB := by rw [hWB]; exact (aset22 _ _).alloc (by simp) _
    have sB : WB.heap.size = wx.heap.size + 2 := by rw [hWB]; simp
    have BB := Box.mk (B4.out.trans (bB.mono hsx))
    have DB := Box.mk (D4.out.below bB)
    have HWB := Box.mk hWB
    clear bB sB hWB hwx
    go_upto_region 13 with fail
    rw [← HWB.out]
    go_wp2_with (first
      | (go_at_call 17; ((with_reducible refine (loadE_none _ _ _ DB.out).mono ?_); rintro e w9 ⟨b9, tb, mo, l, rfl, t9, p9⟩; obtain rfl := p9.eq_nil; have B9 := Box.mk (BB.out.trans (b9.mono BB.out.size)); have T9 := Box.mk t9; clear b9 t9 p9))
      | (go_at_call 9; ((with_reducible refine (made_rows _).mono ?_); rintro e w10 ⟨⟨gs10, cs10, gk10, ck10, rfl, r1, r2, _, _⟩, b3⟩; have R10 := Box.mk (And.intro r1 r2); have B10 := Box.mk (B9.out.trans (b3.mono B9.out.size)); have T10 := Box.mk (T9.out.below b3); clear r1 r2 b3))
      | (go_at_call 18; ((with_reducible refine (refLoad_none _ _ _ _ _ _ _ _ _ _).mono ?_); rintro e w11 ⟨rfl, b11⟩; have B11 := Box.mk (B10.out.trans (b11.mono B10.out.size)); have T11 := Box.mk (T10.out.below b11); clear b11))
      | (go_at_call 11; ((with_reducible refine (same_any _ _ _ _ _ _ T11.out (refIn_nil _) (List.Perm.refl _) rising_nil (by simp)).mono ?_); rintro e w12 ⟨rfl, b12⟩; have B12 := Box.mk (B11.out.trans (b12.mono B11.out.size)); clear b12)))
    go_ret
    exact ⟨rfl, B12.out⟩
  · -- sealed, there
    have hTl : A ++ S2 = T := by rw [hT]; rfl
    clear hT
    go_enter Tryz.func4, Tryz.ntmps4
    go_upto_region 7 with (first
      | (go_at_call 5; ((with_reducible refine CC.out.mono ?_); rintro e w' ⟨rfl, rfl⟩))
      | (go_at_call 12; ((with_reducible refine CN.out.mono ?_); rintro e w1 ⟨b, rfl, d1, b1⟩; have D1 := Box.mk d1; have B1 := Box.mk b1; clear d1 b1 CN))
      | (go_at_call 13; ((with_reducible refine (CA.out _ (ktab_below HK.out B1.out)).mono ?_); rintro e w2 ⟨rfl, b2⟩; have B2 := Box.mk (B1.out.trans (b2.mono B1.out.size)); have D2 := Box.mk (D1.out.below b2); clear b2))
      | (go_at_call 9; ((with_reducible refine (made_rows _).mono ?_); rintro e w3 ⟨⟨gs3, cs3, gk3, ck3, rfl, r1, r2, _, _⟩, b3⟩; have R3 := Box.mk (And.intro r1 r2); have B3 := Box.mk (B2.out.trans (b3.mono B2.out.size)); have D3 := Box.mk (D2.out.below b3); clear r1 r2 b3))
      | (go_at_call 14; ((with_reducible refine (CO.out _ _ _ _ _ R3.out.1 R3.out.2).mono ?_); rintro e w4 ⟨rfl, b4⟩; have B4 := Box.mk (B3.out.trans (b4.mono B3.out.size)); have D4 := Box.mk (D3.out.below b4); clear b4)))
    (try rw [hTl])
    obtain ⟨wx, hwx⟩ : ∃ wx, wx = w4 := ⟨_, rfl⟩
    rw [← hwx] at B4 D4 ⊢
    have hsx : w.heap.size ≤ wx.heap.size := B4.out.size
    obtain ⟨WB, hWB⟩ : ∃ W, W = (wx.alloc (.cells #[] 9)).alloc (.cells #[] 9) := ⟨_, rfl⟩
    have bB : Below wx.heap.size wx WB := by rw [hWB]; exact (aset22 _ _).alloc (by simp) _
    have sB : WB.heap.size = wx.heap.size + 2 := by rw [hWB]; simp
    have BB := Box.mk (B4.out.trans (bB.mono hsx))
    have rn : WB.ownsRow wx.heap.size 9 1 (.slice (some ⟨wx.heap.size, 0, none⟩) 0 0) 0 [] := by rw [hWB]; exact (World.ownsRow_made _ _ _ (Nat.le_refl _) (by decide) rfl).alloc _
    have rt : WB.ownsRow (wx.heap.size + 1) 9 1 (.slice (some ⟨wx.heap.size + 1, 0, none⟩) 0 0) 0 [] := by
      have h : ((wx.alloc (.cells #[] 9)).alloc (.cells #[] 9)).ownsRow (wx.heap.size + 1) 9 1 (.slice (some ⟨(wx.alloc (.cells #[] 9)).heap.size, 0, none⟩) 0 0) 0 [] := World.ownsRow_made _ _ _ (by simp) (by decide) rfl
      rw [show (wx.alloc (.cells #[] 9)).heap.size = wx.heap.size + 1 by simp] at h
      rw [hWB]; exact h
    obtain ⟨F, hF⟩ : ∃ F, F = ExtF (fun k => k < w.heap.size) wx WB := ⟨_, rfl⟩
    have fold : ∀ k, k < w.heap.size → F k := by rw [hF]; exact fun k h => .inl h
    have fnew : ∀ k, wx.heap.size ≤ k → k < WB.heap.size → F k := by rw [hF]; exact fun k h1 h2 => .inr ⟨h1, h2⟩
    have dB : HasF WB b F (newS 10000) := by rw [hF]; exact D4.out.ext bB
    have DB := Box.mk dB; have HWB := Box.mk hWB; have FOLD := Box.mk fold; have FNEW := Box.mk fnew; have RN := Box.mk rn; have RT := Box.mk rt; have SB := Box.mk sB
    clear bB sB hWB hwx rn rt hF fold fnew dB
    go_upto_region 9 with fail
    rw [← HWB.out]
    go_upto_region 11 with (first
      | (go_at_call 15; ((with_reducible refine (create_one _ _ _ DB.out).mono ?_); rintro e w5 ⟨rfl, d5, k5⟩; have D5 := Box.mk d5; have K5 := Box.mk k5; clear d5 k5))
      | (go_at_call 16; ((with_reducible refine (CLW.out _ _ _ D5.out).mono ?_); rintro e w6 ⟨rfl, d6, k6⟩; have D6 := Box.mk d6; have K6 := Box.mk (K5.out.trans k6); clear d6 k6)))
    have RN6 := Box.mk (rowKeep RN.out (fun k hk => K6.out.block k (FNEW.out k (rowLt RN.out k hk).1 (rowLt RN.out k hk).2) (rowLt RN.out k hk).2))
    have RT6 := Box.mk (rowKeep RT.out (fun k hk => K6.out.block k (FNEW.out k (by have := (rowLt RT.out k hk).1; omega) (rowLt RT.out k hk).2) (rowLt RT.out k hk).2))
    have s6 : wx.heap.size + 2 ≤ w6.heap.size := by have := K6.out.size; have := SB.out; omega
    have B6 := Box.mk (BB.out.trans (K6.out.below BB.out.size FOLD.out))
    obtain ⟨i0, hi0, hz0, hz1, hz2⟩ := info_parts info_strL
    go_upto_region 12 with (at_builtin; refine wpList_append_lies _ rfl (.tmp 43) (.tmp 44) 44 rfl wx.heap.size 9 i0 _ 1 16 Tryz.underlying44 hi0 hz0 hz1 hz2 rfl (by omega) _ 0 [] rfl (RN6.out.alloc _) ⟨w6.heap.size, 0, none⟩ 1 1 [.string ⟨#[115, 116, 111, 114, 101]⟩] rfl rfl (World.news_of_block (cs := #[.string ⟨#[115, 116, 111, 114, 101]⟩]) (t := 9) (fr := (0, 0)) (heap_alloc_new _ _)) (by simp [Value.oneCell']) (by omega) (by unfold maxLen; omega) (by omega) (by simp; omega) (w6.heap.size + 1) (by simp) ?_; intro g7 cap7 w7 hown hgrow hat hlt9; have PN7 := Box.mk hown; have GR7 := Box.mk hgrow; have AT7 := Box.mk hat; have LT7 := Box.mk hlt9; clear hown hgrow hat hlt9)
    have h7 := D6.out.grew (g := wx.heap.size) _ GR7.out (FNEW.out wx.heap.size (Nat.le_refl _) (by have := SB.out; omega))
    have D7 := Box.mk h7.1; have H7 := Box.mk h7.2
    clear h7
    have RT7 := Box.mk (rowKeep RT6.out (fun k hk => H7.out k (rowLt RT6.out k hk).2 (by have := (rowLt RT6.out k hk).1; omega)))
    have s7 : w6.heap.size ≤ w7.heap.size := by have := GR7.out.size; simp at this; omega
    have n7 : w7.cell? ⟨g7, 0, none⟩ = some (.string ⟨#[115, 116, 111, 114, 101]⟩) := by have := PN7.out.cellAt 0 (by simp); simpa using this
    have N7 := Box.mk n7
    have g7n : g7 ≠ wx.heap.size + 1 := by
      rcases AT7.out with h | h
      · have h : wx.heap.size = g7 := Option.some.inj h
        omega
      · omega
    have B7 : Box (Below w.heap.size w w7) := ⟨(B6.out.alloc (by have := B6.out.size; omega) _).grown GR7.out (by have := B6.out.size; simp; omega) (fun k hk => by have : k = wx.heap.size := (Option.some.inj hk).symm; omega)⟩
    clear n7
    go_upto_region 13 with (at_builtin; refine wpList_append_lies _ rfl (.tmp 46) (.tmp 48) 44 rfl (wx.heap.size + 1) 9 i0 _ 1 16 Tryz.underlying44 hi0 hz0 hz1 hz2 rfl (by omega) _ 0 [] rfl (RT7.out.alloc _) ⟨w7.heap.size, 0, none⟩ 1 1 [.string T] rfl rfl (World.news_of_block (cs := #[.string T]) (t := 9) (fr := (0, 0)) (heap_alloc_new _ _)) (by simp [Value.oneCell']) (by omega) (by unfold maxLen; omega) (by omega) (by simp; omega) (w7.heap.size + 1) (by simp) ?_; intro g8 cap8 w8 hown hgrow hat hlt9; have PN8 := Box.mk hown; have GR8 := Box.mk hgrow; have AT8 := Box.mk hat; have LT8 := Box.mk hlt9; clear hown hgrow hat hlt9)
    have h8 := D7.out.grew (g := wx.heap.size + 1) _ GR8.out (FNEW.out (wx.heap.size + 1) (by omega) (by have := SB.out; omega))
    have D8 := Box.mk h8.1; have H8 := Box.mk h8.2
    clear h8
    have N8 := Box.mk ((tcell_keep (a := ⟨g7, 0, none⟩) (H8.out g7 LT7.out g7n)).trans N7.out)
    have t8 : w8.cell? ⟨g8, 0, none⟩ = some (.string T) := by have := PN8.out.cellAt 0 (by simp); simpa using this
    have T8 := Box.mk t8
    have B8 : Box (Below w.heap.size w w8) := ⟨(B7.out.alloc (by have := B7.out.size; omega) _).grown GR8.out (by have := B7.out.size; simp; omega) (fun k hk => by have : k = wx.heap.size + 1 := (Option.some.inj hk).symm; omega)⟩
    clear t8 s6 s7 g7n
    go_upto_region 15 with (first
      | (go_at_call 17; ((with_reducible refine (CLD.out _ _ _ D8.out (ktab_below HK.out B8.out)).mono ?_); rintro e w9 ⟨k, l, b9, h9, hsay⟩; have SAY := Box.mk hsay; have ev : ∃ pv, e = .returned (.tuple #[.pointer pv, .bool (decide (k = 0)), .int .i64 (k : Int)]) ∧ (k ≠ 0 → pv = none) ∧ (k = 0 → ∃ tb mo, pv = some ⟨tb, 0, none⟩ ∧ Tab w9 tb mo l.reverse ∧ Rising l) := (by rcases h9 with ⟨h, rfl⟩ | ⟨h, tb, mo, rfl, ht, hr⟩; exact ⟨none, by rw [decide_eq_false h], fun _ => rfl, fun e => absurd e h⟩; exact ⟨_, by rw [h]; rfl, fun e => absurd h e, fun _ => ⟨tb, mo, rfl, ht, hr⟩⟩); obtain ⟨pv, rfl, hp1, hp2⟩ := ev; have P1 := Box.mk hp1; have P2 := Box.mk hp2; have B9 := Box.mk (B8.out.trans (b9.mono B8.out.size)); have N9 := Box.mk (pcell_keep N8.out b9); have T9 := Box.mk (pcell_keep T8.out b9); clear b9 h9 hsay hp1 hp2))
      | (go_at_call 9; ((with_reducible refine (made_rows _).mono ?_); rintro e w10 ⟨⟨gs10, cs10, gk10, ck10, rfl, r1, r2, _, _⟩, b3⟩; have R10 := Box.mk (And.intro r1 r2); have B10 := Box.mk (B9.out.trans (b3.mono B9.out.size)); have Y10 := Box.mk b3; have N10 := Box.mk (pcell_keep N9.out b3); have T10 := Box.mk (pcell_keep T9.out b3); clear r1 r2 b3))
      | (go_at_call 18; ((with_reducible refine (CRL.out _ _ _ _ _ _ _ _ _ R10.out.1 R10.out.2 N10.out T10.out).mono ?_); rintro e w11 ⟨k2, l2, v2, rfl, hs2, hv1, hv2, b11⟩; obtain ⟨hk2, hl2⟩ := SAY.out.one hs2; subst hk2; have L2 := Box.mk hl2; have V1 := Box.mk hv1; have V2 := Box.mk hv2; have B11 := Box.mk (B10.out.trans (b11.mono B10.out.size)); have Y11 := Box.mk (Y10.out.trans (b11.mono Y10.out.size)); clear hs2 hl2 hv1 hv2 b11)))
    by_cases hk : k = 0
    · subst hk
      obtain ⟨tb, mo, hpv, ht, hr⟩ := P2.out rfl
      subst hpv
      have hl := L2.out rfl
      subst hl
      have rr := V2.out rfl
      obtain ⟨vp, vc, rfl⟩ := rr.val
      have RR := Box.mk rr
      have TB := Box.mk (ht.below Y11.out)
      have FW := Box.mk (CFW.out l SAY.out)
      have RI := Box.mk hr
      clear ht hr rr
      simp only
      go_wp2_with (go_at_call 11; ((with_reducible refine (same_any _ _ _ _ _ _ TB.out RR.out (List.reverse_perm l).symm RI.out FW.out).mono ?_); rintro e w12 ⟨rfl, b12⟩; have B12 := Box.mk (B11.out.trans (b12.mono B11.out.size)); clear b12))
      go_ret
      exact ⟨rfl, B12.out⟩
    · have hpv := P1.out hk
      subst hpv
      have hv := V1.out hk
      subst hv
      have e1 : ((k : Int) != 0) = true := by simp; omega
      have e1p : ((k : Int) = 0) = False := eq_false (by omega)
      have e1n : (k = 0) = False := eq_false hk
      simp only [decide_eq_false hk]
      clear hk
      go_wp2_with fail
      go_ret
      exact ⟨rfl, B11.out⟩
end Go.Proofs.YtacfdnjdjgdbcaaGreatDoor
