/- TabV, TabW, in one text. -/
import Derived.Test.YtacfdnjdjgdbcaaGreatDoorTf
namespace Go.Proofs.YtacfdnjdjgdbcaaGreatDoor
set_option maxRecDepth 100000
open Go.RowKit Go.Maps Go.Sort M

section
variable {T : ByteArray} {A M B : List Nat}
theorem tat_mid (hT : sb T = A ++ (M ++ B)) : A.length + M.length ≤ T.size ∧ ((sb T).drop A.length).take M.length = M := by
  constructor
  · have h := congrArg List.length hT
    rw [sb_length, List.length_append, List.length_append] at h; omega
  · rw [hT, List.drop_left, List.take_left]
theorem tat_raw (hT : sb T = A ++ (M ++ B)) : rawA T A.length 0 (M.length : Int) = A.length + M.length ∧ rawX T A.length 0 (M.length : Int) = 0 ∧ sb (rawS T A.length 0 (M.length : Int)) = M := by
  obtain ⟨h1, h2⟩ := tat_mid hT
  have c : 0 ≤ (M.length : Int) ∧ (M.length : Int) ≤ ((T.size - A.length : Nat) : Int) := by omega
  refine ⟨?_, ?_, ?_⟩
  · unfold rawA; rw [if_pos ⟨rfl, c⟩, Int.toNat_natCast]
  · unfold rawX; rw [if_pos rfl, if_pos c]
  · unfold rawS; rw [if_pos ⟨rfl, c⟩, Int.toNat_natCast, sb_part _ _ _ h1, Nat.add_sub_cancel_left, h2]
theorem tat_fix {k : Nat} (hT : sb T = A ++ (M ++ B)) (hk : M.length = k) : fixU T A.length 0 k = un M := by
  unfold fixU
  rw [← hk, (tat_raw hT).2.2]
end

theorem tfix_back {T : ByteArray} {A B : List Nat} {k v : Nat} (hT : sb T = A ++ (fx k v ++ B)) : rawA T A.length 0 (k : Int) = A.length + k ∧ rawX T A.length 0 (k : Int) = 0 ∧ fixU T A.length 0 k = v % 2 ^ (8 * k) := by
  have h := tat_raw hT
  have hl := fx_length k v
  rw [hl] at h
  exact ⟨h.1, h.2.1, by rw [tat_fix hT hl, un_fx]⟩
theorem tnumr_back {T : ByteArray} {A B : List Nat} {v : Nat} (hv : v < 18446744073709551616) (hT : sb T = A ++ (numL v ++ B)) :
    numA T A.length 0 = A.length + (numL v).length ∧ numX T A.length 0 = 0 ∧ numV T A.length 0 = v := by
  by_cases h : v < 248
  · have e : numL v = [v] := by unfold numL; rw [if_pos h]
    rw [e] at hT ⊢
    have f := tat_fix (k := 1) hT rfl
    rw [un_one] at f
    obtain ⟨h1, h2, _⟩ := tat_raw hT
    refine ⟨?_, ?_, ?_⟩
    · unfold numA; rw [f, if_pos h]; exact h1
    · unfold numX; rw [f, if_pos h]; exact h2
    · unfold numV; rw [f, if_pos h]
  · have hz := szN_bd v
    have e : numL v = (247 + szN v) :: fx (szN v) v := by unfold numL; rw [if_neg h]
    rw [e] at hT ⊢
    have hT1 : sb T = A ++ ([247 + szN v] ++ (fx (szN v) v ++ B)) := by rw [hT]; simp
    have hT2 : sb T = (A ++ [247 + szN v]) ++ (fx (szN v) v ++ B) := by rw [hT]; simp
    have f := tat_fix (k := 1) hT1 rfl
    rw [un_one] at f
    obtain ⟨h1, h2, _⟩ := tat_raw hT1
    have h1 : rawA T A.length 0 1 = A.length + 1 := h1
    have h2 : rawX T A.length 0 1 = 0 := h2
    obtain ⟨g1, g2, g3⟩ := tfix_back hT2
    have hl : (A ++ [247 + szN v]).length = A.length + 1 := by simp
    rw [hl] at g1 g2 g3
    rw [Nat.mod_eq_of_lt (szN_lt hv)] at g3
    have hE : numE T A.length 0 = 0 := by
      unfold numE
      rw [f, Nat.add_sub_cancel_left, h1, h2, g3, g2, if_neg (by omega)]
    have hn : ¬ 247 + szN v < 248 := by omega
    refine ⟨?_, ?_, ?_⟩
    · unfold numA
      rw [f, if_neg hn, hE, if_pos rfl, Nat.add_sub_cancel_left, h1, h2, g1]
      simp [fx_length]; omega
    · unfold numX; rw [f, if_neg hn, hE]
    · unfold numV; rw [f, if_neg hn, hE, if_pos rfl, Nat.add_sub_cancel_left, h1, h2, g3]
theorem ttxt_back {T : ByteArray} {A B s : List Nat} {most : Int} (hs : s.length ≤ 300) (hm : 300 ≤ most) (hT : sb T = A ++ (txtL s ++ B)) :
    txtA T A.length 0 most = A.length + (txtL s).length ∧ txtX T A.length 0 most = 0 ∧ sb (txtS T A.length 0 most) = s := by
  have hT1 : sb T = A ++ (numL s.length ++ (s ++ B)) := by rw [hT]; simp [txtL]
  have hT2 : sb T = (A ++ numL s.length) ++ (s ++ B) := by rw [hT]; simp [txtL]
  obtain ⟨h1, h2, h3⟩ := tnumr_back (v := s.length) (by omega) hT1
  obtain ⟨g1, g2, g3⟩ := tat_raw hT2
  rw [List.length_append, ← h1] at g1 g2 g3
  have hE : txtE T A.length 0 most = 0 := by unfold txtE; rw [h3, h2, if_neg (by omega)]
  have hK : txtK T A.length 0 = (s.length : Int) := by unfold txtK; rw [h3]; exact IntWalk.i64_in _ (by omega)
  have hX : txtX T A.length 0 most = 0 := by unfold txtX; rw [hE, hK, g2]
  refine ⟨?_, hX, ?_⟩
  · unfold txtA; rw [if_pos hX, hE, hK, g1, h1]; simp [txtL]; omega
  · unfold txtS; rw [hE, hK, g3]

/-- bytes that a table has written, without their seal -/
def Good (T : ByteArray) (G : List Ent) : Prop := sb T = encT G ∧ Rising G ∧ (∀ x ∈ G, x.text.size ≤ 300) ∧ G.length ≤ 100
theorem Good.split {T : ByteArray} {G : List Ent} (h : Good T G) {i : Nat} {x : Ent} (hx : G[i]? = some x) : ∃ B, sb T = preL G i ++ (x.key ++ (txtL (sb x.text) ++ B)) := by
  have hi := (List.getElem?_eq_some_iff.1 hx).1
  refine ⟨(G.drop (i + 1)).flatMap entL, ?_⟩
  rw [h.1]
  unfold encT preL
  rw [List.take_length]
  have e : G = G.take i ++ x :: G.drop (i + 1) := by
    have h1 := (List.take_append_drop i G).symm
    rw [List.drop_eq_getElem_cons hi] at h1
    rw [(List.getElem?_eq_some_iff.1 hx).2] at h1
    exact h1
  have e2 : G.flatMap entL = (G.take i).flatMap entL ++ (x.key ++ (txtL (sb x.text) ++ (G.drop (i + 1)).flatMap entL)) := by
    have h1 := congrArg (List.flatMap entL) e
    rw [List.flatMap_append, List.flatMap_cons] at h1
    rw [h1]
    simp [entL, List.append_assoc]
  rw [e2]
  simp only [List.append_assoc]
theorem Good.mag {T : ByteArray} {G : List Ent} (h : Good T G) : rawA T 0 0 8 = 8 ∧ rawX T 0 0 8 = 0 ∧ sb (rawS T 0 0 8) = magL := by
  have hT : sb T = [] ++ (magL ++ (numL G.length ++ G.flatMap entL)) := by
    rw [h.1]; unfold encT preL; rw [List.take_length]; simp [List.append_assoc]
  obtain ⟨h1, h2, h3⟩ := tat_raw hT
  exact ⟨h1, h2, h3⟩
theorem Good.num {T : ByteArray} {G : List Ent} (h : Good T G) : numA T 8 0 = (preL G 0).length ∧ numX T 8 0 = 0 ∧ numV T 8 0 = G.length := by
  have hT : sb T = magL ++ (numL G.length ++ G.flatMap entL) := by
    rw [h.1]; unfold encT preL; rw [List.take_length]; simp [List.append_assoc]
  have hl := h.2.2.2
  obtain ⟨h1, h2, h3⟩ := tnumr_back (v := G.length) (by omega) hT
  exact ⟨by rw [show (8 : Nat) = magL.length from rfl, h1]; simp [preL], h2, h3⟩
theorem Good.key {T : ByteArray} {G : List Ent} (h : Good T G) {i : Nat} {x : Ent} (hx : G[i]? = some x) : rawA T (preL G i).length 0 32 = (preL G i).length + 32 ∧ rawX T (preL G i).length 0 32 = 0 ∧ sb (rawS T (preL G i).length 0 32) = x.key := by
  obtain ⟨B, hT⟩ := h.split hx
  have q := tat_raw hT
  rw [x.kl] at q
  exact q
theorem Good.txt {T : ByteArray} {G : List Ent} (h : Good T G) {i : Nat} {x : Ent} (hx : G[i]? = some x) : txtA T ((preL G i).length + 32) 0 4194304 = (preL G (i + 1)).length ∧ txtX T ((preL G i).length + 32) 0 4194304 = 0 ∧ txtS T ((preL G i).length + 32) 0 4194304 = x.text := by
  obtain ⟨B, hT⟩ := h.split hx
  have hT2 : sb T = (preL G i ++ x.key) ++ (txtL (sb x.text) ++ B) := by rw [hT]; simp [List.append_assoc]
  have hs : (sb x.text).length ≤ 300 := by rw [sb_length]; exact h.2.2.1 x (List.mem_of_getElem? hx)
  obtain ⟨h1, h2, h3⟩ := ttxt_back (most := 4194304) hs (by omega) hT2
  rw [List.length_append, x.kl] at h1 h2 h3
  refine ⟨?_, h2, ?_⟩
  · rw [h1, ← preL_succ G i x hx, List.length_append, List.length_append, x.kl]
  · rw [← bs_list (txtS T _ 0 4194304), h3, bs_list]
theorem Good.all {T : ByteArray} {G : List Ent} (h : Good T G) : (preL G G.length).length = T.size := by
  have := congrArg List.length h.1
  rw [sb_length] at this
  exact this.symm
end Go.Proofs.YtacfdnjdjgdbcaaGreatDoor
namespace Go.Proofs.YtacfdnjdjgdbcaaGreatDoor
set_option maxRecDepth 100000
open Go.RowKit Go.Maps Go.Sort M

/-- what decoded leaves of such bytes -/
def DecG (rb : Nat) (T : ByteArray) (G : List Ent) (w : World) (e : Ending) (w' : World) : Prop :=
  ∃ tb mo, e = .returned (.pointer (some ⟨tb, 0, none⟩)) ∧ Tab w' tb mo G.reverse ∧ Rd w' rb T T.size 0 ∧ Onl rb w w'

set_option maxRecDepth 100000 in
set_option maxHeartbeats 4000000 in
theorem decodedG_any (rb : Nat) (T : ByteArray) (w : World) (hR : Rd w rb T 0 0) (hT : T.size ≤ 30000) (G : List Ent) (hG : Good T G) :
    Calls Tryz.prog 22 #[.pointer (some ⟨rb, 0, none⟩)] w (DecG rb T G w) := by
  have hrb := rd_lt hR
  have c1 := rraw_any rb T 0 0 8 w hR
  obtain ⟨a1, ha1⟩ : ∃ a, a = rawA T 0 0 8 := ⟨_, rfl⟩
  obtain ⟨x1, hx1⟩ : ∃ a, a = rawX T 0 0 8 := ⟨_, rfl⟩
  obtain ⟨s1, hs1⟩ : ∃ a, a = rawS T 0 0 8 := ⟨_, rfl⟩
  have hp1 : x1 = 0 → Pre T a1 (sb s1) := fun h => by
    rw [ha1, hs1]
    have hz : rawX T 0 0 ((8 : Nat) : Int) = 0 := by rw [h] at hx1; exact hx1.symm
    have := ((Pre.nil T).raw (k := 8) hz).1
    rwa [List.nil_append] at this
  rw [← ha1, ← hx1, ← hs1] at c1
  obtain ⟨x2, hx2⟩ : ∃ x, x = if sb s1 = magL then x1 else if x1 = 0 then 3 else x1 := ⟨_, rfl⟩
  have hp2 : x2 = 0 → Pre T a1 magL := fun h => by
    rw [h] at hx2
    split at hx2
    · rename_i e; rw [← e]; exact hp1 hx2.symm
    · split at hx2
      · omega
      · omega
  have c2 : ∀ W, Rd W rb T a1 x1 → Calls Tryz.prog 47 #[.pointer (some ⟨rb, 0, none⟩), .int .i64 3] W (RdQ rb T a1 (if x1 = 0 then 3 else x1) (.tuple #[]) W) := fun W h => fail_any rb T a1 x1 3 W h
  have c3 := fun W (h : Rd W rb T a1 x2) => rnum_any rb T a1 x2 W h
  obtain ⟨a3, ha3⟩ : ∃ a, a = numA T a1 x2 := ⟨_, rfl⟩
  obtain ⟨x3, hx3⟩ : ∃ a, a = numX T a1 x2 := ⟨_, rfl⟩
  obtain ⟨n, hn⟩ : ∃ a, a = numV T a1 x2 := ⟨_, rfl⟩
  have hnlt : n < 18446744073709551616 := by rw [hn]; exact numV_lt _ _ _
  have hn0 : x3 ≠ 0 → n = 0 := fun h => by
    by_cases e : x2 = 0
    · rw [e] at hx3 hn; rw [hn]; exact numV_bad (by rw [← hx3]; exact h)
    · rw [hn]; exact (numV_err e).1
  have hp3 : x3 = 0 → Pre T a3 (magL ++ numL n) := fun h => by
    have e : x2 = 0 := Classical.byContradiction fun e => e (by rw [← (numV_err (T := T) (a := a1) e).2, ← hx3]; exact h)
    have q := hp2 e
    rw [e] at ha3 hx3 hn
    rw [ha3, hn]; exact q.num (by rw [← hx3]; exact h)
  rw [← ha3, ← hx3, ← hn] at c3
  have hW0 : ∀ W, Onl rb w W → Rd W rb T a3 x3 → Onl rb w W ∧ Rd W rb T a3 x3 := fun W h1 h2 => ⟨h1, h2⟩
  have gg : x3 = 0 ∧ n = G.length ∧ a3 = (preL G 0).length := by
    obtain ⟨m1, m2, m3⟩ := hG.mag
    obtain ⟨n1, n2, n3⟩ := hG.num
    have e2 : x2 = 0 := by rw [hx2, hs1, if_pos m3, hx1, m2]
    rw [m1] at ha1
    rw [ha1, e2] at ha3 hx3 hn
    exact ⟨by rw [hx3, n2], by rw [hn, n3], by rw [ha3, n1]⟩
  have GG := Box.mk gg
  have HG := Box.mk hG
  clear gg
  have C1 := Box.mk c1; have C2 := Box.mk c2; have C3 := Box.mk c3; have N0 := Box.mk hn0; have P3 := Box.mk hp3; have HX2 := Box.mk hx2
  have start : ∀ W, Rd W rb T a1 x2 → Onl rb w W → Calls Tryz.prog 48 #[.pointer (some ⟨rb, 0, none⟩)] W (RdQ rb T a3 x3 (.int .u64 (n : Int)) W) := fun W h _ => c3 W h
  have ST := Box.mk start
  clear c1 c2 c3 hp1 hp2 hp3 hn0 hx1 ha1 hs1 hx2 ha3 hx3 hn hW0 start C3
  have rest : ∀ (w3 : World), Rd w3 rb T a1 x2 → Onl rb w w3 → True := fun _ _ _ => trivial
  have main : (sb s1 = magL ∧ x2 = x1) ∨ (sb s1 ≠ magL ∧ x2 = if x1 = 0 then 3 else x1) := by
    by_cases e : sb s1 = magL
    · exact .inl ⟨e, by rw [HX2.out, if_pos e]⟩
    · exact .inr ⟨e, by rw [HX2.out, if_neg e]⟩
  have hm8 : (s1.toList == [79, 82, 68, 69, 65, 76, 84, 49]) = decide (sb s1 = magL) := by
    have e : (⟨#[79, 82, 68, 69, 65, 76, 84, 49]⟩ : ByteArray).toList = [79, 82, 68, 69, 65, 76, 84, 49] := by rw [ByteArray.toList_eq]
    have h := str_beq s1 ⟨#[79, 82, 68, 69, 65, 76, 84, 49]⟩
    rw [e] at h
    rw [h]
    by_cases q : sb s1 = magL
    · rw [decide_eq_true q]
      refine decide_eq_true ?_
      rw [← bs_list s1, q]; decide
    · rw [decide_eq_false q]
      refine decide_eq_false fun e => q ?_
      rw [e]; exact s8
  obtain ⟨B, hB⟩ : ∃ B, B = decide (sb s1 = magL) := ⟨_, rfl⟩
  rw [← hB] at hm8
  have HB := Box.mk hB
  clear hB
  go_enter Tryz.func22, Tryz.ntmps22
  go_upto_if 9 with (first
    | (go_at_call 46; ((with_reducible refine C1.out.mono ?_); rintro e w1 ⟨rfl, r1, o1⟩; have R1 := Box.mk r1; have O1 := Box.mk o1; clear r1 o1 C1)))
  go_cut [] (fun wx => Box (Rd wx rb T a1 x2) ∧ Box (Onl rb w wx))
  case first =>
    rcases main with ⟨e, ex⟩ | ⟨e, ex⟩
    · have hq : B = true := HB.out.trans (decide_eq_true e)
      subst hq
      clear hm8
      go_wp2_with fail
      go_meet
      case rel => exact ⟨⟨by rw [ex]; exact R1.out⟩, O1⟩
    · have hq : B = false := HB.out.trans (decide_eq_false e)
      subst hq
      clear hm8
      go_wp2_with (first
        | (go_at_call 47; ((with_reducible refine (C2.out _ R1.out).mono ?_); rintro e w2 ⟨rfl, r2, o2⟩; have R2 := Box.mk r2; have O2 := Box.mk (O1.out.trans o2); clear r2 o2 C2)))
      go_meet
      case rel => exact ⟨⟨by rw [ex]; exact R2.out⟩, O2⟩
  case rest =>
    obtain ⟨R3, O3⟩ := hcut
    clear main hm8 HX2 C2 R1 O1 hR
    obtain ⟨V3, hV3⟩ : ∃ V, V = (wc.alloc (.cells #[.map none] 78)).alloc (.cells (byts (List.replicate 32 0)).toArray 24) := ⟨_, rfl⟩
    have hwc := O3.out.size
    have b3 : Below wc.heap.size wc V3 := by rw [hV3]; exact ((Below.refl _ _).alloc (Nat.le_refl _) _).alloc (by simp) _
    have z3 : V3.heap.size = wc.heap.size + 2 := by rw [hV3]; simp
    have t3 : V3.heap[wc.heap.size]? = some (.cells #[.map none] 78 (0, 0)) := by
      rw [hV3]; exact (Below.heap_alloc _ _ _ (by simp)).trans (heap_alloc_new wc _)
    have l3 : V3.rangeAt (wc.heap.size + 1) 0 (byts (List.replicate 32 0)) := by rw [hV3]; exact range_new _ _ _ _ (by simp)
    have h3 : V3.there (wc.heap.size + 1) 0 32 := by rw [hV3]; exact there_new _ 24 (byts (List.replicate 32 0)) _ 0 32 (by simp) (by decide)
    have T3 : Tab V3 wc.heap.size none [] := ⟨by simp only [World.cell?, t3]; rfl, by simp only [World.frozen?, t3]; rfl, fun _ => rfl, fun m e => by cases e⟩
    have R3v : Rd V3 rb T a1 x2 := rd_keep R3.out (b3.block rb (Nat.lt_of_lt_of_le hrb hwc))
    have O3v : Onl rb w V3 := onl_below O3.out b3
    have c3 := ST.out V3 R3v O3v
    have C3 := Box.mk c3; have TT3 := Box.mk T3; have L3 := Box.mk l3; have H3 := Box.mk h3; have OO3 := Box.mk O3v
    have hVv : V3 = (wc.alloc (.cells #[.map none] 78)).alloc (.cells #[.int .u8 0, .int .u8 0, .int .u8 0, .int .u8 0, .int .u8 0, .int .u8 0, .int .u8 0, .int .u8 0, .int .u8 0, .int .u8 0, .int .u8 0, .int .u8 0, .int .u8 0, .int .u8 0, .int .u8 0, .int .u8 0, .int .u8 0, .int .u8 0, .int .u8 0, .int .u8 0, .int .u8 0, .int .u8 0, .int .u8 0, .int .u8 0, .int .u8 0, .int .u8 0, .int .u8 0, .int .u8 0, .int .u8 0, .int .u8 0, .int .u8 0, .int .u8 0] 24) := hV3
    have HV := Box.mk hVv
    obtain ⟨tb, htb⟩ : ∃ tb, tb = wc.heap.size := ⟨_, rfl⟩
    obtain ⟨lb, hlb⟩ : ∃ lb, lb = wc.heap.size + 1 := ⟨_, rfl⟩
    rw [← htb] at TT3
    rw [← hlb] at L3 H3
    have tbw : w.heap.size ≤ tb := by omega
    have lbw : w.heap.size ≤ lb := by omega
    have tlb : tb ≠ lb := by omega
    have HTB := Box.mk htb; have HLB := Box.mk hlb
    clear c3 T3 l3 h3 t3 R3v O3v hV3 hVv ST htb hlb
    go_wp2_with (first
      | (go_at_call 48; (rw [← HV.out]; (with_reducible refine C3.out.mono ?_); rintro e w4 ⟨rfl, r4, o4⟩; have R4 := Box.mk r4; have O4 := Box.mk (OO3.out.trans o4); have TT4 := Box.mk (TT3.out.keep (o4.block tb TT3.out.lt (by omega)) (fun m e => by cases e)); have L4 := Box.mk (range_keep L3.out (o4.block lb (by have := HLB.out; omega) (by omega))); have H4 := Box.mk (there_keep H3.out (o4.block lb (by have := HLB.out; omega) (by omega))); clear r4 o4 C3)))
    rw [← HLB.out, ← HTB.out]
    have ST0 : Box (DecS w rb tb lb T none [] (List.replicate 32 0) a3 x3 w4) := ⟨⟨R4.out, O4.out, TT4.out, (fun m e => by cases e), H4.out, L4.out⟩⟩
    clear R4 O4 TT4 L4 H4 TT3 L3 H3 OO3 R3 O3 b3 z3 HV hwc HTB HLB
    go_loopw [5, 6, 16] (fun _ _ q wx => ∃ (i a x : Nat) (mo : Option Nat) (ents : List Ent) (lk : List Nat), i ≤ n ∧ q = .int .u64 (i : Int) ∧ Box (ents.length = i) ∧ Box (x ≠ 0 → n = 0) ∧ Box (DecS w rb tb lb T mo ents.reverse lk a x wx) ∧ Box (LastK ents lk) ∧ Box (x = 0 → Pre T a (magL ++ numL n ++ ents.flatMap entL)) ∧ Box (Rising ents) ∧ Box (x = 0 ∧ a = (preL G i).length ∧ ents = G.take i))
      (fun _ _ q _ => n - (intOf q).toNat)
    case atStart => exact ⟨0, a3, x3, none, [], List.replicate 32 0, by omega, rfl, ⟨rfl⟩, N0, ST0, ⟨by simp, fun d hd => by rw [List.eq_of_mem_replicate hd]; omega, .inl rfl⟩, ⟨fun h => by rw [List.flatMap_nil, List.append_nil]; exact P3.out h⟩, ⟨List.Pairwise.nil⟩, ⟨GG.out.1, GG.out.2.2, by simp⟩⟩
    case round =>
      obtain ⟨i, a, x, mo, ents, lk, hi, rfl, hel, hx0, hD, hLK, hP, hRi, hGx⟩ := hrel
      clear ST0 P3 N0
      by_cases hlt : i < n
      · have dj : decide ((i : Int) < (n : Int)) = true := by simpa using hlt
        obtain rfl : x = 0 := Classical.byContradiction fun h => by have := hx0.out h; omega
        clear hx0
        obtain ⟨gx, hgx⟩ : ∃ gx, G[i]? = some gx := ⟨_, List.getElem?_eq_getElem (by rw [← GG.out.2.1]; exact hlt)⟩
        have gk := HG.out.key hgx
        have gt := HG.out.txt hgx
        rw [← hGx.out.2.1] at gk gt
        have GK := Box.mk gk; have GT := Box.mk gt; have HGX := Box.mk hgx
        clear gk gt hgx
        have hpr := hP.out rfl
        have hD0 := hD.out
        have hrw := rd_lt hD0.rd
        have hsw := hD0.onl.size
        obtain ⟨eb, heb⟩ : ∃ eb, eb = wr.heap.size := ⟨_, rfl⟩
        have hew : w.heap.size ≤ eb := by omega
        have HEB := Box.mk heb
        clear heb
        go_upto_region 9 with fail
        generalize hg : World.alloc wr _ = W1
        have b1 : Below wr.heap.size wr W1 := by rw [← hg]; exact (Below.refl _ _).alloc (Nat.le_refl _) _
        have z1 : W1.heap.size = eb + 1 := by rw [← hg, HEB.out]; simp
        have rE : W1.rangeAt eb 0 zeroE := by rw [← hg, HEB.out]; exact range_new wr 86 zeroE _ rfl
        have tE : W1.there eb 0 33 := by rw [← hg, HEB.out]; exact there_new wr 86 zeroE _ 0 33 rfl (by decide)
        rw [← HEB.out]
        clear hg
        obtain ⟨K, cs, hKl, hKb, hcs, hcl, hrange, hKs⟩ := copyK (rawS T a 0 32) rawS_sz
        have r1 : Rd W1.drew rb T a 0 := rd_keep hD0.rd (b1.block rb hrw)
        have cr := rraw_any rb T a 0 32 W1.drew r1
        obtain ⟨a5, ha5⟩ : ∃ q, q = rawA T a 0 32 := ⟨_, rfl⟩
        obtain ⟨x5, hx5⟩ : ∃ q, q = rawX T a 0 32 := ⟨_, rfl⟩
        obtain ⟨s5, hs5⟩ : ∃ q, q = rawS T a 0 32 := ⟨_, rfl⟩
        have hp5 : x5 = 0 → Pre T a5 (magL ++ numL n ++ ents.flatMap entL ++ K) := fun h => by
          have hz : rawX T a 0 ((32 : Nat) : Int) = 0 := by rw [h] at hx5; exact hx5.symm
          obtain ⟨q1, q2⟩ := hpr.raw (k := 32) hz
          rw [ha5, hKs q2]; exact q1
        have gkk : K = gx.key ∧ x5 = 0 ∧ a5 = a + 32 := by
          obtain ⟨k1, k2, k3⟩ := GK.out
          refine ⟨?_, by rw [hx5, k2], by rw [ha5, k1]⟩
          have hz : (rawS T a 0 32).size = 32 := by rw [← sb_length, k3]; exact gx.kl
          rw [hKs hz, k3]
        have GKK := Box.mk gkk
        clear gkk
        rw [← ha5, ← hx5, ← hs5] at cr
        rw [← hs5] at hcs
        have CR := Box.mk cr; have P5 := Box.mk hp5; have HCS := Box.mk hcs; have HRG := Box.mk hrange; have RE := Box.mk rE; have TE := Box.mk tE; have B1 := Box.mk b1; have Z1 := Box.mk z1; have KL := Box.mk hKl; have KB := Box.mk hKb; have HPR := Box.mk hpr; have P0 := Box.mk hpr
        have HRW := Box.mk hrw; have HSW := Box.mk hsw; have HDD := Box.mk hD0
        clear cr hp5 hcs hrange rE tE b1 z1 hKl hKb hKs ha5 hx5 hs5 hpr hP r1 hD0 hD
        refine wp_region_held_drew (S := fun _ => True) (by kernel_rfl) trivial (fun hHeld => ?_)
        refine wpAnyH_take (i := 0) (oi := { dst := some 19, op := Op.fieldAddr 86 (Operand.tmp 6) 0, type := 0, pos := "table.go:113", after := #[], guard := none }) (v := .pointer (some ⟨eb, 0, none⟩)) rfl (by kernel_rfl) (by kernel_rfl) (by kernel_rfl) (fun _ _ _ h => h) (Or.inl ⟨by rfl, fun w' hw' => by go_simp; try rfl⟩) hHeld ?_
        (try simp only [Act.put, List.setIfInBounds_toArray, List.set_cons_zero, List.set_cons_succ])
        refine wpAnyH_take (i := 1) (oi := { dst := some 20, op := Op.slice 24 (Operand.tmp 19) none none none, type := 26, pos := "table.go:113", after := #[{ on := 0, ground := Ground.data }], guard := none }) (v := .slice (some ⟨eb, 0, none⟩) 32 32) rfl (by kernel_rfl) (by kernel_rfl) (by kernel_rfl) (fun _ _ _ h => h) (Or.inl ⟨by rfl, fun w' hw' => by go_simp; try rfl⟩) hHeld ?_
        (try simp only [Act.put, List.setIfInBounds_toArray, List.set_cons_zero, List.set_cons_succ])
        refine wpAnyH_take (i := 2) (oi := { dst := some 21, op := Op.move (Operand.tmp 0), type := 60, pos := "table.go:113", after := #[], guard := none }) (v := .pointer (some ⟨rb, 0, none⟩)) rfl (by kernel_rfl) (by kernel_rfl) (by kernel_rfl) (fun _ _ _ h => h) (Or.inl ⟨by rfl, fun w' hw' => by go_simp; try rfl⟩) hHeld ?_
        (try simp only [Act.put, List.setIfInBounds_toArray, List.set_cons_zero, List.set_cons_succ])
        refine wpAnyH_ready (rs := [3]) (by kernel_rfl) (by simp) ?_
        refine AllReadyH.cons rfl (fun K hK => ?_) AllReadyH.nil
        go_simp
        go_at_call 46; ((with_reducible refine CR.out.mono ?_); rintro e w5 ⟨rfl, r5, o5⟩)
        refine hK.out _ _ trivial (fun hHeld => ?_)
        clear hK K
        (try simp only [Act.put, List.setIfInBounds_toArray, List.set_cons_zero, List.set_cons_succ])
        refine wpAnyH_ready (rs := [4]) (by kernel_rfl) (by simp) ?_
        refine AllReadyH.cons rfl (fun K hK => ?_) AllReadyH.nil
        have e5 : w5.heap[eb]? = W1.heap[eb]? := o5.block eb (by have := Z1.out; show eb < W1.heap.size; omega) (by have := HRW.out; have := HEB.out; omega)
        refine step_copy_str rfl (.tmp 20) (.tmp 22) 26 9 rfl 5 Tryz.underlying26 (by kernel_rfl) eb 0 32 32 s5 rfl rfl cs HCS.out (there_keep (fun j hj => TE.out j (by omega)) e5) ?_
        refine hK.out _ _ trivial (fun hHeld => ?_)
        clear hK K
        refine wpAnyH_done (by kernel_rfl) ?_ _
        obtain ⟨W9, hW9⟩ : ∃ W9, W9 = w5.setCells eb 0 cs := ⟨_, rfl⟩
        rw [← hW9]
        have hne : rb ≠ eb := by have := HRW.out; have := HEB.out; omega
        have h5s := o5.size
        have h5z : W1.heap.size ≤ w5.heap.size := h5s
        have zz1 := Z1.out
        have on5 : Onl rb wr w5 := (onl_below (Onl.refl rb wr) (B1.out.drew)).trans o5
        have on9 : Onl rb wr W9 := by rw [hW9]; exact onl_cells on5 (by have := HEB.out; omega) cs
        have rd9 : Rd W9 rb T a5 x5 := by rw [hW9]; exact rd_keep r5 (cells_other w5 eb 0 cs (by omega) hne)
        have te5 : w5.there eb 0 33 := there_keep TE.out e5
        have te9 : W9.there eb 0 33 := by rw [hW9]; exact World.there_setCells te5 eb 0 cs
        have rk9 : W9.rangeAt eb 0 (byts K) := by rw [hW9]; exact HRG.out w5 eb (range_keep RE.out e5) te5
        have z9 : eb < W9.heap.size := by rw [hW9, cells_size]; omega
        have ctx := rtext_any rb T a5 x5 4194304 (by omega) (by omega) W9 rd9
        obtain ⟨a6, ha6⟩ : ∃ q, q = txtA T a5 x5 4194304 := ⟨_, rfl⟩
        obtain ⟨x6, hx6⟩ : ∃ q, q = txtX T a5 x5 4194304 := ⟨_, rfl⟩
        obtain ⟨s6, hs6⟩ : ∃ q, q = txtS T a5 x5 4194304 := ⟨_, rfl⟩
        obtain ⟨y, hy⟩ : ∃ y : Ent, y = ⟨K, s6, KL.out, KB.out⟩ := ⟨_, rfl⟩
        have hyk : y.key = K := by rw [hy]
        have hyt : y.text = s6 := by rw [hy]
        have hx5 : x6 = 0 → x5 = 0 := fun h => Classical.byContradiction fun e => e (by rw [← txtX_err (T := T) (a := a5) (m := 4194304) e, ← hx6]; exact h)
        have hp6 : x6 = 0 → Pre T a6 (magL ++ numL n ++ (ents ++ [y]).flatMap entL) := fun h => by
          have h5 := hx5 h
          have q := P5.out h5
          have hz : txtX T a5 0 4194304 = 0 := by rw [h5, h] at hx6; exact hx6.symm
          have q2 := q.txt (by omega) hz
          rw [ha6, h5]
          rw [List.flatMap_append, show List.flatMap entL [y] = K ++ txtL (sb (txtS T a5 0 4194304)) by rw [List.flatMap_cons, List.flatMap_nil, List.append_nil]; unfold entL; rw [hyk, hyt, hs6, h5]]
          simp only [List.append_assoc] at q2 ⊢
          exact q2
        have g6 : x6 = 0 ∧ a6 = (preL G (i + 1)).length ∧ y = gx := by
          obtain ⟨k1, k2, k3⟩ := GKK.out
          obtain ⟨t1, t2, t3⟩ := GT.out
          rw [k3, k2] at ha6 hx6 hs6
          exact ⟨by rw [hx6, t2], by rw [ha6, t1], Ent.eq (by rw [hyk, k1]) (by rw [hyt, hs6, t3])⟩
        have G6 := Box.mk g6
        clear g6
        rw [← ha6, ← hx6, ← hs6] at ctx
        have CTX := Box.mk ctx; have P6 := Box.mk hp6; have ON9 := Box.mk on9; have TE9 := Box.mk te9; have RK9 := Box.mk rk9; have Z9 := Box.mk z9; have YK := Box.mk hyk; have YT := Box.mk hyt; have NE := Box.mk hne
        have hlbw : lb < wr.heap.size := by
          obtain ⟨v, hv⟩ := Option.isSome_iff_exists.1 (HDD.out.th 0 (by omega)).1
          exact World.block_lt_of_cell? wr _ hv
        have LBW := Box.mk hlbw; have TBW := Box.mk HDD.out.tab.lt
        clear ctx hp6 on9 te9 rk9 z9 hW9 on5 te5 rd9 r5 o5 h5s h5z zz1 e5 ha6 hx6 hs6 hx5 hy hyk hyt hne CR P5 HCS HRG RE TE B1 Z1 HPR hlbw hcl
        go_upto_region 11 with (first
          | (go_at_call 49; ((with_reducible refine CTX.out.mono ?_); rintro e w6 ⟨rfl, r6, o6⟩; have R6 := Box.mk r6; have O6 := Box.mk o6; have e6 := o6.block eb Z9.out NE.out.symm; have te6 := there_keep TE9.out e6; have rk6 := range_keep RK9.out e6; obtain ⟨v32, hv32⟩ := Option.isSome_iff_exists.1 (te6 32 (by omega)).1; have hf32 := (te6 32 (by omega)).2; rw [Nat.zero_add] at hv32 hf32; have TE6 := Box.mk te6; have RK6 := Box.mk rk6; clear r6 o6 e6 te6 rk6 CTX)))
        obtain ⟨W7, hW7⟩ : ∃ W7, W7 = w6.setCell ⟨eb, 32, none⟩ (.string s6) := ⟨_, rfl⟩
        have on7 : Onl rb wr W7 := by rw [hW7]; exact onl_cell (ON9.out.trans O6.out) (by have := HEB.out; omega) _
        have rd7 : Rd W7 rb T a6 x6 := by rw [hW7]; exact rd_keep R6.out (((Onl.refl eb w6).setCell 32 (.string s6)).block rb (rd_lt R6.out) NE.out)
        have d7 := HDD.out.on on7 rd7 hrb tbw lbw
        have k7 : W7.rangeAt eb 0 (byts K) := fun j v hv => by
          have hj : j < 32 := by have := (List.getElem?_eq_some_iff.1 hv).1; rw [byts_length, KL.out] at this; exact this
          rw [hW7, World.cell?_setCell_other _ _ _ _ (by intro e; injection e; omega)]
          exact RK6.out j v hv
        have s7 : W7.cell? ⟨eb, 32, none⟩ = some (.string s6) := by rw [hW7]; exact World.cell?_setCell_same _ _ _ hv32
        rw [← hW7]
        obtain ⟨C, hC⟩ : ∃ C, C = byts K := ⟨_, rfl⟩
        obtain ⟨L, hL⟩ : ∃ L, L = byts lk := ⟨_, rfl⟩
        have hCl : C.length = 32 := by rw [hC, byts_length, KL.out]
        have hLl : L.length = 32 := by rw [hL, byts_length, hLK.out.1]
        have hC1 : ∀ u ∈ C, u.oneCell' = true := by rw [hC]; exact byts_one K
        have ccmp := fun W => shaCompare_any lk K hLK.out.1 KL.out hLK.out.2.1 KB.out W
        obtain ⟨c, hc⟩ : ∃ c, c = Lib.compareBytes (u8l lk) (u8l K) := ⟨_, rfl⟩
        have hlen : ents.length ≤ 1000 := by
          have h1 := HDD.out
          have h2 := flat_ge ents
          have h3 := (P0.out).len
          have h4 := (P0.out).2
          rw [List.length_append, List.length_append] at h3
          omega
        have crise : (i = 0 ∨ c < 0) → (∀ z ∈ ents, cfE z y < 0) := fun h => by
          rcases h with h | h
          · have : ents = [] := List.eq_nil_of_length_eq_zero (by rw [hel.out]; exact h)
            rw [this]; intro z hz; simp at hz
          · rcases hLK.out.2.2 with e | ⟨p, z, e, ek⟩
            · rw [e]; intro z hz; simp at hz
            · have hz : cfE z y < 0 := by
                show Lib.compareBytes (u8l z.key) (u8l y.key) < 0
                rw [ek, YK.out, ← hc]; exact h
              rw [e]
              exact rising_all (by rw [← e]; exact hRi.out) hz
        have gc : i ≠ 0 → c < 0 := fun hi0 => by
          rcases hLK.out.2.2 with e | ⟨p, z, e, ek⟩
          · rw [e] at hel
            exact absurd hel.out.symm hi0
          · have hz : cfE z y < 0 := by
              have hr := HG.out.2.1
              have hsp : G = G.take i ++ y :: G.drop (i + 1) := by
                have h1 := (List.take_append_drop i G).symm
                have hi := (List.getElem?_eq_some_iff.1 HGX.out).1
                rw [List.drop_eq_getElem_cons hi, (List.getElem?_eq_some_iff.1 HGX.out).2, ← G6.out.2.2] at h1
                exact h1
              rw [hsp, ← hGx.out.2.2, e] at hr
              exact (List.pairwise_append.1 hr).2.2 z (by simp) y (by simp)
            rw [hc, ← ek, ← YK.out]
            exact hz
        have GC := Box.mk gc
        clear gc
        have cput : (i = 0 ∨ c < 0) → ∀ W, Tab W tb mo ents.reverse → Calls Tryz.prog 30 #[.pointer (some ⟨tb, 0, none⟩), .agg C.toArray, .string s6] W fun e w' => e = .returned (.bool true) ∧ ∃ mo', Tab w' tb mo' (y :: ents.reverse) ∧ TExt tb mo mo' W w' := fun h W hT => by
          have p := put_new tb mo ents.reverse y W hT (fun z hz => cf_ne (crise h z (List.mem_reverse.1 hz))) (by rw [List.length_reverse]; unfold maxLen; omega)
          unfold ekE at p
          rw [YK.out, YT.out, ← hC] at p
          exact p
        have cerr := fun W x (h : Rd W rb T a6 x) => err0_any rb T a6 x W h
        obtain ⟨x10, hx10⟩ : ∃ x10, x10 = if x6 = 0 then 16 else x6 := ⟨_, rfl⟩
        have hx10n : x10 ≠ 0 := by rw [hx10]; split <;> omega
        have cfail : ∀ W, Rd W rb T a6 x6 → Calls Tryz.prog 47 #[.pointer (some ⟨rb, 0, none⟩), .int .i64 16] W (RdQ rb T a6 x10 (.tuple #[]) W) := fun W h => by rw [hx10]; exact fail_any rb T a6 x6 16 W h
        clear hx10
        rw [← hC, ← hL, ← hc] at ccmp
        rw [← hC] at k7
        have rg0 := d7.rg
        rw [← hL] at rg0
        have D7 := Box.mk d7; have K7 := Box.mk k7; have S7 := Box.mk s7; have G7 := Box.mk rg0
        have CCMP := Box.mk ccmp; have CPUT := Box.mk cput; have CERR := Box.mk cerr; have CFAIL := Box.mk cfail; have CRISE := Box.mk crise; have HCC := Box.mk hC
        have ON7 := Box.mk on7; have HLEN := Box.mk hlen
        have uw : IntKind.u64.wrap ((i : Int) + 1) = ((i + 1 : Nat) : Int) := by
          have h : IntKind.u64.wrap ((i + 1 : Nat) : Int) = ((i + 1 : Nat) : Int) := u64small (by omega)
          exact h
        have UW := Box.mk uw
        clear uw hW7 on7 rd7 d7 k7 s7 rg0 ccmp cput cerr cfail crise hC hL hc hlen ON9 O6 TE9 RK9 Z9 TE6 RK6 R6 HDD hv32 hf32
        by_cases hi0 : i = 0
        · have d28 : decide ((0 : Int) < (i : Int)) = false := decide_eq_false (by omega)
          have d28p : (0 < i) = False := eq_false (by omega)
          have hic : i = 0 ∨ c < 0 := .inl hi0
          clear hi0
          by_cases h6 : x6 = 0
          · subst h6
            have DX := D7; have RDX := Box.mk D7.out.rd; have KX := K7; have SX := S7
            have qs := SX.out
            go_wp2_with (first
                      | (go_at_call 51; ((with_reducible refine (CERR.out _ _ RDX.out).mono ?_); rintro e w' ⟨rfl, rfl⟩))
                      | ((with_reducible refine at_load 24 (.tmp 42) ?_); refine wpList_load_mid rfl 24 (.tmp 42) rfl eb 0 rfl C _ KX.out und_hash rfl (by rw [hCl]; exact info_hash) ?_)
                      | (go_at_call 30; ((with_reducible refine (CPUT.out hic _ DX.out.tab).mono ?_); rintro e w9 ⟨rfl, mo', ht9, x9⟩; have hebw := World.block_lt_of_cell? _ _ SX.out; have KP := Box.mk (range_keep KX.out (x9.block eb hebw (by have := HEB.out; have := TBW.out; omega) (fun e => mapE_ne (DX.out.tab.mapd eb e).2 SX.out rfl))); obtain ⟨tl9, d9⟩ := DX.out.put x9 ht9 KL.out hrb tbw lbw tlb; have TL9 := Box.mk tl9; have D9 := Box.mk d9; clear tl9 d9 ht9 x9))
                      | ((with_reducible refine at_load 24 (.tmp 47) ?_); refine wpList_load_mid rfl 24 (.tmp 47) rfl eb 0 rfl C _ KP.out und_hash rfl (by rw [hCl]; exact info_hash) ?_)
                      | ((with_reducible refine at_store 24 (.tmp 4) (.tmp 48) ?_); refine wpList_store_mid rfl 24 (.tmp 4) (.tmp 48) rfl lb 0 C.toArray rfl rfl (by have e : C.toArray.size = 32 := (by simp [hCl]); rw [e]; exact TL9.out) (by have e : C.toArray.size = 32 := (by simp [hCl]); rw [e]; exact info_hash) (all_oneCell_toArray hC1) ?_))
            go_roundw
            case rel => exact ⟨i + 1, a6, 0, mo', ents ++ [y], K, by omega, by go_num, ⟨by rw [List.length_append, hel.out]; rfl⟩, ⟨fun h => absurd rfl h⟩, ⟨by rw [List.reverse_append]; show DecS w rb tb lb T mo' (y :: ents.reverse) K a6 0 (w9.setCells lb 0 C); rw [HCC.out]; exact D9.out⟩, ⟨KL.out, KB.out, .inr ⟨ents, y, rfl, YK.out⟩⟩, ⟨fun _ => P6.out (by simp)⟩, ⟨rising_snoc hRi.out (CRISE.out hic)⟩, ⟨rfl, G6.out.2.1, by rw [List.take_add_one, HGX.out, Option.toList_some, hGx.out.2.2, G6.out.2.2]⟩⟩
            case measure => simp [intOf]; omega
          · exact absurd G6.out.1 h6
        · have d28 : decide ((0 : Int) < (i : Int)) = true := decide_eq_true (by omega)
          have d28p : (0 < i) = True := eq_true (by omega)
          have hi0n : i ≠ 0 := hi0
          clear hi0
          by_cases hc0 : c < 0
          · have dge : decide ((0 : Int) ≤ c) = false := decide_eq_false (by omega)
            have dgp : ((0 : Int) ≤ c) = False := eq_false (by omega)
            have hic : i = 0 ∨ c < 0 := .inr hc0
            by_cases h6 : x6 = 0
            · subst h6
              go_wp2_with (first
                        | ((with_reducible refine at_load 24 (.tmp 4) ?_); refine wpList_load_wanted' (by rfl) 24 (.tmp 4) rfl lb 0 rfl L _ G7.out und_hash rfl (by rw [hLl]; exact info_hash) ?_)
                        | ((with_reducible refine at_load 24 (.tmp 31) ?_); refine wpList_load_wanted' (by rfl) 24 (.tmp 31) rfl eb 0 rfl C _ K7.out und_hash rfl (by rw [hCl]; exact info_hash) ?_)
                        | (go_at_call 50; ((with_reducible refine (CCMP.out _).mono ?_); rintro e w8 ⟨rfl, b8⟩; have DX := Box.mk (D7.out.on (onl_below (Onl.refl rb W7) b8) (rd_keep D7.out.rd (b8.block rb (rd_lt D7.out.rd))) hrb tbw lbw); have RDX := Box.mk DX.out.rd; have KX := Box.mk (range_below b8 K7.out); have SX := Box.mk ((b8.cell (p := ⟨eb, 32, none⟩) (World.block_lt_of_cell? _ _ S7.out)).trans S7.out); have qs := SX.out; clear b8))
                        | (go_at_call 51; ((with_reducible refine (CERR.out _ _ RDX.out).mono ?_); rintro e w' ⟨rfl, rfl⟩))
                        | ((with_reducible refine at_load 24 (.tmp 42) ?_); refine wpList_load_mid rfl 24 (.tmp 42) rfl eb 0 rfl C _ KX.out und_hash rfl (by rw [hCl]; exact info_hash) ?_)
                        | (go_at_call 30; ((with_reducible refine (CPUT.out hic _ DX.out.tab).mono ?_); rintro e w9 ⟨rfl, mo', ht9, x9⟩; have hebw := World.block_lt_of_cell? _ _ SX.out; have KP := Box.mk (range_keep KX.out (x9.block eb hebw (by have := HEB.out; have := TBW.out; omega) (fun e => mapE_ne (DX.out.tab.mapd eb e).2 SX.out rfl))); obtain ⟨tl9, d9⟩ := DX.out.put x9 ht9 KL.out hrb tbw lbw tlb; have TL9 := Box.mk tl9; have D9 := Box.mk d9; clear tl9 d9 ht9 x9))
                        | ((with_reducible refine at_load 24 (.tmp 47) ?_); refine wpList_load_mid rfl 24 (.tmp 47) rfl eb 0 rfl C _ KP.out und_hash rfl (by rw [hCl]; exact info_hash) ?_)
                        | ((with_reducible refine at_store 24 (.tmp 4) (.tmp 48) ?_); refine wpList_store_mid rfl 24 (.tmp 4) (.tmp 48) rfl lb 0 C.toArray rfl rfl (by have e : C.toArray.size = 32 := (by simp [hCl]); rw [e]; exact TL9.out) (by have e : C.toArray.size = 32 := (by simp [hCl]); rw [e]; exact info_hash) (all_oneCell_toArray hC1) ?_))
              go_roundw
              case rel => exact ⟨i + 1, a6, 0, mo', ents ++ [y], K, by omega, by go_num, ⟨by rw [List.length_append, hel.out]; rfl⟩, ⟨fun h => absurd rfl h⟩, ⟨by rw [List.reverse_append]; show DecS w rb tb lb T mo' (y :: ents.reverse) K a6 0 (w9.setCells lb 0 C); rw [HCC.out]; exact D9.out⟩, ⟨KL.out, KB.out, .inr ⟨ents, y, rfl, YK.out⟩⟩, ⟨fun _ => P6.out (by simp)⟩, ⟨rising_snoc hRi.out (CRISE.out hic)⟩, ⟨rfl, G6.out.2.1, by rw [List.take_add_one, HGX.out, Option.toList_some, hGx.out.2.2, G6.out.2.2]⟩⟩
              case measure => simp [intOf]; omega
            · exact absurd G6.out.1 h6
          · exact absurd (GC.out hi0n) hc0
      · obtain rfl : i = n := by omega
        have dj : decide ((i : Int) < (i : Int)) = false := by simp
        go_wp2_with fail
        go_ret
        obtain ⟨q1, q2, q3⟩ := hGx.out
        have hn := GG.out.2.1
        have ea : a = T.size := by rw [q2, hn]; exact HG.out.all
        have ee : ents = G := by rw [q3, hn, List.take_length]
        have hrd := hD.out.rd
        rw [ea, q1] at hrd
        exact ⟨tb, mo, rfl, by rw [← ee]; exact hD.out.tab, hrd, hD.out.onl⟩
end Go.Proofs.YtacfdnjdjgdbcaaGreatDoor
