/- TabV, TabW, in one text. -/
import Derived.Test.YtacfdnjdjgdbcaaDoorTf
namespace Go.Proofs.YtacfdnjdjgdbcaaDoor
set_option maxRecDepth 100000
open Go.RowKit Go.Maps Go.Sort M

section
variable {T : ByteArray} {A M B : List Nat}
theorem tat_mid (hT : sb T = A ++ (M ++ B)) : A.length + M.length ≤ T.size ∧ ((sb T).drop A.length).take M.length = M := by
  constructor
  · have h := congrArg List.length hT
    rw [sb_length, List.length_append, List.length_append] at h; omega
  · rw [hT, List.drop_left, List.take_left]
theorem tat_raw (hT : sb T = A ++ (M ++ B)) : rawA T A.length 0 (M.length : Int) = A.length + M.length ∧ rawX T A.length 0 (M.length : Int) = 0 ∧ sb (rawS T A.length 0 (M.length : Int)) = M := by
  obtain ⟨h1, h2⟩ := tat_mid hT
  have c : 0 ≤ (M.length : Int) ∧ (M.length : Int) ≤ ((T.size - A.length : Nat) : Int) := by omega
  refine ⟨?_, ?_, ?_⟩
  · unfold rawA; rw [if_pos ⟨rfl, c⟩, Int.toNat_natCast]
  · unfold rawX; rw [if_pos rfl, if_pos c]
  · unfold rawS; rw [if_pos ⟨rfl, c⟩, Int.toNat_natCast, sb_part _ _ _ h1, Nat.add_sub_cancel_left, h2]
theorem tat_fix {k : Nat} (hT : sb T = A ++ (M ++ B)) (hk : M.length = k) : fixU T A.length 0 k = un M := by
  unfold fixU
  rw [← hk, (tat_raw hT).2.2]
end

theorem tfix_back {T : ByteArray} {A B : List Nat} {k v : Nat} (hT : sb T = A ++ (fx k v ++ B)) : rawA T A.length 0 (k : Int) = A.length + k ∧ rawX T A.length 0 (k : Int) = 0 ∧ fixU T A.length 0 k = v % 2 ^ (8 * k) := by
  have h := tat_raw hT
  have hl := fx_length k v
  rw [hl] at h
  exact ⟨h.1, h.2.1, by rw [tat_fix hT hl, un_fx]⟩
theorem tnumr_back {T : ByteArray} {A B : List Nat} {v : Nat} (hv : v < 18446744073709551616) (hT : sb T = A ++ (numL v ++ B)) :
    numA T A.length 0 = A.length + (numL v).length ∧ numX T A.length 0 = 0 ∧ numV T A.length 0 = v := by
  by_cases h : v < 248
  · have e : numL v = [v] := by unfold numL; rw [if_pos h]
    rw [e] at hT ⊢
    have f := tat_fix (k := 1) hT rfl
    rw [un_one] at f
    obtain ⟨h1, h2, _⟩ := tat_raw hT
    refine ⟨?_, ?_, ?_⟩
    · unfold numA; rw [f, if_pos h]; exact h1
    · unfold numX; rw [f, if_pos h]; exact h2
    · unfold numV; rw [f, if_pos h]
  · have hz := szN_bd v
    have e : numL v = (247 + szN v) :: fx (szN v) v := by unfold numL; rw [if_neg h]
    rw [e] at hT ⊢
    have hT1 : sb T = A ++ ([247 + szN v] ++ (fx (szN v) v ++ B)) := by rw [hT]; simp
    have hT2 : sb T = (A ++ [247 + szN v]) ++ (fx (szN v) v ++ B) := by rw [hT]; simp
    have f := tat_fix (k := 1) hT1 rfl
    rw [un_one] at f
    obtain ⟨h1, h2, _⟩ := tat_raw hT1
    have h1 : rawA T A.length 0 1 = A.length + 1 := h1
    have h2 : rawX T A.length 0 1 = 0 := h2
    obtain ⟨g1, g2, g3⟩ := tfix_back hT2
    have hl : (A ++ [247 + szN v]).length = A.length + 1 := by simp
    rw [hl] at g1 g2 g3
    rw [Nat.mod_eq_of_lt (szN_lt hv)] at g3
    have hE : numE T A.length 0 = 0 := by
      unfold numE
      rw [f, Nat.add_sub_cancel_left, h1, h2, g3, g2, if_neg (by omega)]
    have hn : ¬ 247 + szN v < 248 := by omega
    refine ⟨?_, ?_, ?_⟩
    · unfold numA
      rw [f, if_neg hn, hE, if_pos rfl, Nat.add_sub_cancel_left, h1, h2, g1]
      simp [fx_length]; omega
    · unfold numX; rw [f, if_neg hn, hE]
    · unfold numV; rw [f, if_neg hn, hE, if_pos rfl, Nat.add_sub_cancel_left, h1, h2, g3]
theorem ttxt_back {T : ByteArray} {A B s : List Nat} {most : Int} (hs : s.length ≤ 300) (hm : 300 ≤ most) (hT : sb T = A ++ (txtL s ++ B)) :
    txtA T A.length 0 most = A.length + (txtL s).length ∧ txtX T A.length 0 most = 0 ∧ sb (txtS T A.length 0 most) = s := by
  have hT1 : sb T = A ++ (numL s.length ++ (s ++ B)) := by rw [hT]; simp [txtL]
  have hT2 : sb T = (A ++ numL s.length) ++ (s ++ B) := by rw [hT]; simp [txtL]
  obtain ⟨h1, h2, h3⟩ := tnumr_back (v := s.length) (by omega) hT1
  obtain ⟨g1, g2, g3⟩ := tat_raw hT2
  rw [List.length_append, ← h1] at g1 g2 g3
  have hE : txtE T A.length 0 most = 0 := by unfold txtE; rw [h3, h2, if_neg (by omega)]
  have hK : txtK T A.length 0 = (s.length : Int) := by unfold txtK; rw [h3]; exact IntWalk.i64_in _ (by omega)
  have hX : txtX T A.length 0 most = 0 := by unfold txtX; rw [hE, hK, g2]
  refine ⟨?_, hX, ?_⟩
  · unfold txtA; rw [if_pos hX, hE, hK, g1, h1]; simp [txtL]; omega
  · unfold txtS; rw [hE, hK, g3]

/-- bytes that a table has written, without their seal -/
def Good (T : ByteArray) (G : List Ent) : Prop := sb T = encT G ∧ Rising G ∧ (∀ x ∈ G, x.text.size ≤ 300) ∧ G.length ≤ 100
theorem Good.split {T : ByteArray} {G : List Ent} (h : Good T G) {i : Nat} {x : Ent} (hx : G[i]? = some x) : ∃ B, sb T = preL G i ++ (x.key ++ (txtL (sb x.text) ++ B)) := by
  have hi := (List.getElem?_eq_some_iff.1 hx).1
  refine ⟨(G.drop (i + 1)).flatMap entL, ?_⟩
  rw [h.1]
  unfold encT preL
  rw [List.take_length]
  have e : G = G.take i ++ x :: G.drop (i + 1) := by
    have h1 := (List.take_append_drop i G).symm
    rw [List.drop_eq_getElem_cons hi] at h1
    rw [(List.getElem?_eq_some_iff.1 hx).2] at h1
    exact h1
  have e2 : G.flatMap entL = (G.take i).flatMap entL ++ (x.key ++ (txtL (sb x.text) ++ (G.drop (i + 1)).flatMap entL)) := by
    have h1 := congrArg (List.flatMap entL) e
    rw [List.flatMap_append, List.flatMap_cons] at h1
    rw [h1]
    simp [entL, List.append_assoc]
  rw [e2]
  simp only [List.append_assoc]
theorem Good.mag {T : ByteArray} {G : List Ent} (h : Good T G) : rawA T 0 0 8 = 8 ∧ rawX T 0 0 8 = 0 ∧ sb (rawS T 0 0 8) = magL := by
  have hT : sb T = [] ++ (magL ++ (numL G.length ++ G.flatMap entL)) := by
    rw [h.1]; unfold encT preL; rw [List.take_length]; simp [List.append_assoc]
  obtain ⟨h1, h2, h3⟩ := tat_raw hT
  exact ⟨h1, h2, h3⟩
theorem Good.num {T : ByteArray} {G : List Ent} (h : Good T G) : numA T 8 0 = (preL G 0).length ∧ numX T 8 0 = 0 ∧ numV T 8 0 = G.length := by
  have hT : sb T = magL ++ (numL G.length ++ G.flatMap entL) := by
    rw [h.1]; unfold encT preL; rw [List.take_length]; simp [List.append_assoc]
  have hl := h.2.2.2
  obtain ⟨h1, h2, h3⟩ := tnumr_back (v := G.length) (by omega) hT
  exact ⟨by rw [show (8 : Nat) = magL.length from rfl, h1]; simp [preL], h2, h3⟩
theorem Good.key {T : ByteArray} {G : List Ent} (h : Good T G) {i : Nat} {x : Ent} (hx : G[i]? = some x) : rawA T (preL G i).length 0 32 = (preL G i).length + 32 ∧ rawX T (preL G i).length 0 32 = 0 ∧ sb (rawS T (preL G i).length 0 32) = x.key := by
  obtain ⟨B, hT⟩ := h.split hx
  have q := tat_raw hT
  rw [x.kl] at q
  exact q
theorem Good.txt {T : ByteArray} {G : List Ent} (h : Good T G) {i : Nat} {x : Ent} (hx : G[i]? = some x) : txtA T ((preL G i).length + 32) 0 4194304 = (preL G (i + 1)).length ∧ txtX T ((preL G i).length + 32) 0 4194304 = 0 ∧ txtS T ((preL G i).length + 32) 0 4194304 = x.text := by
  obtain ⟨B, hT⟩ := h.split hx
  have hT2 : sb T = (preL G i ++ x.key) ++ (txtL (sb x.text) ++ B) := by rw [hT]; simp [List.append_assoc]
  have hs : (sb x.text).length ≤ 300 := by rw [sb_length]; exact h.2.2.1 x (List.mem_of_getElem? hx)
  obtain ⟨h1, h2, h3⟩ := ttxt_back (most := 4194304) hs (by omega) hT2
  rw [List.length_append, x.kl] at h1 h2 h3
  refine ⟨?_, h2, ?_⟩
  · rw [h1, ← preL_succ G i x hx, List.length_append, List.length_append, x.kl]
  · rw [← bs_list (txtS T _ 0 4194304), h3, bs_list]
theorem Good.all {T : ByteArray} {G : List Ent} (h : Good T G) : (preL G G.length).length = T.size := by
  have := congrArg List.length h.1
  rw [sb_length] at this
  exact this.symm
end Go.Proofs.YtacfdnjdjgdbcaaDoor
namespace Go.Proofs.YtacfdnjdjgdbcaaDoor
set_option maxRecDepth 100000
open Go.RowKit Go.Maps Go.Sort M

/-- what decoded leaves of such bytes -/
def DecG (rb : Nat) (T : ByteArray) (G : List Ent) (w : World) (e : Ending) (w' : World) : Prop :=
  ∃ tb mo, e = .returned (.pointer (some ⟨tb, 0, none⟩)) ∧ Tab w' tb mo G.reverse ∧ Rd w' rb T T.size 0 ∧ Onl rb w w'

end Go.Proofs.YtacfdnjdjgdbcaaDoor
