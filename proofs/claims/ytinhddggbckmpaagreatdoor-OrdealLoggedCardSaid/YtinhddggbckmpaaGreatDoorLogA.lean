/- Numbers in a log: the mathematics of OrdealLogged, and what a crash that is set leaves. -/
import Derived.Test.YtinhddggbckmpaaGreatDoorSimB
import Derived.Test.YtinhddggbckmpaaGreatDoorTopA
namespace Go.Proofs.YtinhddggbckmpaaGreatDoor
set_option maxRecDepth 100000
open Go.ChangeShapes Go.WideShapes Go.RowKit M

section
variable {T : ByteArray} {A M B : List Nat}
theorem lat_mid (hT : sb T = A ++ (M ++ B)) : A.length + M.length ≤ T.size ∧ ((sb T).drop A.length).take M.length = M := by
  constructor
  · have h := congrArg List.length hT
    rw [sb_length, List.length_append, List.length_append] at h; omega
  · rw [hT, List.drop_left, List.take_left]
theorem lat_raw (hT : sb T = A ++ (M ++ B)) : rawA T A.length 0 (M.length : Int) = A.length + M.length ∧ rawX T A.length 0 (M.length : Int) = 0 ∧ sb (rawS T A.length 0 (M.length : Int)) = M := by
  obtain ⟨h1, h2⟩ := lat_mid hT
  have c : 0 ≤ (M.length : Int) ∧ (M.length : Int) ≤ ((T.size - A.length : Nat) : Int) := by omega
  refine ⟨?_, ?_, ?_⟩
  · unfold rawA; rw [if_pos ⟨rfl, c⟩, Int.toNat_natCast]
  · unfold rawX; rw [if_pos rfl, if_pos c]
  · unfold rawS; rw [if_pos ⟨rfl, c⟩, Int.toNat_natCast, sb_part _ _ _ h1, Nat.add_sub_cancel_left, h2]
theorem lat_fix {k : Nat} (hT : sb T = A ++ (M ++ B)) (hk : M.length = k) : fixU T A.length 0 k = un M := by
  unfold fixU
  rw [← hk, (lat_raw hT).2.2]
end
theorem lfix_back {T : ByteArray} {A B : List Nat} {k v : Nat} (hT : sb T = A ++ (fx k v ++ B)) : rawA T A.length 0 (k : Int) = A.length + k ∧ rawX T A.length 0 (k : Int) = 0 ∧ fixU T A.length 0 k = v % 2 ^ (8 * k) := by
  have h := lat_raw hT
  have hl := fx_length k v
  rw [hl] at h
  exact ⟨h.1, h.2.1, by rw [lat_fix hT hl, un_fx]⟩
theorem lfx_mod (k v : Nat) : fx k (v % 2 ^ (8 * k)) = fx k v := by
  have h := fx_un (fx_lt k v)
  rw [fx_length, un_fx] at h
  exact h
theorem lnum_back {T : ByteArray} {A B : List Nat} {v : Nat} (hv : v < 18446744073709551616) (hT : sb T = A ++ (numL v ++ B)) :
    numA T A.length 0 = A.length + (numL v).length ∧ numX T A.length 0 = 0 ∧ numV T A.length 0 = v := by
  by_cases h : v < 248
  · have e : numL v = [v] := by unfold numL; rw [if_pos h]
    rw [e] at hT ⊢
    have f := lat_fix (k := 1) hT rfl
    rw [un_one] at f
    obtain ⟨h1, h2, _⟩ := lat_raw hT
    refine ⟨?_, ?_, ?_⟩
    · unfold numA; rw [f, if_pos h]; exact h1
    · unfold numX; rw [f, if_pos h]; exact h2
    · unfold numV; rw [f, if_pos h]
  · have hz := szN_bd v
    have e : numL v = (247 + szN v) :: fx (szN v) v := by unfold numL; rw [if_neg h]
    rw [e] at hT ⊢
    have hT1 : sb T = A ++ ([247 + szN v] ++ (fx (szN v) v ++ B)) := by rw [hT]; simp
    have hT2 : sb T = (A ++ [247 + szN v]) ++ (fx (szN v) v ++ B) := by rw [hT]; simp
    have f := lat_fix (k := 1) hT1 rfl
    rw [un_one] at f
    obtain ⟨h1, h2, _⟩ := lat_raw hT1
    have h1 : rawA T A.length 0 1 = A.length + 1 := h1
    have h2 : rawX T A.length 0 1 = 0 := h2
    obtain ⟨g1, g2, g3⟩ := lfix_back hT2
    have hl : (A ++ [247 + szN v]).length = A.length + 1 := by simp
    rw [hl] at g1 g2 g3
    rw [Nat.mod_eq_of_lt (szN_lt hv)] at g3
    have hE : numE T A.length 0 = 0 := by
      unfold numE
      rw [f, Nat.add_sub_cancel_left, h1, h2, g3, g2, if_neg (by omega)]
    have hn : ¬ 247 + szN v < 248 := by omega
    refine ⟨?_, ?_, ?_⟩
    · unfold numA
      rw [f, if_neg hn, hE, if_pos rfl, Nat.add_sub_cancel_left, h1, h2, g1]
      simp [fx_length]; omega
    · unfold numX; rw [f, if_neg hn, hE]
    · unfold numV; rw [f, if_neg hn, hE, if_pos rfl, Nat.add_sub_cancel_left, h1, h2, g3]

/-- the records of the first j numbers -/
def nrs (V : Nat → Nat) (j : Nat) : List (List Nat) := (List.range j).map fun i => numL (V i)
theorem nrs_len (V : Nat → Nat) (j : Nat) : (nrs V j).length = j := by simp [nrs]
theorem nrs_succ (V : Nat → Nat) (j : Nat) : nrs V (j + 1) = nrs V j ++ [numL (V j)] := by simp [nrs, List.range_succ]
theorem nrs_take (V : Nat → Nat) {m k : Nat} (h : m ≤ k) : (nrs V k).take m = nrs V m := by
  unfold nrs
  rw [← List.map_take, List.take_range, Nat.min_eq_left h]
theorem nrs_at (V : Nat → Nat) {m j : Nat} (h : j < m) : (strs (nrs V m))[j]? = some (.string (bs (numL (V j)))) := by
  unfold strs nrs
  rw [List.getElem?_map, List.getElem?_map, List.getElem?_range h]
  rfl
theorem numL_sb (v : Nat) : sb (bs (numL v)) = numL v := sb_bs _ (numL_lt v)
/-- a record is its number's bytes -/
theorem num_whole {v : Nat} (hv : v < 18446744073709551616) :
    numA (bs (numL v)) 0 0 = (bs (numL v)).size ∧ numX (bs (numL v)) 0 0 = 0 ∧ numV (bs (numL v)) 0 0 = v := by
  have h := lnum_back (T := bs (numL v)) (A := []) (B := []) hv (by rw [numL_sb]; simp)
  rw [List.length_nil, Nat.zero_add] at h
  exact ⟨h.1.trans (bs_size _).symm, h.2⟩
/-- a crash is set, and nothing else -/
def CrashH (w0 : World) (lb b : Nat) (F D : Nat → Prop) (S : DS) (L : LS) (X : List (List Nat)) (t s : Nat) (w : World) (e : Ending) (w' : World) : Prop :=
  e = .returned (.tuple #[]) ∧ ∃ S', Run w0 w' lb b F D S' L X t s ∧ KeepF F w w' ∧ S'.room = S.room ∧ (Hale S → Hale S')
theorem crash_hale {w0 w : World} {lb b : Nat} {F D : Nat → Prop} {S : DS} {L : LS} {X : List (List Nat)} {t s : Nat} (h : Run w0 w lb b F D S L X t s) (n : Int) (hn : n ≤ 9223372036854775807) :
    Calls Tryz.prog 17 #[.pointer (some ⟨b, 0, none⟩), .int .i64 n] w (CrashH w0 lb b F D S L X t s w) :=
  (crash_f b F S n w h.log.disk).mono fun _ _ ⟨he, hf, hk⟩ => ⟨he, _, ⟨h.log.keep hf (fun _ hf => hf) hk, h.st.crash hn, h.old, h.lbB, h.bel.trans (hk.below h.bel.size h.old)⟩, hk, rfl, fun hh => ⟨hh.1, hh.2⟩⟩
theorem Calm.hale {S : DS} (h : Calm S) : Hale S := ⟨h.1, h.2.1⟩
end Go.Proofs.YtinhddggbckmpaaGreatDoor
