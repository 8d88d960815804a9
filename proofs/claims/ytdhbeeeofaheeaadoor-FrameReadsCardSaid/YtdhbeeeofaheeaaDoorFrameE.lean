/- Contracts of ordeallaw06: Laid. -/
import Derived.Test.YtdhbeeeofaheeaaDoorFrameD
namespace Go.Proofs.YtdhbeeeofaheeaaDoor
set_option maxRecDepth 100000
open Go.RowKit M

/-- a slice of strings that came in -/
structure SIn (w : World) (v : Value) (n : Nat) (ss : Nat → ByteArray) : Prop where
  shape : ∃ p c, v = .slice p n c
  cells : 0 < n → ∃ b off c, v = .slice (some ⟨b, off, none⟩) n c ∧ b < w.heap.size ∧ ∀ i, i < n → w.cell? ⟨b, off + i, none⟩ = some (.string (ss i))
theorem SIn.below {w w' : World} {v : Value} {n : Nat} {ss : Nat → ByteArray} (h : SIn w v n ss) (hb : Below w.heap.size w w') : SIn w' v n ss :=
  ⟨h.shape, fun hn => by
    obtain ⟨b, off, c, hv, hlt, hc⟩ := h.cells hn
    exact ⟨b, off, c, hv, Nat.lt_of_lt_of_le hlt hb.size, fun i hi => by rw [hb.cell hlt]; exact hc i hi⟩⟩

/-- the record -/
def rcN (ss : Nat → ByteArray) (i : Nat) : List Nat := sb ((ss i).extract 0 60)
theorem rcN_length (ss : Nat → ByteArray) (i : Nat) : (rcN ss i).length ≤ 60 := by unfold rcN; rw [sb_length]; exact cut_le _ _
theorem rcN_lt (ss : Nat → ByteArray) (i : Nat) : ∀ d ∈ rcN ss i, d < 2 ^ 8 := sb_lt _
/-- frames, one behind the other -/
def lay (q : Nat) (f : Nat → List Nat) : Nat → List Nat
  | 0 => []
  | k + 1 => lay q f k ++ frN ((q + k) % 18446744073709551616) (f k)
theorem lay_lt {q : Nat} {f : Nat → List Nat} (hf : ∀ i, ∀ d ∈ f i, d < 2 ^ 8) : ∀ k, ∀ d ∈ lay q f k, d < 2 ^ 8
  | 0, d, h => by cases h
  | k + 1, d, h => by
    rcases List.mem_append.1 h with h | h
    · exact lay_lt hf k d h
    · exact frN_lt (hf k) d h
theorem lay_length {q : Nat} {f : Nat → List Nat} (hf : ∀ i, (f i).length ≤ 60) : ∀ k, (lay q f k).length ≤ 78 * k
  | 0 => by simp [lay]
  | k + 1 => by
    have := lay_length hf k (q := q)
    have h2 := hf k
    simp only [lay, List.length_append, frN_length]; omega
theorem lay_succ (q : Nat) (f : Nat → List Nat) (k : Nat) : (lay q f (k + 1)).length = (lay q f k).length + (18 + (f k).length) := by
  simp only [lay, List.length_append, frN_length]
/-- where each ends -/
def endsN (q : Nat) (f : Nat → List Nat) (k : Nat) : List Nat := (List.range k).map fun i => (lay q f (i + 1)).length
theorem endsN_succ (q : Nat) (f : Nat → List Nat) (k : Nat) : endsN q f (k + 1) = endsN q f k ++ [(lay q f (k + 1)).length] := by
  simp [endsN, List.range_succ]
theorem endsN_length (q : Nat) (f : Nat → List Nat) (k : Nat) : (endsN q f k).length = k := by simp [endsN]

/-- what Laid answers -/
def LaidP (q : Nat) (f : Nat → List Nat) (k : Nat) (w : World) (e : Ending) (w' : World) : Prop :=
  ∃ v, e = .returned (.tuple #[.string (bs (lay q f k)), v]) ∧ w'.ownsRow w.heap.size 3 1 v k (ints (endsN q f k)) ∧ Below w.heap.size w w'

set_option maxHeartbeats 800000 in
theorem laid_any (p : Option Addr) (n c : Nat) (ss : Nat → ByteArray) (q : Nat) (hq : q < 18446744073709551616) (w : World) (hH : Halves w) (hI : SIn w (.slice p n c) n ss) (hn : n ≤ 9223372036854775807) :
    Calls Tryd.prog 47 #[.slice p n c, .int .u64 q] w (LaidP q (rcN ss) (min n 6) w) := by
  obtain ⟨i0, hi, hz0, hz1, hz2⟩ := info_parts info_int
  have HH := Box.mk hH; have HI := Box.mk hI; clear hH hI
  have c1 : ∀ (s : ByteArray) w, Calls Tryd.prog 13 #[.string s, .int .i64 60] w fun e w' => e = .returned (.string (s.extract 0 60)) ∧ w = w' := fun s w => cut_any s 60 w
  have C1 := Box.mk c1; clear c1
  go_enter Tryd.func47, Tryd.ntmps47
  go_wp2_with fail
  go_loopw [6, 7, 8] (fun s v i wr => ∃ k : Nat, k ≤ n ∧ k ≤ 6 ∧ i = .int .i64 (k : Int) ∧ s = .string (bs (lay q (rcN ss) k)) ∧ Box (wr.ownsRow w.heap.size 3 1 v k (ints (endsN q (rcN ss) k))) ∧ Box (Below w.heap.size w wr) ∧ ∃ p c, v = .slice p k c)
    (fun _ _ i _ => 6 - (intOf i).toNat)
  case atStart => exact ⟨0, by omega, by omega, rfl, rfl, ⟨World.ownsRow_lit w #[] 0 (Nat.le_refl _) (by decide) rfl⟩, ⟨(Below.refl _ _).alloc (Nat.le_refl _) _⟩, _, _, rfl⟩
  case round =>
    obtain ⟨k, hkn, hk6, rfl, rfl, hown, hb, p2, c2, rfl⟩ := hrel
    have hlk := lay_length (q := q) (rcN_length ss) k
    have sA : (bs (lay q (rcN ss) k)).size ≤ 468 := by rw [bs_size]; omega
    by_cases h1 : k < n
    · by_cases h2 : k < 6
      · obtain ⟨b, off, c', hv, hlt, hcell⟩ := HI.out.cells (by omega)
        obtain ⟨rfl, _, rfl⟩ := Value.slice.inj hv
        have hcell0 : wr.cell? ⟨b, off + k, none⟩ = some (.string (ss k)) := by rw [hb.out.cell hlt]; exact hcell k h1
        have hcut : rcN ss k = sb ((ss k).extract 0 60) := rfl
        have hcl := cut_le (ss k) 60
        obtain ⟨y, hy⟩ : ∃ y, y = (q + k) % 18446744073709551616 := ⟨_, rfl⟩
        have nk : IntKind.u64.wrap (k : Int) = (k : Int) := u64small (by omega)
        have ny : IntKind.u64.wrap ((q : Int) + (k : Int)) = (y : Int) := by rw [show (q : Int) + (k : Int) = ((q + k : Nat) : Int) by omega, u64w, hy]
        have hyl : y < 18446744073709551616 := by omega
        have cw := fun W h => write_any y ((ss k).extract 0 60) hyl (by omega) W h
        have hfl := frN_length y (rcN ss k)
        have hrl := rcN_length ss k
        have hls : lay q (rcN ss) (k + 1) = lay q (rcN ss) k ++ frN y (rcN ss k) := by rw [hy]; rfl
        rw [← hcut] at cw
        obtain ⟨m, hm⟩ : ∃ m, m = (lay q (rcN ss) (k + 1)).length := ⟨_, rfl⟩
        have hes := endsN_succ q (rcN ss) k
        rw [← hm] at hes
        have hsz : (bs (lay q (rcN ss) k)).size + (bs (frN y (rcN ss k))).size = m := by rw [bs_size, bs_size, hm, hls, List.length_append]
        have hap : bs (lay q (rcN ss) (k + 1)) = bs (lay q (rcN ss) k) ++ bs (frN y (rcN ss k)) := by rw [hls, bs_append]
        have sF : (bs (frN y (rcN ss k))).size ≤ 78 := by rw [bs_size, hfl]; omega
        obtain ⟨R, hR⟩ : ∃ R, R = (ss k).extract 0 60 := ⟨_, rfl⟩
        obtain ⟨F, hF⟩ : ∃ F, F = bs (frN y (rcN ss k)) := ⟨_, rfl⟩
        obtain ⟨A, hA⟩ : ∃ A, A = bs (lay q (rcN ss) k) := ⟨_, rfl⟩
        rw [← hF, ← hR] at cw
        rw [← hF] at hsz hap sF
        rw [← hA] at hsz hap sA ⊢
        have C1k : ∀ w, Calls Tryd.prog 13 #[.string (ss k), .int .i64 60] w fun e w' => e = .returned (.string R) ∧ w = w' := fun w => by
          rw [hR]; exact C1.out (ss k) w
        have CW := Box.mk cw; have C1K := Box.mk C1k; have HES := Box.mk hes; have HAP := Box.mk hap; have HSZ := Box.mk hsz
        have HO := Box.mk hown.out
        have hm6 : m ≤ 600 := by omega
        have hsz2 : (A.size : Int) + (F.size : Int) = (m : Int) := by omega
        generalize ss k = Sk at *
        clear cw C1k hes hap hsz hR hF hA hm hls hy hcut hcl hlk hfl hrl hcell hv hown
        go_wp2_with (first
          | (go_at_call 13; ((with_reducible refine (C1K.out _).mono ?_); rintro e w' ⟨rfl, rfl⟩))
          | (go_at_call 43; ((with_reducible refine (CW.out _ (halves_below HH.out hb.out)).mono ?_); rintro e w1 ⟨rfl, b1⟩; have B1 := Box.mk (bch hb.out b1); have O1 := Box.mk (own_keep HO.out b1); clear b1))
          | (at_builtin; refine wpList_append_lies _ rfl (.tmp 41) (.tmp 44) 33 rfl w.heap.size 3 i0 _ 1 8 Tryd.underlying33 hi hz0 hz1 hz2 rfl (by omega) _ _ _ rfl (O1.out.alloc _) ⟨w1.heap.size, 0, none⟩ 1 1 [.int .i64 (m : Int)] rfl rfl (World.news_of_block (cs := #[.int .i64 (m : Int)]) (t := 3) (fr := (0, 0)) (heap_alloc_new _ _)) (by simp [Value.oneCell']) (by omega) (by unfold maxLen; omega) (by omega) (by have := B1.out.size; simp; omega) (w1.heap.size + 1) (by simp) ?_; intro g cap w2 hown2 hgrow hat hlt2; have O2 := Box.mk hown2; have B2 : Box (Below w.heap.size w w2) := ⟨(B1.out.alloc B1.out.size _).grown hgrow (by have := B1.out.size; simp; omega) (fun k hk => (O1.out.lt k hk).1)⟩; clear hown2 hgrow hat hlt2))
        go_roundw
        case rel =>
          refine ⟨k + 1, by omega, by omega, by go_num, by rw [HAP.out], ⟨?_⟩, B2, _, _, rfl⟩
          have h := O2.out
          rw [HES.out]
          simpa [ints] using h
        case measure => simp [intOf]; omega
      · obtain rfl : k = 6 := by omega
        have e6 : min n 6 = 6 := by omega
        have HO := Box.mk hown.out
        clear hown hlk sA
        have E6 := Box.mk e6; clear e6
        go_wp2
        go_ret2
        rw [E6.out]
        exact ⟨_, rfl, HO.out, hb.out⟩
    · obtain rfl : k = n := by omega
      have e6 : min k 6 = k := by omega
      have HO := Box.mk hown.out
      clear hown hlk sA
      have E6 := Box.mk e6; clear e6
      go_wp2
      go_ret2
      rw [E6.out]
      exact ⟨_, rfl, HO.out, hb.out⟩
end Go.Proofs.YtdhbeeeofaheeaaDoor
