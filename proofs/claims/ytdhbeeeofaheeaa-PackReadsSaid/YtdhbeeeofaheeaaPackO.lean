/- The laws of layer 4 (pack): PackWrites. -/
import Derived.Test.YtdhbeeeofaheeaaPackN
namespace Go.Proofs.Ytdhbeeeofaheeaa
set_option maxRecDepth 100000
open Go.RowKit M

/-- a slice of things that came in -/
structure TIn (w : World) (v : Value) (n : Nat) (K N : Nat → Int) (V : Nat → Nat) (S : Nat → ByteArray) : Prop where
  shape : ∃ p c, v = .slice p n c
  cells : 0 < n → ∃ b off c, v = .slice (some ⟨b, off, none⟩) n c ∧ b < w.heap.size ∧ ∀ i, i < n →
    w.cell? ⟨b, off + i * 4, none⟩ = some (.int .i64 (K i)) ∧ w.cell? ⟨b, off + i * 4 + 1, none⟩ = some (.int .i64 (N i)) ∧ w.cell? ⟨b, off + i * 4 + 2, none⟩ = some (.int .u64 ((V i : Nat) : Int)) ∧ w.cell? ⟨b, off + i * 4 + 3, none⟩ = some (.string (S i))
  nb : ∀ i, i < n → -9223372036854775808 ≤ N i ∧ N i ≤ 9223372036854775807
  vb : ∀ i, i < n → V i < 18446744073709551616
  sb : ∀ i, i < n → (S i).size ≤ 9223372036854775807
theorem TIn.below {w w' : World} {v : Value} {n : Nat} {K N : Nat → Int} {V : Nat → Nat} {S : Nat → ByteArray} (h : TIn w v n K N V S) (hb : Below w.heap.size w w') : TIn w' v n K N V S :=
  ⟨h.shape, fun hn => by
    obtain ⟨b, off, c, hv, hlt, hc⟩ := h.cells hn
    refine ⟨b, off, c, hv, Nat.lt_of_lt_of_le hlt hb.size, fun i hi => ?_⟩
    obtain ⟨c0, c1, c2, c3⟩ := hc i hi
    refine ⟨?_, ?_, ?_, ?_⟩
    · rw [hb.cell hlt]; exact c0
    · rw [hb.cell hlt]; exact c1
    · rw [hb.cell hlt]; exact c2
    · rw [hb.cell hlt]; exact c3, h.nb, h.vb, h.sb⟩

/-- the bytes of the first things -/
def accL (K N : Nat → Int) (V : Nat → Nat) (S : Nat → ByteArray) : Nat → List Nat
  | 0 => []
  | k + 1 => accL K N V S k ++ thL (K k) (N k) (V k) (S k)
theorem accL_length (K N : Nat → Int) (V : Nat → Nat) (S : Nat → ByteArray) : ∀ k, (accL K N V S k).length ≤ 309 * k
  | 0 => by simp [accL]
  | k + 1 => by
    have h1 := accL_length K N V S k
    have h2 := thL_length (K k) (N k) (V k) (S k)
    simp only [accL, List.length_append]; omega

set_option maxHeartbeats 800000 in
theorem packWrites_walk (p : Option Addr) (n c : Nat) (K N : Nat → Int) (V : Nat → Nat) (S : Nat → ByteArray) (hn : n ≤ 9223372036854775807) (w : World) (hI : TIn w (.slice p n c) n K N V S) :
    Calls Try.prog 3 #[.slice p n c] w fun e w' => e = .returned (.bool true) ∧ Below w.heap.size w w' := by
  have HI := Box.mk hI; clear hI
  have hA : Below w.heap.size w (w.alloc (.cells #[.slice none 0 0] 25)) := (Below.refl _ _).alloc (Nat.le_refl _) _
  have h0 := wr_new w w.heap.size rfl
  have H0 := Box.mk h0; have HA := Box.mk hA
  clear h0 hA
  go_enter Try.func3, Try.ntmps3
  go_wp2_with fail
  go_loopw [4, 5] (fun s i wr => ∃ (k : Nat) (v1 : Value), k ≤ n ∧ k ≤ 30 ∧ i = .int .i64 (k : Int) ∧ s = .string (bs (accL K N V S k)) ∧ Box (Wr wr w.heap.size (accL K N V S k) v1) ∧ Box (Below w.heap.size w wr))
    (fun _ i _ => 30 - (intOf i).toNat)
  case atStart => exact ⟨0, _, by omega, by omega, rfl, rfl, H0, HA⟩
  case round =>
    obtain ⟨k, v1, hkn, hk30, rfl, rfl, hw, hb⟩ := hrel
    have hal := accL_length K N V S k
    have s1 : (bs (accL K N V S k)).size ≤ 9270 := by rw [bs_size]; omega
    by_cases h1 : k < n
    · by_cases h2 : k < 30
      · obtain ⟨b, off, c', hv, hlt, hcell⟩ := HI.out.cells (by omega)
        obtain ⟨rfl, _, rfl⟩ := Value.slice.inj hv
        obtain ⟨e0, e1, e2, e3⟩ := hcell k h1
        have e0 : wr.cell? ⟨b, off + k * 4, none⟩ = some (.int .i64 (K k)) := by rw [hb.out.cell hlt]; exact e0
        have e1 : wr.cell? ⟨b, off + k * 4 + 1, none⟩ = some (.int .i64 (N k)) := by rw [hb.out.cell hlt]; exact e1
        have e2 : wr.cell? ⟨b, off + k * 4 + 2, none⟩ = some (.int .u64 ((V k : Nat) : Int)) := by rw [hb.out.cell hlt]; exact e2
        have e3 : wr.cell? ⟨b, off + k * 4 + 3, none⟩ = some (.string (S k)) := by rw [hb.out.cell hlt]; exact e3
        have hnb := HI.out.nb k h1
        have cp := put_any w.heap.size (accL K N V S k) v1 (K k) (N k) (V k) (S k) hnb.1 hnb.2 (HI.out.vb k h1) wr hw.out (by omega)
        have hap : bs (accL K N V S (k + 1)) = bs (accL K N V S k) ++ bs (thL (K k) (N k) (V k) (S k)) := by rw [bs_append]; rfl
        have hac : accL K N V S (k + 1) = accL K N V S k ++ thL (K k) (N k) (V k) (S k) := rfl
        have htl := thL_length (K k) (N k) (V k) (S k)
        have s2 : (bs (thL (K k) (N k) (V k) (S k))).size ≤ 309 := by rw [bs_size]; omega
        generalize thL (K k) (N k) (V k) (S k) = M at *
        generalize K k = Kk at *
        generalize N k = Nk at *
        generalize V k = Vk at *
        generalize S k = Sk at *
        have CP := Box.mk cp; have HAP := Box.mk hap; have HAC := Box.mk hac
        clear cp hap hac hcell hv hnb hal htl
        go_wp2_with (go_at_call 6; ((with_reducible refine CP.out.mono ?_); rintro e w1 ⟨rfl, v2, q2, x2⟩; have Q2 := Box.mk q2; have B2 := Box.mk (bch' hb.out (x2.below (B := w.heap.size) (Nat.le_refl _) hb.out.size (wr_ge hw.out))); clear q2 x2))
        go_roundw
        case rel => exact ⟨k + 1, v2, by omega, by omega, by go_num, by rw [HAP.out], ⟨by rw [HAC.out]; exact Q2.out⟩, B2⟩
        case measure => simp [intOf]; omega
      · obtain rfl : k = 30 := by omega
        have cb := fun W hW => bytes_any w.heap.size (accL K N V S 30) v1 W hW
        generalize bs (accL K N V S 30) = A at *
        have CB := Box.mk cb
        clear cb hal
        go_wp2_with (first
          | (go_at_call 7; ((with_reducible refine (awake4_any _).mono ?_); rintro e w1 ⟨rfl, b1⟩; have Q1 := Box.mk (hw.out.below b1); have B1 := Box.mk (bch hb.out b1); clear b1))
          | (go_at_call 8; ((with_reducible refine (CB.out _ Q1.out).mono ?_); rintro e w' ⟨rfl, rfl⟩)))
        go_ret
        exact ⟨rfl, B1.out⟩
    · obtain rfl : k = n := by omega
      have cb := fun W hW => bytes_any w.heap.size (accL K N V S k) v1 W hW
      generalize bs (accL K N V S k) = A at *
      have CB := Box.mk cb
      clear cb hal
      go_wp2_with (first
        | (go_at_call 7; ((with_reducible refine (awake4_any _).mono ?_); rintro e w1 ⟨rfl, b1⟩; have Q1 := Box.mk (hw.out.below b1); have B1 := Box.mk (bch hb.out b1); clear b1))
        | (go_at_call 8; ((with_reducible refine (CB.out _ Q1.out).mono ?_); rintro e w' ⟨rfl, rfl⟩)))
      go_ret
      exact ⟨rfl, B1.out⟩
end Go.Proofs.Ytdhbeeeofaheeaa
