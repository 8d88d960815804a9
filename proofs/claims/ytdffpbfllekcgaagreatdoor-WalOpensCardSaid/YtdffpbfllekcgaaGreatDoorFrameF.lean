/- The laws of layer 6 (frame): FrameBack, FrameTorn. -/
import Derived.Test.YtdffpbfllekcgaaGreatDoorIb
import Derived.Deep.QuietTactic
namespace Go.Proofs.YtdffpbfllekcgaaGreatDoor
set_option maxRecDepth 100000
open Go.RowKit M

theorem bdr {B : Nat} {w0 w : World} (h : Below B w0 w) (n : Nat) : Below B w0 (w.drewN n) := ⟨h.os, h.tape, h.output, h.size, h.block⟩
theorem own_drewN {w : World} {B e z : Nat} {v : Value} {n : Nat} {xs : List Value} (h : w.ownsRow B e z v n xs) (k : Nat) : (w.drewN k).ownsRow B e z v n xs := h
theorem SIn.drewN {w : World} {v : Value} {n : Nat} {ss : Nat → ByteArray} (h : SIn w v n ss) (k : Nat) : SIn (w.drewN k) v n ss := ⟨h.shape, h.cells⟩
theorem quiet_f {P : Program} {f : FuncId} {args : Array Value} {w : World} {n : Nat} {v : Value} (h : Calls P f args (w.drewN n) fun e w' => e = .returned v ∧ w.drewN n = w') :
    Calls P f args (w.drewN n) fun e w' => e = .returned v ∧ ∃ m, w' = w.drewN m :=
  h.mono fun _ _ hh => ⟨hh.1, n, hh.2.symm⟩

/-- frames that lie one behind the other are scanned -/
theorem scan_lay {q : Nat} (hq : q < 18446744073709551616) {f : Nat → List Nat} (hf : ∀ i, (f i).length ≤ 60) : ∀ (k : Nat) (t : List Nat),
    scanN (lay q f k ++ t) q = ((List.range k).map f ++ (scanN t ((q + k) % 18446744073709551616)).1, (lay q f k).length + (scanN t ((q + k) % 18446744073709551616)).2)
  | 0, t => by
    rw [Nat.add_zero, Nat.mod_eq_of_lt hq]
    simp [lay]
  | k + 1, t => by
    rw [lay, List.append_assoc, scan_lay hq hf k, scan_frame (Nat.mod_lt _ (by decide)) (by have := hf k; omega)]
    have e : ((q + k) % 18446744073709551616 + 1) % 18446744073709551616 = (q + (k + 1)) % 18446744073709551616 := by omega
    rw [e, List.range_succ]
    simp only [List.map_append, List.map_cons, List.map_nil, List.append_assoc, List.singleton_append, List.length_append, frN_length, Nat.add_assoc]
theorem scan_none (q : Nat) : scanN [] q = ([], 0) := scan_stop (fun h => by have := h.1; rw [rdX_nil] at this; cases this)
theorem lay_prefix {q : Nat} {f : Nat → List Nat} {m : Nat} : ∀ k, m ≤ k → ∃ t, lay q f k = lay q f m ++ t
  | 0, h => ⟨[], by rw [Nat.le_zero.1 h]; simp⟩
  | k + 1, h => by
    rcases Nat.lt_or_ge k m with h1 | h1
    · obtain rfl : m = k + 1 := by omega
      exact ⟨[], by simp⟩
    · obtain ⟨t, ht⟩ := lay_prefix k h1 (q := q) (f := f)
      exact ⟨t ++ frN ((q + k) % 18446744073709551616) (f k), by rw [lay, ht, List.append_assoc]⟩
theorem lay_mono {q : Nat} {f : Nat → List Nat} {m k : Nat} (h : m ≤ k) : (lay q f m).length ≤ (lay q f k).length := by
  obtain ⟨t, ht⟩ := lay_prefix k h (q := q) (f := f)
  rw [ht, List.length_append]; omega
/-- how many frames are whole -/
theorem whole_ex (q : Nat) (f : Nat → List Nat) (cut : Nat) : ∀ k, ∃ m, m ≤ k ∧ (m = 0 ∨ (lay q f m).length ≤ cut) ∧ (m < k → cut < (lay q f (m + 1)).length)
  | 0 => ⟨0, by omega, .inl rfl, by omega⟩
  | k + 1 => by
    by_cases h : (lay q f (k + 1)).length ≤ cut
    · exact ⟨k + 1, by omega, .inr h, by omega⟩
    · obtain ⟨m, h1, h2, h3⟩ := whole_ex q f cut k
      rcases Nat.lt_or_ge m k with h4 | h4
      · exact ⟨m, by omega, h2, fun _ => h3 h4⟩
      · obtain rfl : m = k := by omega
        exact ⟨m, by omega, h2, fun _ => by omega⟩
theorem scan_cut {q : Nat} (hq : q < 18446744073709551616) {f : Nat → List Nat} (hf : ∀ i, (f i).length ≤ 60) {k m cut : Nat} (hc : cut ≤ (lay q f k).length) (h1 : m ≤ k) (h2 : (lay q f m).length ≤ cut) (h3 : m < k → cut < (lay q f (m + 1)).length) :
    scanN ((lay q f k).take cut) q = ((List.range m).map f, (lay q f m).length) := by
  rcases Nat.lt_or_ge m k with h | h
  · obtain ⟨t, ht⟩ := lay_prefix k (show m + 1 ≤ k from h) (q := q) (f := f)
    have h4 := h3 h
    rw [lay_succ] at h4
    have e : (lay q f k).take cut = lay q f m ++ (frN ((q + m) % 18446744073709551616) (f m)).take (cut - (lay q f m).length) := by
      rw [ht, lay, List.append_assoc, List.take_append, List.take_of_length_le h2, List.take_append_of_le_length (by rw [frN_length]; omega)]
    rw [e, scan_lay hq hf, scan_stop (fun hh => by rw [rdX_cut (by have := hf m; omega) (by omega)] at hh; cases hh.1)]
    simp
  · obtain rfl : m = k := by omega
    rw [List.take_of_length_le h2]
    have e := scan_lay hq hf m []
    rw [List.append_nil, scan_none] at e
    rw [e]; simp

end Go.Proofs.YtdffpbfllekcgaaGreatDoor
