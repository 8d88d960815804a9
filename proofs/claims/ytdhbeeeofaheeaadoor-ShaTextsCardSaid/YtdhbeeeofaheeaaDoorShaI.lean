/- The laws of layer 3 (sha): awake; ShaParts. -/
import Derived.Test.YtdhbeeeofaheeaaDoorShaH
import Derived.Test.YtdhbeeeofaheeaaDoorCrcF
import Derived.Stop.BytesEq
namespace Go.Proofs.YtdhbeeeofaheeaaDoor
set_option maxRecDepth 100000
open Go.RowKit M

theorem byts_cell (l : List Nat) (h : ∀ d ∈ l, d < 256) : byts l = (l.map UInt8.ofNat).map Extern.Stop.cell := by
  simp only [byts, List.map_map]
  apply List.map_congr_left
  intro n hn
  have := h n hn
  simp only [Function.comp, Extern.Stop.cell]
  rw [UInt8.toNat_ofNat', Nat.mod_eq_of_lt (by omega)]
  rfl
theorem map_ofNat_inj {l l' : List Nat} (h : ∀ d ∈ l, d < 256) (h' : ∀ d ∈ l', d < 256) : (l.map UInt8.ofNat == l'.map UInt8.ofNat) = decide (l = l') := by
  have key : ∀ {a : List Nat}, (∀ d ∈ a, d < 256) → (a.map UInt8.ofNat).map UInt8.toNat = a := fun {a} ha => by
    rw [List.map_map]
    conv => rhs; rw [← List.map_id a]
    apply List.map_congr_left
    intro n hn
    have := ha n hn
    simp only [Function.comp, id]
    rw [UInt8.toNat_ofNat']
    omega
  by_cases e : l = l'
  · subst e; simp
  · have : ¬ (l.map UInt8.ofNat = l'.map UInt8.ofNat) := fun hh => e (by rw [← key h, ← key h', hh])
    simp [e, this]
/-- two digests are compared -/
theorem hash_eql {l l' : List Nat} (h1 : l.length = 32) (h2 : l'.length = 32) (h3 : ∀ d ∈ l, d < 256) (h4 : ∀ d ∈ l', d < 256) (w : World) :
    (Op.equalIn 10000 36 (.agg (byts l).toArray) (.agg (byts l').toArray)).run Tryd.prog w = .ok (decide (l = l')) w := by
  have hz : ∀ w, (sizeOf 5).run Tryd.prog w = .ok 1 w := fun w => by
    have hE : (Tryd.prog.info? 5).map (fun i => i.size) = some 1 := by kernel_rfl
    cases hq : Tryd.prog.info? 5 with
    | none => simp [hq] at hE
    | some i =>
      have hs : i.size = 1 := by simpa [hq] using hE
      simp [sizeOf, typeInfo, hq, hs]
  have h := run_equalIn_bytes w 9998 36 5 32 Tryd.underlying36 Tryd.underlying5 hz (l.map UInt8.ofNat) (l'.map UInt8.ofNat) (by simpa using h1) (by simpa using h2)
  rw [← byts_cell l h3, ← byts_cell l' h4, map_ofNat_inj h3 h4] at h
  exact h

theorem abc_hex : bs (hexL [186, 120, 22, 191, 143, 1, 207, 234, 65, 65, 64, 222, 93, 174, 34, 35, 176, 3, 97, 163, 150, 23, 122, 156, 180, 16, 255, 97, 242, 0, 21, 173]) = ⟨#[98, 97, 55, 56, 49, 54, 98, 102, 56, 102, 48, 49, 99, 102, 101, 97, 52, 49, 52, 49, 52, 48, 100, 101, 53, 100, 97, 101, 50, 50, 50, 51, 98, 48, 48, 51, 54, 49, 97, 51, 57, 54, 49, 55, 55, 97, 57, 99, 98, 52, 49, 48, 102, 102, 54, 49, 102, 50, 48, 48, 49, 53, 97, 100]⟩ := by decide +kernel
theorem abc_sb : sb ⟨#[97, 98, 99]⟩ = [97, 98, 99] := by decide

theorem awake3_any (w : World) (hK : KTab w) : Calls Tryd.prog 19 #[] w fun e w' => e = .returned (.bool true) ∧ Below w.heap.size w w' := by
  have c1 := shaOf_any ⟨#[97, 98, 99]⟩ (by decide) w hK
  rw [abc_sb, sha_abc] at c1
  have c2 := fun w => text_any [186, 120, 22, 191, 143, 1, 207, 234, 65, 65, 64, 222, 93, 174, 34, 35, 176, 3, 97, 163, 150, 23, 122, 156, 180, 16, 255, 97, 242, 0, 21, 173] (by decide) (by decide) w
  rw [abc_hex] at c2
  obtain ⟨D, hD⟩ : ∃ D, D = byts [186, 120, 22, 191, 143, 1, 207, 234, 65, 65, 64, 222, 93, 174, 34, 35, 176, 3, 97, 163, 150, 23, 122, 156, 180, 16, 255, 97, 242, 0, 21, 173] := ⟨_, rfl⟩
  rw [← hD] at c1 c2
  clear hD
  have C1 := Box.mk c1; have C2 := Box.mk c2
  clear c1 c2 hK
  go_enter Tryd.func19, Tryd.ntmps19
  go_wp2_with (first
    | (go_at_call 18; ((with_reducible refine (C1.out).mono ?_); rintro e w1 ⟨rfl, b1⟩))
    | (go_at_call 23; ((with_reducible refine (C2.out _).mono ?_); rintro e w2 ⟨rfl, b2⟩)))
  go_ret
  refine ⟨?_, bch b1 b2⟩
  rfl

theorem kN_get : ∀ t, t < 64 → (([1116352408, 1899447441, 3049323471, 3921009573, 961987163, 1508970993, 2453635748, 2870763221, 3624381080, 310598401, 607225278, 1426881987, 1925078388, 2162078206, 2614888103, 3248222580, 3835390401, 4022224774, 264347078, 604807628, 770255983, 1249150122, 1555081692, 1996064986, 2554220882, 2821834349, 2952996808, 3210313671, 3336571891, 3584528711, 113926993, 338241895, 666307205, 773529912, 1294757372, 1396182291, 1695183700, 1986661051, 2177026350, 2456956037, 2730485921, 2820302411, 3259730800, 3345764771, 3516065817, 3600352804, 4094571909, 275423344, 430227734, 506948616, 659060556, 883997877, 958139571, 1322822218, 1537002063, 1747873779, 1955562222, 2024104815, 2227730452, 2361852424, 2428436474, 2756734187, 3204031479, 3329325298] : List Int).getD t 0) = ((kN.getD t 0 : Nat) : Int) := by decide +kernel

theorem sb_one {s : ByteArray} {k : Nat} (h : k < s.size) : sb (s.extract k (k + 1)) = [(sb s)[k]'(by rw [sb_length]; exact h)] := by
  rw [sb_data]
  simp only [sb_data, List.getElem_map]
  rw [ByteArray.data_extract, Array.toList_extract, List.extract_eq_take_drop, show k + 1 - k = 1 by omega, List.drop_eq_getElem_cons (by simpa using h)]
  simp

end Go.Proofs.YtdhbeeeofaheeaaDoor
