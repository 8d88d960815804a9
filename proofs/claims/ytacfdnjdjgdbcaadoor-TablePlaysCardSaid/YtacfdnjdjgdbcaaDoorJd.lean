/- ShaG, ShaH, CrcF, ShaI, in one text. -/
import Derived.Test.YtacfdnjdjgdbcaaDoorJc
import Derived.Deep.AppendLies
import Derived.Deep.RegionHeld3
import Derived.Test.YtacfdnjdjgdbcaaDoorHo
import Derived.Stop.BytesEq
namespace Go.Proofs.YtacfdnjdjgdbcaaDoor
set_option maxRecDepth 100000
open Go.RowKit M

theorem hash_size {l : List Nat} (h : l.length = 32) : (Tryd.prog.info? 24).map (fun i => i.size) = some (byts l).toArray.size := by
  have e : (byts l).toArray.size = 32 := by simp [byts_length, h]
  have k0 : (Tryd.prog.info? 24).map (fun i => i.size) = some 32 := by kernel_rfl
  rw [e]; exact k0
theorem hash_there {w : World} {b : Nat} {l : List Nat} (ht : w.there b 0 32) (h : l.length = 32) : w.there b 0 (byts l).toArray.size := by
  have e : (byts l).toArray.size = 32 := by simp [byts_length, h]
  rw [e]; exact ht
theorem hash_load {w : World} {b : Nat} {l : List Nat} (ht : w.there b 0 32) (h : l.length = 32) : (loadVar 24 ⟨b, 0, none⟩).run Tryd.prog (w.setCells b 0 (byts l)) = .ok (.agg (byts l).toArray) (w.setCells b 0 (byts l)) := by
  have u1 : (Tryd.prog.info? 24).map (fun i => i.size) = some (byts l).length := by
    have := hash_size h
    simpa using this
  exact (store_arr (T := 24) (cs := byts l) (by rw [byts_length, h]; exact ht) u1 (byts_one _) Tryd.underlying24 rfl).2

set_option maxRecDepth 100000 in
set_option maxHeartbeats 400000 in
theorem shaOf_any (s : ByteArray) (hs : s.size < 4294967000) (w : World) (hK : KTab w) :
    Calls Tryd.prog 10 #[.string s] w fun e w' => e = .returned (.agg (byts (shaN (sb s))).toArray) ∧ Below w.heap.size w w' := by
  have hGl := global_lt hK
  have HK := Box.mk hK; clear hK
  have hA : Below w.heap.size w ((w.alloc (.cells (byts (List.replicate 32 0)).toArray 24)).alloc (.cells Tryd.zeroCells69 69)) := ((Below.refl _ _).alloc (Nat.le_refl _) _).alloc (by simp) _
  have tR : ((w.alloc (.cells (byts (List.replicate 32 0)).toArray 24)).alloc (.cells Tryd.zeroCells69 69)).there w.heap.size 0 32 :=
    World.there_alloc (there_new w 24 (byts (List.replicate 32 0)) _ 0 32 rfl (by decide)) _
  have hH : HasW ((w.alloc (.cells (byts (List.replicate 32 0)).toArray 24)).alloc (.cells Tryd.zeroCells69 69)) (w.heap.size + 1) [] (List.replicate 64 0) := has_new _ _ (by simp)
  have cw := shaWrite_any (w.heap.size + 1) [] (List.replicate 64 0) s _ hH (by simp; omega) (ktab_below HK.out hA) (by omega)
  have HA := Box.mk hA; have TR := Box.mk tR; have CW := Box.mk cw
  clear hA tR cw hH
  go_enter Tryd.func10, Tryd.ntmps10
  go_wp2_with (first
    | (go_at_call 22; refine CW.out.mono ?_; rintro e w4 ⟨rfl, ⟨R4, h4⟩, d4⟩; have Y3 := Box.mk (bch' HA.out (d4.below (B := w.heap.size) (by omega) HA.out.size)); have Y4 := Box.mk (d4.there TR.out (by omega)); have Y5 := Box.mk h4; clear h4 d4)
    | (go_at_call 23; refine (sum_any (w.heap.size + 1) ([] ++ sb s) R4 _ Y5.out (by rw [List.nil_append, sb_length]; omega) (ktab_below HK.out Y3.out)).mono ?_; rintro e w5 ⟨rfl, b5⟩; have Y6 := Box.mk (bch Y3.out b5); have Y7 := Box.mk (there_below b5 Y4.out); clear b5)
    | ((with_reducible refine at_store 24 (.tmp 2) (.tmp 6) ?_); refine wpList_store_mid rfl 24 (.tmp 2) (.tmp 6) rfl w.heap.size 0 (byts (shaN (sb s))).toArray rfl rfl (hash_there Y7.out (shaN_length _)) (hash_size (shaN_length _)) (all_oneCell_toArray (byts_one _)) ?_))
  refine bodyPost_ret (v := .agg (byts (shaN (sb s))).toArray) (results_one rfl rfl (hash_load Y7.out (shaN_length _))) rfl ⟨rfl, below_setCells (Nat.le_refl _) _ _ _ _ Y6.out⟩
end Go.Proofs.YtacfdnjdjgdbcaaDoor
namespace Go.Proofs.YtacfdnjdjgdbcaaDoor
set_option maxRecDepth 100000
open Go.RowKit M

/-- a digit -/
def hexd (q : Nat) : Nat := if q < 10 then 48 + q else 87 + q
/-- the digits of bytes -/
def hexL : List Nat → List Nat
  | [] => []
  | v :: l => hexd (v / 16) :: hexd (v % 16) :: hexL l
theorem hexL_append (l m : List Nat) : hexL (l ++ m) = hexL l ++ hexL m := by
  induction l with
  | nil => rfl
  | cons v l ih => simp [hexL, ih]
theorem hexL_length (l : List Nat) : (hexL l).length = 2 * l.length := by
  induction l with
  | nil => rfl
  | cons v l ih => simp [hexL, ih]; omega
theorem hexd_lt {q : Nat} (h : q < 16) : hexd q < 256 := by unfold hexd; split <;> omega
theorem hexL_lt (l : List Nat) (h : ∀ d ∈ l, d < 256) : ∀ d ∈ hexL l, d < 2 ^ 8 := by
  induction l with
  | nil => simp [hexL]
  | cons v l ih =>
    have hv := h v (by simp)
    intro d hd
    simp only [hexL, List.mem_cons] at hd
    rcases hd with rfl | rfl | hd
    · exact hexd_lt (by omega)
    · exact hexd_lt (by omega)
    · exact ih (fun x hx => h x (by simp [hx])) d hd
theorem hex_str : ∀ q : Fin 16, ((⟨#[48, 49, 50, 51, 52, 53, 54, 55, 56, 57, 97, 98, 99, 100, 101, 102]⟩ : ByteArray)[q.val]?).map UInt8.toNat = some (hexd q.val) := by decide
theorem hex_index {q : Nat} (h : q < 16) (w : World) : (Instr.index 9 (.string ⟨#[48, 49, 50, 51, 52, 53, 54, 55, 56, 57, 97, 98, 99, 100, 101, 102]⟩) (.int .u8 (q : Int))).run Tryd.prog w = .ok (.int .u8 (hexd q : Nat)) w := by
  have e := hex_str ⟨q, h⟩
  simp only at e
  cases hc : (⟨#[48, 49, 50, 51, 52, 53, 54, 55, 56, 57, 97, 98, 99, 100, 101, 102]⟩ : ByteArray)[q]? with
  | none => rw [hc] at e; simp at e
  | some c =>
    rw [hc] at e
    simp at e
    simp [Instr.index, run_underlying Tryd.underlying9, asIntOf, go_sem, hc, e]

theorem and8_15 {v r : Nat} (h : v < 256) (hr : r = v % 16) : bits BinOp.and IntKind.u8 (v : Int) 15 = (r : Int) := by
  have e := u8_and_nat v 15 h (by omega)
  rw [nat_mask4] at e
  rw [hr]; exact e

end Go.Proofs.YtacfdnjdjgdbcaaDoor
namespace Go.Proofs.YtacfdnjdjgdbcaaDoor
set_option maxRecDepth 100000
open Go.RowKit M

@[go_sem] theorem run_min_int4 {P : Program} {w : World} (ts : Array TypeId) (t : TypeId) (k k1 k2 k3 : IntKind) (x y z u : Int) : (Builtin.min_ ts t #[.int k x, .int k1 y, .int k2 z, .int k3 u]).run P w =
    .ok (.int k (if u < (if z < (if y < x then y else x) then z else (if y < x then y else x)) then u else (if z < (if y < x then y else x) then z else (if y < x then y else x)))) w := by
  simp [Builtin.min_, Builtin.min2]

theorem xor_a (a b c x y z : Nat) : a ^^^ b ^^^ c ^^^ (x ^^^ y ^^^ z) = (a ^^^ x) ^^^ (b ^^^ y) ^^^ (c ^^^ z) := by
  apply Nat.eq_of_testBit_eq; intro i; simp only [Nat.testBit_xor]
  cases a.testBit i <;> cases b.testBit i <;> cases c.testBit i <;> cases x.testBit i <;> cases y.testBit i <;> cases z.testBit i <;> rfl
theorem xor_b (M a b c : Nat) : M ^^^ (a ^^^ b ^^^ c) = (M ^^^ a) ^^^ (M ^^^ b) ^^^ (M ^^^ c) := by
  apply Nat.eq_of_testBit_eq; intro i; simp only [Nat.testBit_xor]
  cases a.testBit i <;> cases b.testBit i <;> cases c.testBit i <;> cases M.testBit i <;> rfl
theorem xor_c (M a b c : Nat) : (a ^^^ b ^^^ c) ^^^ M = (a ^^^ M) ^^^ (b ^^^ M) ^^^ (c ^^^ M) := by
  apply Nat.eq_of_testBit_eq; intro i; simp only [Nat.testBit_xor]
  cases a.testBit i <;> cases b.testBit i <;> cases c.testBit i <;> cases M.testBit i <;> rfl

theorem xor8 {a b : Nat} (ha : a < 256) (hb : b < 256) : a ^^^ b < 256 := Nat.xor_lt_two_pow (n := 8) ha hb

/-- three bytes, as far as j -/
def lnf (s t u : ByteArray) (n j : Nat) : List Nat := (List.range n).map fun i => if i < j then bn s i ^^^ bn t i ^^^ bn u i else 0
theorem lnf_zero (s t u : ByteArray) (n : Nat) : byts (lnf s t u n 0) = List.replicate n (.int .u8 0) := by
  apply List.ext_getElem
  · simp [byts, lnf]
  · intro i h1 h2; simp [byts, lnf]
theorem lnf_length (s t u : ByteArray) (n j : Nat) : (lnf s t u n j).length = n := by simp [lnf]
theorem lnf_set (s t u : ByteArray) (n j : Nat) : (byts (lnf s t u n j)).set j (.int .u8 ((bn s j ^^^ bn t j ^^^ bn u j : Nat) : Int)) = byts (lnf s t u n (j + 1)) := by
  apply List.ext_getElem
  · simp [byts, lnf]
  · intro i h1 h2
    simp only [List.length_set, byts_length, lnf_length] at h1
    rw [List.getElem_set]
    by_cases h : j = i
    · subst h; simp [byts, lnf]
    · rw [if_neg h]
      simp only [byts, lnf, List.getElem_map, List.getElem_range]
      by_cases h3 : i < j
      · rw [if_pos h3, if_pos (by omega)]
      · rw [if_neg h3, if_neg (by omega)]
theorem lnf_lt (s t u : ByteArray) (n j : Nat) : ∀ d ∈ lnf s t u n j, d < 2 ^ 8 := by
  intro d hd
  simp [lnf] at hd
  obtain ⟨i, _, rfl⟩ := hd
  have h1 := bn_le s i
  have h2 := bn_le t i
  have h3 := bn_le u i
  split
  · exact xor8 (xor8 (by omega) (by omega)) (by omega)
  · omega

theorem num_xor3 : ∀ (n : Nat) (f g h : Nat → Nat), (∀ i, f i < 256) → (∀ i, g i < 256) → (∀ i, h i < 256) →
    num 8 ((List.range n).map fun i => f i ^^^ g i ^^^ h i) = num 8 ((List.range n).map f) ^^^ num 8 ((List.range n).map g) ^^^ num 8 ((List.range n).map h)
  | 0, f, g, h, _, _, _ => by simp [num]
  | n + 1, f, g, h, hf, hg, hh => by
    have ih := num_xor3 n f g h hf hg hh
    have lt : ∀ (k : Nat → Nat), (∀ i, k i < 256) → ∀ d ∈ (List.range n).map k, d < 2 ^ 8 := fun k hk d hd => by
      simp at hd; obtain ⟨i, _, rfl⟩ := hd; have := hk i; omega
    have one : ∀ x : Nat, num 8 [x] = x := fun x => by simp [num]
    simp only [List.range_succ, List.map_append, List.map_cons, List.map_nil]
    rw [num_join 8 _ _ (lt _ fun i => xor8 (xor8 (hf i) (hg i)) (hh i)), num_join 8 _ _ (lt f hf), num_join 8 _ _ (lt g hg), num_join 8 _ _ (lt h hh), ih]
    simp only [one, List.length_map, List.length_range, mul_pow_xor]
    exact xor_a _ _ _ _ _ _

theorem linear_math {n : Nat} {f g h : Nat → Nat} (hf : ∀ i, f i < 256) (hg : ∀ i, g i < 256) (hh : ∀ i, h i < 256) :
    ofN ((List.range n).map fun i => f i ^^^ g i ^^^ h i) = ofN ((List.range n).map f) ^^^ ofN ((List.range n).map g) ^^^ ofN ((List.range n).map h) := by
  have lt : ∀ (k : Nat → Nat), (∀ i, k i < 256) → ∀ d ∈ (List.range n).map k, d < 2 ^ 8 := fun k hk d hd => by
    simp at hd; obtain ⟨i, _, rfl⟩ := hd; have := hk i; omega
  have c1 := crcF_lt (show 4294967295 < 4294967296 by omega) _ (lt f hf)
  have c2 := crcF_lt (show 4294967295 < 4294967296 by omega) _ (lt g hg)
  have c3 := crcF_lt (show 4294967295 < 4294967296 by omega) _ (lt h hh)
  have c4 := crcF_lt (show 4294967295 < 4294967296 by omega) _ (lt _ fun i => xor8 (xor8 (hf i) (hg i)) (hh i))
  unfold ofN more
  simp only [Nat.sub_zero]
  rw [compl32 c4, compl32 c1, compl32 c2, compl32 c3]
  have e : crcF 4294967295 ((List.range n).map fun i => f i ^^^ g i ^^^ h i) = crcF 4294967295 ((List.range n).map f) ^^^ crcF 4294967295 ((List.range n).map g) ^^^ crcF 4294967295 ((List.range n).map h) := by
    unfold crcF
    simp only [List.length_map, List.length_range]
    rw [num_xor3 n f g h hf hg hh, ← sti_xor, ← sti_xor, xor_b]
  rw [e]
  exact xor_c _ _ _ _

theorem quiet_l {P : Program} {f : FuncId} {args : Array Value} {w : World} {n : Nat} {v : Value} (h : Calls P f args (w.drewN n) fun e w' => e = .returned v ∧ w.drewN n = w') :
    Calls P f args (w.drewN n) fun e w' => e = .returned v ∧ ∃ m, w' = w.drewN m :=
  h.mono fun _ _ hh => ⟨hh.1, n, hh.2.symm⟩

theorem sb_extract {x : ByteArray} {n : Nat} (h : n ≤ x.size) : sb (x.extract 0 n) = (List.range n).map (bn x) := by
  have hs : (x.extract 0 n).size = n := by simp; omega
  unfold sb
  rw [hs]
  apply List.map_congr_left
  intro i hi
  have hi' : i < n := by simpa using hi
  rw [← bn_of (show i < (x.extract 0 n).size by omega), ← bn_of (show i < x.size by omega)]
  simp [ByteArray.getElem_extract]

end Go.Proofs.YtacfdnjdjgdbcaaDoor
namespace Go.Proofs.YtacfdnjdjgdbcaaDoor
set_option maxRecDepth 100000
open Go.RowKit M

theorem byts_cell (l : List Nat) (h : ∀ d ∈ l, d < 256) : byts l = (l.map UInt8.ofNat).map Extern.Stop.cell := by
  simp only [byts, List.map_map]
  apply List.map_congr_left
  intro n hn
  have := h n hn
  simp only [Function.comp, Extern.Stop.cell]
  rw [UInt8.toNat_ofNat', Nat.mod_eq_of_lt (by omega)]
  rfl
theorem map_ofNat_inj {l l' : List Nat} (h : ∀ d ∈ l, d < 256) (h' : ∀ d ∈ l', d < 256) : (l.map UInt8.ofNat == l'.map UInt8.ofNat) = decide (l = l') := by
  have key : ∀ {a : List Nat}, (∀ d ∈ a, d < 256) → (a.map UInt8.ofNat).map UInt8.toNat = a := fun {a} ha => by
    rw [List.map_map]
    conv => rhs; rw [← List.map_id a]
    apply List.map_congr_left
    intro n hn
    have := ha n hn
    simp only [Function.comp, id]
    rw [UInt8.toNat_ofNat']
    omega
  by_cases e : l = l'
  · subst e; simp
  · have : ¬ (l.map UInt8.ofNat = l'.map UInt8.ofNat) := fun hh => e (by rw [← key h, ← key h', hh])
    simp [e, this]
/-- two digests are compared -/
theorem hash_eql {l l' : List Nat} (h1 : l.length = 32) (h2 : l'.length = 32) (h3 : ∀ d ∈ l, d < 256) (h4 : ∀ d ∈ l', d < 256) (w : World) :
    (Op.equalIn 10000 24 (.agg (byts l).toArray) (.agg (byts l').toArray)).run Tryd.prog w = .ok (decide (l = l')) w := by
  have hz : ∀ w, (sizeOf 5).run Tryd.prog w = .ok 1 w := fun w => by
    have hE : (Tryd.prog.info? 5).map (fun i => i.size) = some 1 := by kernel_rfl
    cases hq : Tryd.prog.info? 5 with
    | none => simp [hq] at hE
    | some i =>
      have hs : i.size = 1 := by simpa [hq] using hE
      simp [sizeOf, typeInfo, hq, hs]
  have h := run_equalIn_bytes w 9998 24 5 32 Tryd.underlying24 Tryd.underlying5 hz (l.map UInt8.ofNat) (l'.map UInt8.ofNat) (by simpa using h1) (by simpa using h2)
  rw [← byts_cell l h3, ← byts_cell l' h4, map_ofNat_inj h3 h4] at h
  exact h

theorem abc_hex : bs (hexL [186, 120, 22, 191, 143, 1, 207, 234, 65, 65, 64, 222, 93, 174, 34, 35, 176, 3, 97, 163, 150, 23, 122, 156, 180, 16, 255, 97, 242, 0, 21, 173]) = ⟨#[98, 97, 55, 56, 49, 54, 98, 102, 56, 102, 48, 49, 99, 102, 101, 97, 52, 49, 52, 49, 52, 48, 100, 101, 53, 100, 97, 101, 50, 50, 50, 51, 98, 48, 48, 51, 54, 49, 97, 51, 57, 54, 49, 55, 55, 97, 57, 99, 98, 52, 49, 48, 102, 102, 54, 49, 102, 50, 48, 48, 49, 53, 97, 100]⟩ := by decide +kernel
theorem abc_sb : sb ⟨#[97, 98, 99]⟩ = [97, 98, 99] := by decide

theorem kN_get : ∀ t, t < 64 → (([1116352408, 1899447441, 3049323471, 3921009573, 961987163, 1508970993, 2453635748, 2870763221, 3624381080, 310598401, 607225278, 1426881987, 1925078388, 2162078206, 2614888103, 3248222580, 3835390401, 4022224774, 264347078, 604807628, 770255983, 1249150122, 1555081692, 1996064986, 2554220882, 2821834349, 2952996808, 3210313671, 3336571891, 3584528711, 113926993, 338241895, 666307205, 773529912, 1294757372, 1396182291, 1695183700, 1986661051, 2177026350, 2456956037, 2730485921, 2820302411, 3259730800, 3345764771, 3516065817, 3600352804, 4094571909, 275423344, 430227734, 506948616, 659060556, 883997877, 958139571, 1322822218, 1537002063, 1747873779, 1955562222, 2024104815, 2227730452, 2361852424, 2428436474, 2756734187, 3204031479, 3329325298] : List Int).getD t 0) = ((kN.getD t 0 : Nat) : Int) := by decide +kernel

theorem sb_one {s : ByteArray} {k : Nat} (h : k < s.size) : sb (s.extract k (k + 1)) = [(sb s)[k]'(by rw [sb_length]; exact h)] := by
  rw [sb_data]
  simp only [sb_data, List.getElem_map]
  rw [ByteArray.data_extract, Array.toList_extract, List.extract_eq_take_drop, show k + 1 - k = 1 by omega, List.drop_eq_getElem_cons (by simpa using h)]
  simp

end Go.Proofs.YtacfdnjdjgdbcaaDoor
