/- Contracts of ordealref07: Say. -/
import Derived.Test.YtdffpbfllekcgaaGreatDoorOpnE
import Derived.Test.YtdffpbfllekcgaaGreatDoorIa
namespace Go.Proofs.YtdffpbfllekcgaaGreatDoor
set_option maxRecDepth 100000
open Go.ChangeShapes Go.WideShapes Go.RowKit M

def strY (X : List ByteArray) : List Value := X.map Value.string
def SayQ (X : List ByteArray) (T : ByteArray → ByteArray) (w : World) (e : Ending) (w' : World) : Prop :=
  ∃ v, e = .returned (.tuple #[v, .int .u64 (((sayL false 1 (logs (fun x => sb (T x)) X)).2 : Nat) : Int)]) ∧ w'.ownsRow w.heap.size 9 1 v (sayL false 1 (logs (fun x => sb (T x)) X)).1.length (strs (sayL false 1 (logs (fun x => sb (T x)) X)).1) ∧ Below w.heap.size w w'

set_option maxRecDepth 100000 in
set_option maxHeartbeats 4000000 in
theorem logSay_any (X : List ByteArray) (T : ByteArray → ByteArray) (n : Nat) (hn : n = X.length) (hl : n ≤ 100) (hT : ∀ x, (T x).size ≤ 5000) (hs : ∀ x ∈ X, x.size ≤ 1000) (p1 p2 : Option Addr) (k1 k2 B1 B2 : Nat) (w : World)
    (o1 : w.ownsRow B1 9 1 (.slice p1 n k1) n (strY X)) (o2 : w.ownsRow B2 9 1 (.slice p2 n k2) n (strY (X.map T))) :
    Calls Tryz.prog 12 #[.slice p1 n k1, .slice p2 n k2] w (SayQ X T w) := by
  obtain ⟨i0, hi, hz0, hz1, hz2⟩ := string_parts
  unfold SayQ
  obtain ⟨rd, hrd⟩ : ∃ rd : ByteArray → List Nat, rd = fun x => sb (T x) := ⟨_, rfl⟩
  rw [← hrd]
  have cnum : ∀ x ∈ X, ∀ W, Calls Tryz.prog 28 #[.string x] W (NumQ x W) := fun x hx W => logNumber_any x (by have := hs x hx; omega) W
  have cscan : ∀ (x : ByteArray) (q : Nat), q < 18446744073709551616 → ∀ W, Calls Tryz.prog 29 #[.string (T x), .int .u64 (q : Int)] W fun e w' => ∃ v y, e = .returned (.tuple #[v, .int .i64 y]) ∧ w'.ownsRow W.heap.size 9 1 v (scanN (rd x) q).1.length (strs (scanN (rd x) q).1) ∧ Below W.heap.size W w' := fun x q hq W => by
    rw [hrd]
    exact (refScan_any (T x) (by have := hT x; omega) q hq W).mono fun e w' ⟨v, he, r, hb⟩ => ⟨v, _, he, r, hb⟩
  have lenD : ∀ (x : ByteArray) (q : Nat), (scanN (rd x) q).1.length ≤ 5000 := fun x q => by
    have := scan_len (rd x) q
    rw [hrd] at this ⊢
    rw [sb_length] at this
    have := hT x
    omega
  have NU := Box.mk cnum; have SC := Box.mk cscan; have LD := Box.mk lenD; have HN := Box.mk hn; have O1 := Box.mk o1; have O2 := Box.mk o2
  clear cnum cscan lenD hn o1 o2 hT hs hrd
  go_enter Tryz.func12, Tryz.ntmps12
  go_wp2_with fail
  go_loopw [6, 7, 8, 18] (fun o nv bv i wr => ∃ (j nx : Nat) (b : Bool) (R : List (List Nat)) (rl : Nat), j ≤ n ∧ i = .int .i64 (j : Int) ∧ nv = .int .u64 (nx : Int) ∧ bv = .bool b ∧ rl ≤ 5000 * j ∧ Box (rl = R.length) ∧
      Box (sayL false 1 (logs rd X) = (R ++ (sayL b nx (logs rd (X.drop j))).1, (sayL b nx (logs rd (X.drop j))).2)) ∧ Box (wr.ownsRow w.heap.size 9 1 o rl (strs R)) ∧ Box (Below w.heap.size w wr) ∧ ∃ p2 l2 c2, o = .slice p2 l2 c2)
    (fun _ _ _ i _ => n - (intOf i).toNat)
  case atStart => exact ⟨0, 1, false, [], 0, by omega, rfl, rfl, rfl, by omega, ⟨rfl⟩, ⟨rfl⟩, ⟨World.ownsRow_lit w #[] 0 (Nat.le_refl _) (by decide) rfl⟩, ⟨(Below.refl _ _).alloc (Nat.le_refl _) _⟩, _, _, _, rfl⟩
  case round =>
    obtain ⟨j, nx, b, R, rl0, hj, rfl, rfl, rfl, hrl, RL0, hSY, hO, hB, p3, l3, c3, rfl⟩ := hrel
    by_cases hlt : j < n
    · obtain ⟨x, hx⟩ : ∃ x, X[j]? = some x := ⟨_, List.getElem?_eq_getElem (by rw [← HN.out]; exact hlt)⟩
      have hmem := List.mem_of_getElem? hx
      have rn : wr.ownsRow B1 9 1 (.slice p1 n k1) n (strY X) := row_keep O1.out (fun k e => hB.out.block k (O1.out.lt k e).2)
      have rt : wr.ownsRow B2 9 1 (.slice p2 n k2) n (strY (X.map T)) := row_keep O2.out (fun k e => hB.out.block k (O2.out.lt k e).2)
      obtain ⟨ga, ca, hva, _⟩ := rn.form (by omega)
      obtain ⟨rfl, _, rfl⟩ := Value.slice.inj hva
      obtain ⟨gb, cb, hvb, _⟩ := rt.form (by omega)
      obtain ⟨rfl, _, rfl⟩ := Value.slice.inj hvb
      have hc1 := rn.cellAt j (by omega)
      have hc2 := rt.cellAt j (by omega)
      have lta := (O1.out.lt ga rfl).2
      have ltb := (O2.out.lt gb rfl).2
      unfold strY at hc1 hc2
      rw [List.getElem?_map, hx] at hc1
      rw [List.getElem?_map, List.getElem?_map, hx] at hc2
      have q1 : wr.cell? ⟨ga, j, none⟩ = some (.string x) := by simpa using hc1
      have q2 : wr.cell? ⟨gb, j, none⟩ = some (.string (T x)) := by simpa using hc2
      have cn := fun W => NU.out x hmem W
      have sy := hSY.out
      rw [drop_at hx] at sy
      clear hva hvb rn rt hc1 hc2 hmem hx hSY
      cases hq : logN x with
      | none =>
        rw [logs_skip _ _ hq] at sy
        have SY := Box.mk sy
        have cn2 : ∀ W, Calls Tryz.prog 28 #[.string x] W fun e w' => (∃ v : Nat, e = .returned (.tuple #[.int .u64 (v : Int), .bool false])) ∧ W = w' := fun W => (cn W).mono fun e w' ⟨⟨v, he, _⟩, hw⟩ => ⟨⟨v, by rw [hq] at he; exact he⟩, hw⟩
        have CN := Box.mk cn2
        clear cn cn2 sy hq q2
        go_wp2_with (go_at_call 28; ((with_reducible refine (CN.out _).mono ?_); rintro e w' ⟨⟨v, rfl⟩, rfl⟩))
        go_roundw
        case rel => exact ⟨j + 1, nx, b, R, rl0, by omega, by go_num, rfl, rfl, by omega, RL0, SY, hO, hB, _, _, _, rfl⟩
        case measure => simp [intOf]; omega
      | some q =>
        have hqs := (logN_is hq).1
        rw [logs_take _ _ hq] at sy
        have cn2 : ∀ W, Calls Tryz.prog 28 #[.string x] W fun e w' => e = .returned (.tuple #[.int .u64 (q : Int), .bool true]) ∧ W = w' := fun W => (cn W).mono fun e w' ⟨⟨v, he, hv⟩, hw⟩ => ⟨by rw [hv q hq, hq] at he; exact he, hw⟩
        have sc := SC.out x q hqs
        have ld := LD.out x q
        obtain ⟨D, hDD⟩ : ∃ D, D = rd x := ⟨_, rfl⟩
        rw [← hDD] at sy sc ld
        obtain ⟨ln, hln⟩ : ∃ ln, ln = (scanN D q).1.length := ⟨_, rfl⟩
        rw [← hln] at sc ld
        obtain ⟨TX, hTX⟩ : ∃ TX, TX = T x := ⟨_, rfl⟩
        rw [← hTX] at sc q2
        have wl : IntKind.u64.wrap (ln : Int) = (ln : Int) := u64small (by omega)
        obtain ⟨nx2, hnx2⟩ : ∃ nx2, nx2 = (q + ln) % 18446744073709551616 := ⟨_, rfl⟩
        have wa : IntKind.u64.wrap ((q : Int) + (ln : Int)) = (nx2 : Int) := by rw [show ((q : Int) + (ln : Int)) = ((q + ln : Nat) : Int) by omega, hnx2]; exact u64w _
        have ol : rl0 + ln ≤ 1000000 := by omega
        have q2' := Box.mk q2
        have CN := Box.mk cn2; have SCX := Box.mk sc; have LN := Box.mk hln; have NX2 := Box.mk hnx2
        clear cn cn2 sc hDD hln hnx2 hq hTX
        by_cases hstop : b = true ∧ q ≠ nx
        · obtain ⟨rfl, hne⟩ := hstop
          have d3 : ((q : Int) != (nx : Int)) = true := by simp; omega
          rw [sayL_stop _ hne, List.append_nil] at sy
          have SY := Box.mk sy
          clear sy hne
          go_wp2_with (go_at_call 28; ((with_reducible refine (CN.out _).mono ?_); rintro e w' ⟨rfl, rfl⟩))
          go_ret2
          rw [SY.out]
          exact ⟨_, rfl, by rw [← RL0.out]; exact hO.out, hB.out⟩
        · have hgo : b = true → q = nx := fun h => Classical.byContradiction fun e => hstop ⟨h, e⟩
          rw [sayL_go _ hgo, ← LN.out, ← NX2.out] at sy
          have SY : Box (sayL false 1 (logs rd X) = ((R ++ (scanN D q).1) ++ (sayL true nx2 (logs rd (X.drop (j + 1)))).1, (sayL true nx2 (logs rd (X.drop (j + 1)))).2)) := ⟨by rw [List.append_assoc]; exact sy⟩
          clear sy hstop
          have arms : ∀ (Z : Prop), Z → Z := fun _ h => h
          cases b with
          | true =>
            obtain rfl := hgo rfl
            have d3 : ((q : Int) != (q : Int)) = false := by simp
            clear hgo arms
            go_wp2_with (first
              | (go_at_call 28; ((with_reducible refine (CN.out _).mono ?_); rintro e w' ⟨rfl, rfl⟩))
              | (go_at_call 29; ((with_reducible refine (SCX.out _).mono ?_); rintro e w4 ⟨v4, x4, rfl, r4, b4⟩; obtain ⟨p4, c4, rfl⟩ := own_len r4; have O4 := Box.mk (row_keep hO.out (fun k e => b4.block k (hO.out.lt k e).2)); have R4 := Box.mk r4; have Z4 := Box.mk b4.size; have B4 := Box.mk (hB.out.trans (b4.mono hB.out.size)); clear r4 b4 SCX))
              | (at_builtin; refine wpList_append_all w.heap.size wr.heap.size (Nat.le_trans hB.out.size Z4.out) rfl (.tmp 45) (.tmp 46) 22 9 1 16 _ i0 rfl Tryz.underlying22 hi hz0 hz1 hz2 rfl (by omega) (by omega) _ rl0 _ rfl O4.out _ ln _ rfl R4.out (by unfold strs; intro u hu; obtain ⟨_, _, rfl⟩ := List.mem_map.1 hu; rfl) ol ?_; intro v5 w5 hown5 hgrow; obtain ⟨p5, c5, rfl⟩ := own_len hown5; have O5 := Box.mk hown5; have B5 := Box.mk (B4.out.grown hgrow B4.out.size (fun k hk => (O4.out.lt k hk).1)); clear hown5 hgrow))
            go_roundw
            case rel => exact ⟨j + 1, nx2, true, R ++ (scanN D q).1, rl0 + ln, by omega, by go_num, rfl, rfl, by omega, ⟨by rw [List.length_append, RL0.out, LN.out]⟩, SY, ⟨by unfold strs; rw [List.map_append]; exact O5.out⟩, B5, _, _, _, rfl⟩
            case measure => simp [intOf]; omega
          | false =>
            have d3 : ((q : Int) != (q : Int)) = false := by simp
            clear hgo arms
            go_wp2_with (first
              | (go_at_call 28; ((with_reducible refine (CN.out _).mono ?_); rintro e w' ⟨rfl, rfl⟩))
              | (go_at_call 29; ((with_reducible refine (SCX.out _).mono ?_); rintro e w4 ⟨v4, x4, rfl, r4, b4⟩; obtain ⟨p4, c4, rfl⟩ := own_len r4; have O4 := Box.mk (row_keep hO.out (fun k e => b4.block k (hO.out.lt k e).2)); have R4 := Box.mk r4; have Z4 := Box.mk b4.size; have B4 := Box.mk (hB.out.trans (b4.mono hB.out.size)); clear r4 b4 SCX))
              | (at_builtin; refine wpList_append_all w.heap.size wr.heap.size (Nat.le_trans hB.out.size Z4.out) rfl (.tmp 45) (.tmp 46) 22 9 1 16 _ i0 rfl Tryz.underlying22 hi hz0 hz1 hz2 rfl (by omega) (by omega) _ rl0 _ rfl O4.out _ ln _ rfl R4.out (by unfold strs; intro u hu; obtain ⟨_, _, rfl⟩ := List.mem_map.1 hu; rfl) ol ?_; intro v5 w5 hown5 hgrow; obtain ⟨p5, c5, rfl⟩ := own_len hown5; have O5 := Box.mk hown5; have B5 := Box.mk (B4.out.grown hgrow B4.out.size (fun k hk => (O4.out.lt k hk).1)); clear hown5 hgrow))
            go_roundw
            case rel => exact ⟨j + 1, nx2, true, R ++ (scanN D q).1, rl0 + ln, by omega, by go_num, rfl, rfl, by omega, ⟨by rw [List.length_append, RL0.out, LN.out]⟩, SY, ⟨by unfold strs; rw [List.map_append]; exact O5.out⟩, B5, _, _, _, rfl⟩
            case measure => simp [intOf]; omega
    · obtain rfl : j = n := by omega
      have sy := hSY.out
      rw [List.drop_eq_nil_of_le (by rw [← HN.out]; exact Nat.le_refl _), show logs rd [] = [] from rfl, sayL_nil, List.append_nil] at sy
      have SY := Box.mk sy
      clear sy hSY
      go_wp2
      go_ret2
      rw [SY.out]
      exact ⟨_, rfl, by rw [← RL0.out]; exact hO.out, hB.out⟩
end Go.Proofs.YtdffpbfllekcgaaGreatDoor
