/- FrameC, FrameD, in one text. -/
import Derived.Test.YtdffpbfllekcgaaGreatDoorHv
import Derived.Deep.AppendLies
import Derived.Deep.RegionHeld3
namespace Go.Proofs.YtdffpbfllekcgaaGreatDoor
set_option maxRecDepth 100000
open Go.RowKit M

theorem info_string : (Tryz.prog.info? 9).map (fun i => (i.zero, i.size, i.bytes)) = some (some (.string ⟨#[]⟩), 1, 16) := by kernel_rfl
theorem string_parts : ∃ i, Tryz.prog.info? 9 = some i ∧ i.zero = some (.string ⟨#[]⟩) ∧ i.size = 1 ∧ i.bytes = 16 := by
  have h := info_string
  cases e : Tryz.prog.info? 9 with
  | none => rw [e] at h; cases h
  | some i =>
    rw [e] at h
    simp only [Option.map_some, Option.some.injEq, Prod.mk.injEq] at h
    exact ⟨i, rfl, h.1, h.2.1, h.2.2⟩

theorem rdV_model (T : ByteArray) : rdV T = if rdX (sb T) = 0 then .tuple #[.int .u64 (pQ (sb T) : Nat), .string (bs (pR (sb T))), .int .i64 ((18 + pN (sb T) : Nat) : Int), .int .i64 0] else .tuple #[.int .u64 0, .string ⟨#[]⟩, .int .i64 0, .int .i64 (rdX (sb T) : Nat)] := by
  obtain ⟨h1, h2⟩ := g_model T
  unfold rdV
  rw [h1]
  by_cases h : rdX (sb T) = 0
  · obtain ⟨e1, e2, e3⟩ := h2 h
    rw [if_pos h, if_pos h, e1, e2, e3]
  · rw [if_neg h, if_neg h]

theorem rdX_le (l : List Nat) : rdX l ≤ 12 := by unfold rdX; (repeat' split) <;> omega
theorem pQ_lt {l : List Nat} (h : ∀ d ∈ l, d < 2 ^ 8) (hl : 14 ≤ l.length) : pQ l < 18446744073709551616 := by
  have e := un_lt (l := (l.drop 6).take 8) (fun d hd => h d (List.mem_of_mem_drop (List.mem_of_mem_take hd)))
  have e2 : ((l.drop 6).take 8).length = 8 := by simp; omega
  rw [e2] at e
  exact e

/-- the strings of a list of texts -/
def strs (L : List (List Nat)) : List Value := L.map fun l => .string (bs l)
theorem strs_length (L : List (List Nat)) : (strs L).length = L.length := by simp [strs]

set_option maxHeartbeats 800000 in
theorem scan_any (T : ByteArray) (hT : T.size ≤ 1000000) (q : Nat) (hq : q < 18446744073709551616) (w : World) (hH : Halves w) :
    Calls Tryz.prog 27 #[.string T, .int .u64 q] w fun e w' => ∃ v, e = .returned (.tuple #[v, .int .i64 ((scanN (sb T) q).2 : Nat)]) ∧ w'.ownsRow w.heap.size 9 1 v (scanN (sb T) q).1.length (strs (scanN (sb T) q).1) ∧ Below w.heap.size w w' := by
  obtain ⟨i0, hi, hz0, hz1, hz2⟩ := string_parts
  have HH := Box.mk hH; clear hH
  go_enter Tryz.func27, Tryz.ntmps27
  go_wp2_with fail
  go_loopw [1, 6, 7] (fun s v i wr => ∃ (L : List (List Nat)) (a q' : Nat), s = .int .u64 (q' : Int) ∧ i = .int .i64 (a : Int) ∧ q' < 18446744073709551616 ∧ a ≤ T.size ∧ L.length ≤ a ∧ Box (scanN (sb T) q = (L ++ (scanN ((sb T).drop a) q').1, a + (scanN ((sb T).drop a) q').2)) ∧ Box (wr.ownsRow w.heap.size 9 1 v L.length (strs L)) ∧ Box (Below w.heap.size w wr) ∧ ∃ p l c, v = .slice p l c)
    (fun _ _ i _ => T.size - (intOf i).toNat)
  case atStart => exact ⟨[], 0, q, rfl, rfl, hq, by omega, by simp, ⟨by simp⟩, ⟨World.ownsRow_nil _ _ _ _⟩, ⟨Below.refl _ _⟩, _, _, _, rfl⟩
  case round =>
    obtain ⟨L, a, q', rfl, rfl, hq', ha, hLa, hsc, hown, hb, p, l, c, rfl⟩ := hrel
    have hsz : (T.extract a T.size).size = T.size - a := by simp
    have hsb : sb (T.extract a T.size) = (sb T).drop a := by
      rw [sb_part _ _ _ (Nat.le_refl _)]
      exact List.take_of_length_le (by rw [List.length_drop, sb_length]; omega)
    have cr := fun W h => fread_any (T.extract a T.size) (by omega) W h
    have hV := rdV_model (T.extract a T.size)
    rw [hsb] at hV
    obtain ⟨l0, hl0⟩ : ∃ l0, l0 = (sb T).drop a := ⟨_, rfl⟩
    rw [← hl0] at hV hsc
    have hl0l : l0.length = T.size - a := by rw [hl0, List.length_drop, sb_length]
    have hl0b : ∀ d ∈ l0, d < 2 ^ 8 := fun d hd => sb_lt T d (by rw [hl0] at hd; exact List.mem_of_mem_drop hd)
    by_cases hx : rdX l0 = 0
    · have hz := rdX_zero hx
      have hpq := pQ_lt hl0b (by omega)
      rw [if_pos hx] at hV
      by_cases hqq : pQ l0 = q'
      · have hst := scan_step (l := l0) (q := q') ⟨hx, hqq⟩
        have hdd : l0.drop (18 + pN l0) = (sb T).drop (a + (18 + pN l0)) := by rw [hl0, List.drop_drop]
        rw [hdd] at hst
        obtain ⟨n, hn⟩ : ∃ n, n = 18 + pN l0 := ⟨_, rfl⟩
        obtain ⟨r, hr⟩ : ∃ r, r = pR l0 := ⟨_, rfl⟩
        rw [← hn, ← hr] at hst hV
        rw [hqq] at hV
        have hsc2 := hsc.out
        rw [hst] at hsc2
        have hn2 : 18 ≤ n ∧ a + n ≤ T.size := by omega
        have hrs : (bs r).size ≤ 1000000 := by
          rw [bs_size, hr]
          unfold pR
          rw [List.length_take, List.length_drop]; omega
        obtain ⟨S, hS⟩ : ∃ S, S = bs r := ⟨_, rfl⟩
        rw [← hS] at hV hrs
        have CR := Box.mk cr; have HV := Box.mk hV; have HSC := Box.mk hsc2; have HS := Box.mk hS; have HO := Box.mk hown.out
        have cr2 : ∀ W, Halves W → Calls Tryz.prog 44 #[.string (T.extract a T.size)] W fun e w' => e = .returned (.tuple #[.int .u64 (q' : Int), .string S, .int .i64 (n : Int), .int .i64 0]) ∧ Below W.heap.size W w' := fun W h => by
          have c := CR.out W h
          rw [HV.out] at c; exact c
        have CR2 := Box.mk cr2
        clear cr2 cr hV hsc hsc2 hst hdd hS hr hl0 hl0b hsb CR HV hz hn hx hqq hl0l hpq hown
        go_wp2_with (first
          | (go_at_call 44; ((with_reducible refine (CR2.out _ (halves_below HH.out hb.out)).mono ?_); rintro e w1 ⟨rfl, b1⟩; have B1 := Box.mk (bch hb.out b1); have O1 := Box.mk (own_keep HO.out b1); clear b1))
          | (at_builtin; refine wpList_append_lies _ rfl (.tmp 30) (.tmp 32) 22 rfl w.heap.size 9 i0 _ 1 16 Tryz.underlying22 hi hz0 hz1 hz2 rfl (by omega) _ _ _ rfl (O1.out.alloc _) ⟨w1.heap.size, 0, none⟩ 1 1 [.string S] rfl rfl (World.news_of_block (cs := #[.string S]) (t := 9) (fr := (0, 0)) (heap_alloc_new _ _)) (by simp [Value.oneCell']) (by omega) (by unfold maxLen; omega) (by omega) (by have := B1.out.size; simp; omega) (w1.heap.size + 1) (by simp) ?_; intro g cap w2 hown2 hgrow hat hlt2; have O2 := Box.mk hown2; have B2 : Box (Below w.heap.size w w2) := ⟨(B1.out.alloc B1.out.size _).grown hgrow (by have := B1.out.size; simp; omega) (fun k hk => (O1.out.lt k hk).1)⟩; clear hown2 hgrow hat hlt2))
        go_roundw
        case rel =>
          refine ⟨L ++ [r], a + n, (q' + 1) % 18446744073709551616, ?_, by go_num, Nat.mod_lt _ (by decide), hn2.2, by simp; omega, ⟨?_⟩, ⟨?_⟩, B2, _, _, _, rfl⟩
          · go_num
          · rw [HSC.out]; simp [Nat.add_assoc]
          · have h := O2.out
            rw [HS.out] at h
            simpa [strs] using h
        case measure => simp [intOf]; omega
      · have hst := scan_stop (l := l0) (q := q') (fun h => hqq h.2)
        have hsc2 := hsc.out
        rw [hst] at hsc2
        simp only [List.append_nil, Nat.add_zero] at hsc2
        have e2 : ((pQ l0 : Int) != (q' : Int)) = true := by simp; omega
        obtain ⟨n, hn⟩ : ∃ n, n = 18 + pN l0 := ⟨_, rfl⟩
        rw [← hn] at hV
        generalize pQ l0 = z at *
        generalize bs (pR l0) = S at *
        have CR := Box.mk cr; have HV := Box.mk hV; have HSC := Box.mk hsc2; have HO := Box.mk hown.out
        have cr2 : ∀ W, Halves W → Calls Tryz.prog 44 #[.string (T.extract a T.size)] W fun e w' => e = .returned (.tuple #[.int .u64 (z : Int), .string S, .int .i64 (n : Int), .int .i64 0]) ∧ Below W.heap.size W w' := fun W h => by
          have c := CR.out W h
          rw [HV.out] at c; exact c
        have CR2 := Box.mk cr2
        clear cr2 cr hV hsc hsc2 hst hl0 hl0b hsb CR HV hz hn hx hqq hl0l hown
        go_wp2_with (first
          | (go_at_call 44; ((with_reducible refine (CR2.out _ (halves_below HH.out hb.out)).mono ?_); rintro e w1 ⟨rfl, b1⟩; have B1 := Box.mk (bch hb.out b1); have O1 := Box.mk (own_keep HO.out b1); clear b1)))
        go_ret2
        rw [HSC.out]
        exact ⟨_, rfl, O1.out, B1.out⟩
    · have hst := scan_stop (l := l0) (q := q') (fun h => hx h.1)
      have hsc2 := hsc.out
      rw [hst] at hsc2
      simp only [List.append_nil, Nat.add_zero] at hsc2
      rw [if_neg hx] at hV
      have hxl := rdX_le l0
      generalize rdX l0 = z at *
      have e2 : ((z : Int) != 0) = true := by simp; omega
      have CR := Box.mk cr; have HV := Box.mk hV; have HSC := Box.mk hsc2; have HO := Box.mk hown.out
      have cr2 : ∀ W, Halves W → Calls Tryz.prog 44 #[.string (T.extract a T.size)] W fun e w' => e = .returned (.tuple #[.int .u64 0, .string ⟨#[]⟩, .int .i64 0, .int .i64 (z : Int)]) ∧ Below W.heap.size W w' := fun W h => by
        have c := CR.out W h
        rw [HV.out] at c; exact c
      have CR2 := Box.mk cr2
      clear cr2 cr hV hsc hsc2 hst hl0 hl0b hsb CR HV hx hl0l hown
      go_wp2_with (first
        | (go_at_call 44; ((with_reducible refine (CR2.out _ (halves_below HH.out hb.out)).mono ?_); rintro e w1 ⟨rfl, b1⟩; have B1 := Box.mk (bch hb.out b1); have O1 := Box.mk (own_keep HO.out b1); clear b1)))
      go_ret2
      rw [HSC.out]
      exact ⟨_, rfl, O1.out, B1.out⟩
end Go.Proofs.YtdffpbfllekcgaaGreatDoor
namespace Go.Proofs.YtdffpbfllekcgaaGreatDoor
set_option maxRecDepth 100000
open Go.RowKit M

theorem own_len {w : World} {B e z : Nat} {v : Value} {n : Nat} {xs : List Value} (h : w.ownsRow B e z v n xs) : ∃ p c, v = .slice p n c := by
  rcases h.2 with ⟨h1, h2⟩ | ⟨g, cap, cur, hv, _⟩
  · exact ⟨none, 0, by rw [h1, h2]⟩
  · exact ⟨_, _, hv⟩

def wakeF : List Nat := [79, 74, 0, 0, 0, 1, 0, 0, 0, 0, 0, 0, 0, 1, 247, 2, 86, 87, 97]
theorem wake_frame : frN 1 (sb ⟨#[97]⟩) = wakeF := by decide +kernel
theorem wake_read : rdV (bs wakeF) = .tuple #[.int .u64 1, .string ⟨#[97]⟩, .int .i64 19, .int .i64 0] := by
  have e1 : sb ⟨#[97]⟩ = [97] := by decide
  have e0 : sb (bs wakeF) = frN 1 [97] ++ [] := by
    rw [sb_bs _ (by decide), ← wake_frame, e1, List.append_nil]
  obtain ⟨h1, h2, h3, h4⟩ := rdX_frame (q := 1) (r := [97]) (t := []) (by omega) (by decide)
  rw [rdV_model, e0, if_pos h1, h2, h3, h4]
  rfl

theorem scan_two (q o : Nat) (r1 r2 : List Nat) (hq : q < 18446744073709551616) (ho : o < 18446744073709551616) (h1 : r1.length ≤ 4194304) (h2 : r2.length ≤ 4194304) :
    scanN (frN q r1 ++ frN o r2) q = if o = (q + 1) % 18446744073709551616 then ([r1, r2], 18 + r1.length + (18 + r2.length)) else ([r1], 18 + r1.length) := by
  rw [scan_frame hq h1]
  obtain ⟨e1, e2, e3, e4⟩ := rdX_frame (q := o) (r := r2) (t := []) ho h2
  rw [List.append_nil] at e1 e2 e3 e4
  by_cases h : o = (q + 1) % 18446744073709551616
  · rw [if_pos h, ← h]
    have e := scan_frame (t := []) ho h2
    rw [List.append_nil] at e
    rw [e, scan_stop (l := []) (fun h => by have := h.1; rw [rdX_nil] at this; cases this)]
    rfl
  · rw [if_neg h, scan_stop (fun hh => h (by rw [← e2]; exact hh.2))]
    rfl

end Go.Proofs.YtdffpbfllekcgaaGreatDoor
