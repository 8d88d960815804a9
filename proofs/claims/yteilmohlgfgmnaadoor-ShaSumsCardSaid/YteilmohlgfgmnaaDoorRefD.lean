/- The reference of layer 3: primes. -/
import Derived.Test.YteilmohlgfgmnaaDoorRefC
namespace Go.Proofs.YteilmohlgfgmnaaDoor
set_option maxRecDepth 100000
open Go.RowKit

def u64s (l : List Nat) : List Value := l.map fun (q : Nat) => Value.int .u64 (q : Int)
theorem u64s_get {l : List Nat} {k q : Nat} (h : l[k]? = some q) : (u64s l)[k]? = some (.int .u64 (q : Int)) := by unfold u64s; rw [List.getElem?_map, h]; rfl
theorem u64s_len (l : List Nat) : (u64s l).length = l.length := by simp [u64s]
theorem info_u64 : (Tryd.prog.info? 30).map (fun i => (i.zero, i.size, i.bytes)) = some (some (.int .u64 0), 1, 8) := by kernel_rfl
/-- no prime of those found divides p -/
def freeM (p : Nat) (l : List Nat) : Bool := l.all fun q => decide (p % q ≠ 0)
theorem freeM_take (p : Nat) (l : List Nat) (k q : Nat) (h : l[k]? = some q) : freeM p (l.take (k + 1)) = (freeM p (l.take k) && decide (p % q ≠ 0)) := by
  obtain ⟨hk, e⟩ := List.getElem?_eq_some_iff.1 h
  unfold freeM
  rw [List.take_add_one, h, List.all_append]
  simp
theorem pgo_more {n f p : Nat} {out : List Nat} (h : out.length < n) : M.primesGo n (f + 1) p out = M.primesGo n f (p + 1) (if freeM p out = true then out ++ [p] else out) := by
  rw [M.primesGo, if_pos h]; rfl
theorem pgo_end {n f p : Nat} {out : List Nat} (h : ¬ out.length < n) : M.primesGo n f p out = out := by
  cases f with
  | zero => rfl
  | succ f => rw [M.primesGo, if_neg h]
set_option maxHeartbeats 6400000 in
theorem primes_any (n : Nat) (hn : n ≤ 1000) (w : World) :
    Calls Tryd.prog 22 #[.int .i64 (n : Int)] w fun e w' => (∃ g cap, e = .returned (.slice (some ⟨g, 0, none⟩) (M.primesM n).length cap) ∧ w'.ownsRow w.heap.size 30 1 (.slice (some ⟨g, 0, none⟩) (M.primesM n).length cap) (M.primesM n).length (u64s (M.primesM n))) ∧ Below w.heap.size w w' := by
  obtain ⟨i0, hi, hz0, hz1, hz2⟩ := info_parts info_u64
  go_enter Tryd.func22, Tryd.ntmps22
  go_wp2_with fail
  go_loopw [3, 4] (fun r pv wr => ∃ (f p : Nat) (out : List Nat) (g cap : Nat), pv = .int .u64 (p : Int) ∧ p + f = 400 ∧ 2 ≤ p ∧ out.length ≤ p ∧ r = .slice (some ⟨g, 0, none⟩) out.length cap ∧ Bx (wr.ownsRow w.heap.size 30 1 (.slice (some ⟨g, 0, none⟩) out.length cap) out.length (u64s out)) ∧ Bx (M.primesM n = M.primesGo n f p out) ∧ Bx (∀ q ∈ out, 2 ≤ q ∧ q < 400) ∧ Bx (Below w.heap.size w wr)) (fun _ pv _ => 400 - (intOf pv).toNat)
  case atStart => exact ⟨398, 2, [], w.heap.size, 0, rfl, by omega, by omega, by simp, rfl, ⟨World.ownsRow_lit w #[] 0 (Nat.le_refl _) (by unfold maxLen; omega) (by rfl)⟩, ⟨rfl⟩, ⟨by simp⟩, ⟨asetR _ _⟩⟩
  case round =>
    obtain ⟨f, p, out, g, cap, rfl, hpf, hp2, hop, rfl, hO, hM, hS, hb⟩ := hrel
    obtain ⟨wo, rfl⟩ : ∃ wo : World, wo = wr := ⟨_, rfl⟩
    obtain ⟨N, hN⟩ : ∃ N, N = out.length := ⟨_, rfl⟩
    rw [← hN] at hO hop
    rw [← hN]
    by_cases hp : p < 400
    · have hpi : (p : Int) < 400 := by omega
      by_cases hl : N < n
      · have hli : (N : Int) < (n : Int) := by omega
        obtain ⟨f2, rfl⟩ : ∃ f2, f = f2 + 1 := ⟨f - 1, by omega⟩
        have HM := Bx.mk (hM.out.trans (pgo_more (by rw [← hN]; exact hl)))
        have HN := Bx.mk hN
        clear hN hM
        go_wp2_with fail
        go_loopw [5, 21] (fun fl kx wr => ∃ k : Nat, kx = .int .i64 (k : Int) ∧ k ≤ N ∧ fl = .bool (freeM p (out.take k)) ∧ wo = wr) (fun _ kx _ => N - (intOf kx).toNat)
        case atStart => exact ⟨0, rfl, by omega, by rw [List.take_zero]; rfl, rfl⟩
        case round =>
          obtain ⟨k, rfl, hk, rfl, rfl⟩ := hrel
          by_cases hkN : k < N
          · have hki : (k : Int) < (N : Int) := by omega
            obtain ⟨q, hq⟩ : ∃ q, out[k]? = some q := ⟨_, List.getElem?_eq_getElem (by rw [← HN.out]; exact hkN)⟩
            obtain ⟨hq2, hq4⟩ := hS.out q (List.mem_of_getElem? hq)
            have q0 : wo.cell? ⟨g, k, none⟩ = some (.int .u64 (q : Int)) := by rw [hO.out.cellAt k (by omega), u64s_get hq]
            have hft := freeM_take p out k q hq
            obtain ⟨m, hm⟩ : ∃ m, m = p % q := ⟨_, rfl⟩
            rw [← hm] at hft
            have hmi : (p : Int) % (q : Int) = (m : Int) := by rw [hm]; exact (Int.natCast_emod p q).symm
            have hmt : (p : Int).tmod (q : Int) = (m : Int) := by rw [Int.tmod_eq_emod_of_nonneg (by omega)]; exact hmi
            have hml : m < 400 := by have := Nat.mod_lt p (show 0 < q by omega); omega
            have HFT := Bx.mk hft
            clear hft hm hq
            by_cases hm0 : m = 0
            · subst hm0
              go_wp2_with fail
              go_roundw
              case rel => exact ⟨k + 1, by go_num, by omega, by rw [HFT.out]; simp, trivial⟩
              case measure => simp [intOf] <;> omega
            · have hme : ((m : Int) == 0) = false := by rw [beq_eq_false_iff_ne]; omega
              go_wp2_with fail
              go_roundw
              case rel => exact ⟨k + 1, by go_num, by omega, by rw [HFT.out]; simp [hm0], trivial⟩
              case measure => simp [intOf] <;> omega
          · obtain rfl : k = N := by omega
            have HT : Bx (out.take k = out) := ⟨by rw [HN.out, List.take_length]⟩
            rw [HT.out]
            cases hf : freeM p out
            · have HG : Bx (M.primesM n = M.primesGo n f2 (p + 1) out) := ⟨by rw [HM.out, hf]; rfl⟩
              clear hf
              go_wp2_with fail
              go_roundw
              case rel => exact ⟨f2, p + 1, out, g, cap, by go_num, by omega, by omega, by rw [← HN.out]; omega, by rw [← HN.out], by rw [← HN.out]; exact hO, HG, hS, hb⟩
              case measure => simp [intOf] <;> omega
            · have HG : Bx (M.primesM n = M.primesGo n f2 (p + 1) (out ++ [p])) := ⟨by rw [HM.out, hf]; rfl⟩
              have HSZ : w.heap.size ≤ wo.heap.size := hb.out.size
              have HS2 : Bx (∀ q ∈ out ++ [p], 2 ≤ q ∧ q < 400) := ⟨fun q hq => by
                rcases List.mem_append.1 hq with h | h
                · exact hS.out q h
                · obtain rfl : q = p := by simpa using h
                  exact ⟨hp2, hp⟩⟩
              clear hf
              go_wp2_with (at_builtin; refine wpList_append_lies _ rfl (.tmp 31) (.tmp 33) 61 rfl w.heap.size 30 i0 _ 1 8 Tryd.underlying61 hi hz0 hz1 hz2 rfl (by omega) _ k (u64s out) rfl (hO.out.alloc _) ⟨wo.heap.size, 0, none⟩ 1 1 [.int .u64 (p : Int)] rfl rfl (World.news_of_block (cs := #[.int .u64 (p : Int)]) (t := 30) (fr := (0, 0)) (heap_alloc_new _ _)) (by simp [Value.oneCell']) (by omega) (by unfold maxLen; omega) (by omega) (by simp; omega) (wo.heap.size + 1) (by simp) ?_; intro g2 cap2 w4 hown3 hgrow hat hlt3; have B4 : Bx (Below w.heap.size w w4) := ⟨(hb.out.alloc (by omega) _).grown hgrow (by simp; omega) (fun k hk => (rowLt hO.out k hk).1)⟩; have PU := Bx.mk hown3; clear hown3 hgrow hat hlt3)
              go_roundw
              case rel => exact ⟨f2, p + 1, out ++ [p], g2, cap2, by go_num, by omega, by omega, by rw [List.length_append, ← HN.out]; show k + 1 ≤ _; omega, by rw [List.length_append, ← HN.out]; rfl, by rw [List.length_append, ← HN.out]; exact ⟨by simpa [u64s] using PU.out⟩, HG, HS2, B4⟩
              case measure => simp [intOf] <;> omega
      · have hli : ¬ (N : Int) < (n : Int) := by omega
        have HG : Bx (M.primesM n = out) := ⟨hM.out.trans (pgo_end (by rw [← hN]; exact hl))⟩
        go_wp2_with fail
        go_ret
        rw [HG.out, ← hN]
        exact ⟨⟨g, cap, rfl, hO.out⟩, hb.out⟩
    · have hpi : ¬ (p : Int) < 400 := by omega
      have HG : Bx (M.primesM n = out) := ⟨by rw [hM.out, show f = 0 by omega]; rfl⟩
      go_wp2_with fail
      go_ret
      rw [HG.out, ← hN]
      exact ⟨⟨g, cap, rfl, hO.out⟩, hb.out⟩
end Go.Proofs.YteilmohlgfgmnaaDoor
