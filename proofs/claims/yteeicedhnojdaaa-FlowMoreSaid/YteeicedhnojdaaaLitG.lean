/- Contracts of litmus: Events. -/
import Derived.Test.YteeicedhnojdaaaLitF
namespace Go.Proofs.Yteeicedhnojdaaa
set_option maxRecDepth 100000
open Go.RowKit

/-- an instruction that lies at a place of a block -/
structure InsAt (W : World) (b o : Nat) (x : Ins) : Prop where
  c0 : W.cell? ⟨b, o, none⟩ = some (.int .i64 x.op)
  c1 : W.cell? ⟨b, o + 1, none⟩ = some (.int .i64 x.rd)
  c2 : W.cell? ⟨b, o + 2, none⟩ = some (.int .i64 x.loc)
  c3 : W.cell? ⟨b, o + 3, none⟩ = some (.bool x.ar)
  c4 : W.cell? ⟨b, o + 4, none⟩ = some (.int .u64 x.an)
  c5 : W.cell? ⟨b, o + 5, none⟩ = some (.bool x.br)
  c6 : W.cell? ⟨b, o + 6, none⟩ = some (.int .u64 x.bn)
  c7 : W.cell? ⟨b, o + 7, none⟩ = some (.bool x.acq)
  c8 : W.cell? ⟨b, o + 8, none⟩ = some (.bool x.rel)
  c9 : W.cell? ⟨b, o + 9, none⟩ = some (.int .i64 x.dep)
  c10 : W.cell? ⟨b, o + 10, none⟩ = some (.int .i64 x.pred)
  c11 : W.cell? ⟨b, o + 11, none⟩ = some (.int .i64 x.succ)
  c12 : W.cell? ⟨b, o + 12, none⟩ = some (.int .i64 x.skip)
theorem SlIn.ins {w : World} {b off j : Nat} {l : List Ins} {x : Ins} (hc : ∀ i u, (l.flatMap insC)[i]? = some u → w.cell? ⟨b, off + i, none⟩ = some u) (hx : l[j]? = some x) : InsAt w b (off + j * 13) x := by
  have f := fun m hm => flatAt insC 13 (fun _ => rfl) l j m x hx hm
  exact ⟨hc _ _ (f 0 (by decide)), by rw [Nat.add_assoc]; exact hc _ _ (f 1 (by decide)), by rw [Nat.add_assoc]; exact hc _ _ (f 2 (by decide)), by rw [Nat.add_assoc]; exact hc _ _ (f 3 (by decide)), by rw [Nat.add_assoc]; exact hc _ _ (f 4 (by decide)), by rw [Nat.add_assoc]; exact hc _ _ (f 5 (by decide)), by rw [Nat.add_assoc]; exact hc _ _ (f 6 (by decide)), by rw [Nat.add_assoc]; exact hc _ _ (f 7 (by decide)), by rw [Nat.add_assoc]; exact hc _ _ (f 8 (by decide)), by rw [Nat.add_assoc]; exact hc _ _ (f 9 (by decide)), by rw [Nat.add_assoc]; exact hc _ _ (f 10 (by decide)), by rw [Nat.add_assoc]; exact hc _ _ (f 11 (by decide)), by rw [Nat.add_assoc]; exact hc _ _ (f 12 (by decide))⟩
theorem InsAt.below {w w' : World} {b o : Nat} {x : Ins} (h : InsAt w b o x) (hb : Below w.heap.size w w') : InsAt w' b o x :=
  ⟨cBel h.c0 hb, cBel h.c1 hb, cBel h.c2 hb, cBel h.c3 hb, cBel h.c4 hb, cBel h.c5 hb, cBel h.c6 hb, cBel h.c7 hb, cBel h.c8 hb, cBel h.c9 hb, cBel h.c10 hb, cBel h.c11 hb, cBel h.c12 hb⟩

set_option maxHeartbeats 6400000 in
theorem events_any (b : Nat) (t : TestM) (hk : TestOk t) (w : World) (h : TestAt w b t) :
    Calls Try.prog 41 #[.pointer (some ⟨b, 0, none⟩)] w fun e w' => e = .returned (.int .i64 (evM t.thr : Nat)) ∧ Below w.heap.size w w' := by
  obtain ⟨lv, tv, av, h0, h1, h2, ⟨_, ⟨vs, hvl, hth, hins⟩, _⟩⟩ := h.test
  obtain ⟨tp, tc, rfl⟩ := hth.slice
  have hn := hk.thr
  have HI := Bx.mk hins; have HT := Bx.mk hth; have HV := Bx.mk hvl; have HK := Bx.mk hk
  clear h hins h0 h2 hvl hth hk
  go_enter Try.func41, Try.ntmps41
  go_wp2_with fail
  go_loopw [3, 14] (fun s i wr => ∃ k : Nat, i = .int .i64 (k : Int) ∧ k ≤ t.thr.length ∧ s = .int .i64 ((evM (t.thr.take k) : Nat) : Int) ∧ Bx (Below w.heap.size w wr)) (fun _ i _ => t.thr.length - (intOf i).toNat)
  case atStart => exact ⟨0, rfl, by omega, rfl, ⟨Below.refl _ _⟩⟩
  case round =>
    obtain ⟨k, rfl, hkn, rfl, hb⟩ := hrel
    by_cases hlt : k < t.thr.length
    · obtain ⟨bb, off, c, hv, hbl, hcl⟩ := HT.out.at (by omega)
      obtain ⟨rfl, _, rfl⟩ := Value.slice.inj hv
      obtain ⟨v, hvk⟩ : ∃ v, vs[k]? = some v := ⟨_, List.getElem?_eq_getElem (by rw [HV.out]; exact hlt)⟩
      obtain ⟨l, hlk, hsl⟩ := HI.out k v hvk
      obtain ⟨p2, c2, rfl⟩ := hsl.slice
      have hc0 : wr.cell? ⟨bb, off + k, none⟩ = some (.slice p2 l.length c2) := by rw [hb.out.cell hbl]; exact hcl k _ hvk
      have hll := HK.out.ins l (List.mem_of_getElem? hlk)
      have hev := evM_take hlk
      have hle := evM_le 1000000 (t.thr.take k) (fun x hx => HK.out.ins x (List.mem_of_mem_take hx))
      have hl2 : (t.thr.take k).length ≤ k := by simp; omega
      have hmul : 2 * 1000000 * (t.thr.take k).length ≤ 2 * 1000000 * 1000000 := Nat.mul_le_mul_left _ (by omega)
      obtain ⟨E, hE⟩ : ∃ E, E = evM (t.thr.take k) := ⟨_, rfl⟩
      rw [← hE] at hev hle ⊢
      have hE2 : E ≤ 2000000000000 := by omega
      have HEV := Bx.mk hev; have HSL := Bx.mk hsl
      clear hv hcl hvk hlk hev hle hl2 hmul hE hsl
      go_wp2
      go_loopw [3, 20] (fun s i wr => ∃ j : Nat, i = .int .i64 (j : Int) ∧ j ≤ l.length ∧ s = .int .i64 ((E + evL (l.take j) : Nat) : Int) ∧ Bx (Below w.heap.size w wr)) (fun _ i _ => l.length - (intOf i).toNat)
      case atStart => exact ⟨0, rfl, by omega, by simp [evL], hb⟩
      case round =>
        obtain ⟨j, rfl, hjn, rfl, hq⟩ := hrel
        by_cases hjl : j < l.length
        · obtain ⟨bi, oi, ci, hvi, hbi, hci⟩ := HSL.out.at (by omega)
          obtain ⟨rfl, _, rfl⟩ := Value.slice.inj hvi
          obtain ⟨x, hx⟩ : ∃ x, l[j]? = some x := ⟨_, List.getElem?_eq_getElem hjl⟩
          have hia := SlIn.ins hci hx
          have hev := evL_take hx
          have hle := evL_le (l.take j)
          have hl2 : (l.take j).length ≤ j := by simp; omega
          obtain ⟨F, hF⟩ : ∃ F, F = E + evL (l.take j) := ⟨_, rfl⟩
          have hev2 : E + evL (l.take (j + 1)) = F + evI x := by omega
          rw [← hF]
          have hF2 : F ≤ 3000000000000 := by omega
          have co : ∀ W, Calls Try.prog 46 #[insV x] W fun e w' => e = .returned (.agg #[.bool (krd x.op), .bool (kwr x.op)]) ∧ Below W.heap.size W w' := fun W => of_any x W
          rw [insV_eq] at co
          unfold evI at hev2
          have hbw : bi < wr.heap.size := Nat.lt_of_lt_of_le hbi hq.out.size
          obtain ⟨q0, q1, q2, q3, q4, q5, q6, q7, q8, q9, q10, q11, q12⟩ : InsAt wr bi (oi + j * 13) x := ⟨(hq.out.cell hbi).trans hia.c0, (hq.out.cell hbi).trans hia.c1, (hq.out.cell hbi).trans hia.c2, (hq.out.cell hbi).trans hia.c3, (hq.out.cell hbi).trans hia.c4, (hq.out.cell hbi).trans hia.c5, (hq.out.cell hbi).trans hia.c6, (hq.out.cell hbi).trans hia.c7, (hq.out.cell hbi).trans hia.c8, (hq.out.cell hbi).trans hia.c9, (hq.out.cell hbi).trans hia.c10, (hq.out.cell hbi).trans hia.c11, (hq.out.cell hbi).trans hia.c12⟩
          generalize krd x.op = kr at *
          generalize kwr x.op = kw at *
          have CO := Bx.mk co
          clear co hvi hci hx hia hev hle hl2 hF
          cases kr <;> cases kw
          all_goals
            simp only [Bool.false_eq_true, if_false, if_true, Nat.add_zero, Nat.zero_add] at hev2
            have HEV2 := Bx.mk hev2
            clear hev2
            go_wp2_with (go_at_call 46; ((with_reducible refine (CO.out _).mono ?_); rintro e w1 ⟨rfl, b1⟩; have B1 := Bx.mk ((hq.out.alloc hq.out.size _).trans (b1.mono (by have := hq.out.size; simp; omega))); clear b1))
            go_roundw
            case rel => exact ⟨j + 1, by go_num, by omega, by first | (rw [HEV2.out]; done) | (rw [HEV2.out]; go_num), ⟨B1.out.alloc B1.out.size _⟩⟩
            case measure => simp [intOf] <;> omega
        · obtain rfl : j = l.length := by omega
          have he : evM (t.thr.take (k + 1)) = E + evL (l.take l.length) := by rw [HEV.out, List.take_length]
          have HE := Bx.mk he
          clear he
          go_wp2
          go_roundw
          case rel => exact ⟨k + 1, by go_num, by omega, by rw [HE.out], hq⟩
          case measure => simp [intOf] <;> omega
    · obtain rfl : k = t.thr.length := by omega
      have he : t.thr.take t.thr.length = t.thr := List.take_length
      rw [he]
      clear he
      go_wp2
      go_ret
      exact ⟨rfl, hb.out⟩
end Go.Proofs.Yteeicedhnojdaaa
