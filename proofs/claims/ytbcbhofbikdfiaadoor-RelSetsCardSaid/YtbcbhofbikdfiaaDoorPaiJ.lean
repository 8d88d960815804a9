/- Grow: pairs as a relation and as a list. -/
import Derived.Test.YtbcbhofbikdfiaaDoorPaiI
namespace Go.Proofs.YtbcbhofbikdfiaaDoor
set_option maxRecDepth 100000
open Go.RowKit M

/-- pairs of any numbers in a slice -/
def priC (p : Int × Int) : List Value := [.int .i64 p.1, .int .i64 p.2]
def QIn (w : World) (v : Value) (l : List (Int × Int)) : Prop := SlIn w v 2 l.length (l.flatMap priC)
theorem QIn.below {w w' : World} {v : Value} {l : List (Int × Int)} (h : QIn w v l) (hb : Below w.heap.size w w') : QIn w' v l := SlIn.below h hb
theorem QIn.at {w : World} {v : Value} {l : List (Int × Int)} (h : QIn w v l) {k : Nat} {p : Int × Int} (hk : l[k]? = some p) : ∃ b off c, v = .slice (some ⟨b, off, none⟩) l.length c ∧ b < w.heap.size ∧ w.cell? ⟨b, off + k * 2, none⟩ = some (.int .i64 p.1) ∧ w.cell? ⟨b, off + k * 2 + 1, none⟩ = some (.int .i64 p.2) := by
  have hkl := (List.getElem?_eq_some_iff.1 hk).1
  obtain ⟨b, off, c, hv, hbl, hcl⟩ := SlIn.at h (by omega)
  refine ⟨b, off, c, hv, hbl, ?_, ?_⟩
  · exact hcl _ _ (flatAt priC 2 (fun _ => rfl) l k 0 p hk (by decide))
  · rw [Nat.add_assoc]; exact hcl _ _ (flatAt priC 2 (fun _ => rfl) l k 1 p hk (by decide))
def modN (a : Int) : Nat := (a % 16).toNat
theorem modN_lt (a : Int) : modN a < 16 := by unfold modN; omega
theorem tmod_rng (a : Int) : -16 < a.tmod 16 ∧ a.tmod 16 < 16 ∧ (a.tmod 16 = a % 16 ∨ a.tmod 16 = a % 16 - 16) := by
  rcases Int.le_total 0 a with h | h
  · rw [Int.tmod_eq_emod_of_nonneg h]; omega
  · obtain ⟨b, rfl⟩ : ∃ b, a = -b := ⟨-a, by omega⟩
    rw [Int.neg_tmod, Int.tmod_eq_emod_of_nonneg (by omega)]
    omega
theorem modN_eq (a : Int) : IntKind.i64.wrap (a.tmod 16 + 16) = a.tmod 16 + 16 ∧ (a.tmod 16 + 16).tmod 16 = ((modN a : Nat) : Int) := by
  obtain ⟨h1, h2, h3⟩ := tmod_rng a
  refine ⟨i64_in (by omega) (by omega), ?_⟩
  rw [Int.tmod_eq_emod_of_nonneg (by omega)]
  unfold modN
  omega
def growR (l : List (Int × Int)) : List Nat := l.foldl (fun r p => R.withM r (modN p.1) (modN p.2)) R.zeroM
def growX (l : List (Int × Int)) : List (Nat × Nat) := l.foldl (fun x p => withQ x ((modN p.1 : Nat) : Int) ((modN p.2 : Nat) : Int)) []
theorem growR_wf : ∀ (l : List (Int × Int)) (r : List Nat), R.Wf r → R.Wf (l.foldl (fun r (p : Int × Int) => R.withM r (modN p.1) (modN p.2)) r)
  | [], _, h => h
  | _ :: l, _, h => growR_wf l _ (R.with_wf h (modN_lt _) (modN_lt _))
theorem growX_pq : ∀ (l : List (Int × Int)) (x : List (Nat × Nat)), PQ x → PQ (l.foldl (fun x (p : Int × Int) => withQ x ((modN p.1 : Nat) : Int) ((modN p.2 : Nat) : Int)) x)
  | [], _, h => h
  | _ :: l, _, h => growX_pq l _ (h.with _ _)
theorem results_mix {P : Program} {fn : Func} {p q : Tmp} {ty : TypeId} {tmps : Array Value} {w : World} {a : Addr} {v u : Value} (h : fn.results = #[.cell p ty, .tmp q]) (ht : tmps.getD p undef = .pointer (some a)) (hq : tmps.getD q undef = u) (hl : (loadVar ty a).run P w = .ok v w) :
    (results fn tmps).run P w = .ok (.tuple #[v, u]) w := by
  have ht' : tmps[p]?.getD undef = .pointer (some a) := by rw [← Array.getD_eq_getD_getElem?]; exact ht
  have hq' : tmps[q]?.getD undef = u := by rw [← Array.getD_eq_getD_getElem?]; exact hq
  simp only [results, h]
  simp [ht', hq', hl, asAddr]

theorem below_drewN' {B : Nat} {w0 w : World} (h : Below B w0 w) (n : Nat) : Below B w0 (w.drewN n) := ⟨h.os, h.tape, h.output, h.size, h.block⟩
theorem thereG {w : World} {b : Nat} {r u : List Nat} (h : RB w b r) (hr : R.Wf r) (hu : R.Wf u) : w.there b 0 (w16 u).toArray.size := by rw [List.size_toArray, w16_length, hu.len]; exact h.there hr
theorem PIn.keep {w w' : World} {v : Value} {l : List (Nat × Nat)} (h : PIn w v l) (hk : ∀ k, v.ownBlock = some k → w'.heap[k]? = w.heap[k]?) : PIn w' v l := SlIn.keep (by decide) h (fun k _ hv _ => hk k hv)
set_option maxRecDepth 100000 in
set_option maxHeartbeats 4000000 in
theorem grow_any (l : List (Int × Int)) (v : Value) (w : World) (h : QIn w v l) (hcap : l.length ≤ 9223372036854775807) :
    Calls Tryd.prog 7 #[v] w fun e w' => ∃ x, e = .returned (.tuple #[.agg (w16 (growR (l.take 24))).toArray, x]) ∧ PIn w' x (growX (l.take 24)) ∧ Below w.heap.size w w' := by
  obtain ⟨p0, c0, rfl⟩ := SlIn.slice h
  obtain ⟨ln, hln⟩ : ∃ ln, ln = l.length := ⟨_, rfl⟩
  rw [← hln] at h hcap ⊢
  have HB := Box.mk h
  have HLN := Box.mk hln
  clear h hln
  have R2 := Box.mk ((RB.new w R.zeroM).alloc (.cells (w16 R.zeroM).toArray 25))
  have b2 := Box.mk (bel (aset w (.cells (w16 R.zeroM).toArray 25)) (aset _ (.cells (w16 R.zeroM).toArray 25)))
  rw [sum_zero] at R2 b2
  have RN := Box.mk (RB.new (w.alloc (.cells (w16 R.zeroM).toArray 25)) R.zeroM)
  rw [sum_zero, World.size_alloc] at RN
  go_enter Tryd.func7, Tryd.ntmps7
  go_upto_region 2 with (first
    | ((with_reducible refine at_store 25 (.tmp 4) (.tmp 9) ?_); refine wpList_store_mid rfl 25 (.tmp 4) (.tmp 9) (by rfl) (w.heap.size + 1) 0 (w16 R.zeroM).toArray (by rfl) (by rfl) (thereL RN.out R.zero_wf) (infoA R.zero_wf) (all_oneCell_toArray (w16_one _)) ?_))
  have RV := Box.mk (RN.out.all R.zero_wf R.zero_wf)
  have RV2 := Box.mk (RB.others (show w.heap.size ≠ w.heap.size + 1 by omega) (w16 R.zeroM) 0 _ R2.out)
  have BV := Box.mk (bsets (B := w.heap.size) (a := w.heap.size + 1) (by omega) (w16 R.zeroM) _ 0 b2.out)
  generalize ((((w.alloc (.cells #[.int .u16 0, .int .u16 0, .int .u16 0, .int .u16 0, .int .u16 0, .int .u16 0, .int .u16 0, .int .u16 0, .int .u16 0, .int .u16 0, .int .u16 0, .int .u16 0, .int .u16 0, .int .u16 0, .int .u16 0, .int .u16 0] 25)).alloc (.cells #[.int .u16 0, .int .u16 0, .int .u16 0, .int .u16 0, .int .u16 0, .int .u16 0, .int .u16 0, .int .u16 0, .int .u16 0, .int .u16 0, .int .u16 0, .int .u16 0, .int .u16 0, .int .u16 0, .int .u16 0, .int .u16 0] 25))).setCells (w.heap.size + 1) 0 (w16 R.zeroM)) = V at *
  simp only [Act.put]
  clear RN R2 b2
  have ES : Box (PIn (V.alloc (.cells #[] 36)) (.slice (some ⟨V.heap.size, 0, none⟩) 0 0) []) := ⟨rowSlIn (newRow V V.heap.size 36 2 (Nat.le_refl _))⟩
  have R1 := Box.mk (RV.out.alloc (.cells #[] 36))
  have R2 := Box.mk (RV2.out.alloc (.cells #[] 36))
  have BB := Box.mk (bel' BV.out BV.out.size (aset V (.cells #[] 36)))
  have hVs : w.heap.size + 1 + 1 ≤ V.heap.size := by have := RV.out.lt; omega
  have OW0 : Box (∀ k, (Value.slice (some ⟨V.heap.size, 0, none⟩) 0 0).ownBlock = some k → w.heap.size + 1 + 1 ≤ k) := ⟨fun k hk => by
    have e : V.heap.size = k := by simpa [Value.ownBlock] using hk
    omega⟩
  clear RV RV2 BV
  go_wp2_with fail
  generalize (V.alloc (.cells #[] 36)) = W at *
  go_loopw [5, 6] (fun o iv wr => ∃ (i : Nat) (r : List Nat) (X : List (Nat × Nat)), i ≤ ln ∧ i ≤ 24 ∧ iv = .int .i64 (i : Int) ∧ R.Wf r ∧ PQ X ∧ Box (r = growR (l.take i)) ∧ Box (X = growX (l.take i)) ∧ Box (PIn wr o X) ∧ (∀ k, o.ownBlock = some k → w.heap.size + 1 + 1 ≤ k) ∧ Box (RB wr (w.heap.size + 1) r) ∧ Box (RB wr w.heap.size R.zeroM) ∧ Box (Below w.heap.size w wr)) (fun _ iv _ => 24 - (intOf iv).toNat)
  case atStart => exact ⟨0, R.zeroM, [], by omega, by omega, rfl, R.zero_wf, PQ.nil, ⟨rfl⟩, ⟨rfl⟩, ES, OW0.out, R1, R2, BB⟩
  case round =>
    clear ES R1 R2 BB
    obtain ⟨i, r, X, hi, hi24, rfl, hr, hX, HR, HX, ROW, OWN, R1, R2, BB⟩ := hrel
    by_cases hlt : i < ln ∧ i < 24
    · obtain ⟨h1, h2⟩ := hlt
      obtain ⟨⟨x, y⟩, hxy⟩ : ∃ p, l[i]? = some p := ⟨_, List.getElem?_eq_getElem (by rw [← HLN.out]; exact h1)⟩
      obtain ⟨bk, off, cc, hv, hbl, k0, k1⟩ := (HB.out.below BB.out).at hxy
      rw [← HLN.out] at hv
      obtain ⟨rfl, _, rfl⟩ := Value.slice.inj hv
      have l0 := BB.out.size
      have hnr : growR (l.take (i + 1)) = R.withM r (modN x) (modN y) := by rw [HR.out]; exact fold_take _ _ _ hxy
      have hnX : growX (l.take (i + 1)) = withQ X ((modN x : Nat) : Int) ((modN y : Nat) : Int) := by rw [HX.out]; exact fold_take _ _ _ hxy
      have HNR := Box.mk hnr; have HNX := Box.mk hnX
      have lx := modN_lt x
      have ly := modN_lt y
      have C1 := Box.mk (fun w => with_any r hr (modN x) (modN y) lx ly w)
      have WR := Box.mk (R.with_wf hr lx ly)
      have PX := Box.mk (hX.with ((modN x : Nat) : Int) ((modN y : Nat) : Int))
      have C2 := Box.mk (fun (w2 : World) (hp : PIn w2 u5 X) => withR_own X (by have := hX.len; omega) u5 ((modN x : Nat) : Int) ((modN y : Nat) : Int) w2 hp)
      obtain ⟨m1, m2⟩ := modN_eq x
      obtain ⟨m3, m4⟩ := modN_eq y
      have i1 : (i : Int) < (ln : Int) := by omega
      have i2 : (i : Int) < 24 := by omega
      have i3 : (0 : Int) ≤ (i : Int) := by omega
      have IR := Box.mk (infoL hr)
      clear hxy hv hnr hnX
      generalize modN x = a at *
      generalize modN y = b at *
      go_wp2_with fail
      go_quiet (fail)
      have ROWd : Box (PIn (wr.drewN nq) u5 X) := ⟨ROW.out⟩
      have R1d : Box (RB (wr.drewN nq) (w.heap.size + 1) r) := ⟨R1.out⟩
      have R2d : Box (RB (wr.drewN nq) w.heap.size R.zeroM) := ⟨R2.out⟩
      have BBd : Box (Below w.heap.size w (wr.drewN nq)) := ⟨below_drewN' BB.out _⟩
      have OW := Box.mk OWN
      have l2 : w.heap.size ≤ (wr.drewN nq).heap.size := l0
      have HRr := Box.mk hr
      clear ROW R1 R2 BB k0 k1 hbl m1 m2 m3 m4 OWN l0
      generalize wr.drewN nq = Wd at *
      go_wp2_with (first
        | ((with_reducible refine at_load 25 (.tmp 4) ?_); refine wpList_load_mid rfl 25 (.tmp 4) (by rfl) (w.heap.size + 1) 0 (by rfl) (w16 r) _ R1d.out.range undR rfl IR.out ?_)
        | (go_at_call 14; ((with_reducible refine (C1.out _).mono ?_); rintro e w2 ⟨rfl, b2⟩; have P2 := Box.mk (ROWd.out.below b2); have R12 := Box.mk (R1d.out.below b2); have R22 := Box.mk (R2d.out.below b2); have B2 := Box.mk (bel' BBd.out l2 b2); clear b2))
        | ((with_reducible refine at_store 25 (.tmp 4) (.tmp 40) ?_); refine wpList_store_mid rfl 25 (.tmp 4) (.tmp 40) (by rfl) (w.heap.size + 1) 0 (w16 (R.withM r a b)).toArray (by rfl) (by rfl) (thereG R12.out HRr.out WR.out) (infoA WR.out) (all_oneCell_toArray (w16_one _)) ?_
           have P3 : Box (PIn (w2.setCells (w.heap.size + 1) 0 (w16 (R.withM r a b))) u5 X) := ⟨P2.out.keep (fun k hk => heap_sets (by have := OW.out k hk; omega) _ _ _)⟩
           have R13 := Box.mk (R12.out.all HRr.out WR.out)
           have R23 := Box.mk (RB.others (show w.heap.size ≠ w.heap.size + 1 by omega) (w16 (R.withM r a b)) 0 _ R22.out)
           have B3 := Box.mk (bsets (B := w.heap.size) (a := w.heap.size + 1) (by omega) (w16 (R.withM r a b)) _ 0 B2.out)
           have s3 := B3.out.size
           change wpList _ _ _ _ _ (w2.setCells (w.heap.size + 1) 0 (w16 (R.withM r a b)))
           generalize (w2.setCells (w.heap.size + 1) 0 (w16 (R.withM r a b))) = w3 at *)
        | (go_at_call 15; ((with_reducible refine (C2.out _ P3.out).mono ?_); rintro e w4 ⟨v4, rfl, hp4, b4, ho4⟩; have P4 := Box.mk hp4; have R14 := Box.mk (R13.out.below b4); have R24 := Box.mk (R23.out.below b4); have B4 := Box.mk (bel' B3.out s3 b4); have O4 := Box.mk ho4; have l13 := R13.out.lt; clear hp4 b4 ho4)))
      go_roundw
      case rel =>
        exact ⟨i + 1, R.withM r a b, withQ X (a : Int) (b : Int), by omega, by omega, by go_num, WR.out, PX.out, ⟨HNR.out.symm⟩, ⟨HNX.out.symm⟩, P4, (fun k hk => by
          rcases O4.out k hk with h | h
          · exact OW.out k h
          · omega), R14, R24, B4⟩
      case measure => simp [intOf]; omega
    · have hfin : l.take i = l.take 24 := by
        rcases (by omega : i = 24 ∨ i = ln) with h | h
        · rw [h]
        · rw [List.take_of_length_le (by rw [← HLN.out]; omega), List.take_of_length_le (by rw [← HLN.out]; omega)]
      have hfr : growR (l.take 24) = r := by rw [← hfin]; exact HR.out.symm
      have hfx : growX (l.take 24) = X := by rw [← hfin]; exact HX.out.symm
      have HFR := Box.mk hfr; have HFX := Box.mk hfx
      have IR := Box.mk (infoL hr); have HRr := Box.mk hr
      have OW := Box.mk OWN
      clear hfin hfr hfx hr OWN
      have fin : ∀ (V2 : World), Box (RB V2 w.heap.size r) → Box (PIn V2 u5 X) → Box (Below w.heap.size w V2) → True := fun _ _ _ _ => trivial
      clear fin
      by_cases hi1 : i < ln
      · have i1 : (i : Int) < (ln : Int) := by omega
        have i2 : ¬ (i : Int) < 24 := by omega
        clear hlt hi1
        go_wp2_with (first
          | ((with_reducible refine at_load 25 (.tmp 4) ?_); refine wpList_load_mid rfl 25 (.tmp 4) (by rfl) (w.heap.size + 1) 0 (by rfl) (w16 r) _ R1.out.range undR rfl IR.out ?_)
          | ((with_reducible refine at_store 25 (.tmp 2) (.tmp 46) ?_); refine wpList_store_mid rfl 25 (.tmp 2) (.tmp 46) (by rfl) w.heap.size 0 (w16 r).toArray (by rfl) (by rfl) (thereG R2.out R.zero_wf HRr.out) (infoA HRr.out) (all_oneCell_toArray (w16_one _)) ?_))
        have P3 : PIn (wr.setCells w.heap.size 0 (w16 r)) u5 X := ROW.out.keep (fun k hk => heap_sets (by have := OW.out k hk; omega) _ _ _)
        have R3 := R2.out.all R.zero_wf HRr.out
        refine bodyPost_ret (v := .tuple #[.agg (w16 r).toArray, u5]) (results_mix rfl (by rfl) (by rfl) (loadR R3 HRr.out)) rfl ⟨u5, by rw [HFR.out], by rw [HFX.out]; exact P3, bsets (Nat.le_refl _) _ _ _ BB.out⟩
      · have i1 : ¬ (i : Int) < (ln : Int) := by omega
        clear hlt hi1
        go_wp2_with (first
          | ((with_reducible refine at_load 25 (.tmp 4) ?_); refine wpList_load_mid rfl 25 (.tmp 4) (by rfl) (w.heap.size + 1) 0 (by rfl) (w16 r) _ R1.out.range undR rfl IR.out ?_)
          | ((with_reducible refine at_store 25 (.tmp 2) (.tmp 46) ?_); refine wpList_store_mid rfl 25 (.tmp 2) (.tmp 46) (by rfl) w.heap.size 0 (w16 r).toArray (by rfl) (by rfl) (thereG R2.out R.zero_wf HRr.out) (infoA HRr.out) (all_oneCell_toArray (w16_one _)) ?_))
        have P3 : PIn (wr.setCells w.heap.size 0 (w16 r)) u5 X := ROW.out.keep (fun k hk => heap_sets (by have := OW.out k hk; omega) _ _ _)
        have R3 := R2.out.all R.zero_wf HRr.out
        refine bodyPost_ret (v := .tuple #[.agg (w16 r).toArray, u5]) (results_mix rfl (by rfl) (by rfl) (loadR R3 HRr.out)) rfl ⟨u5, by rw [HFR.out], by rw [HFX.out]; exact P3, bsets (Nat.le_refl _) _ _ _ BB.out⟩
end Go.Proofs.YtbcbhofbikdfiaaDoor
