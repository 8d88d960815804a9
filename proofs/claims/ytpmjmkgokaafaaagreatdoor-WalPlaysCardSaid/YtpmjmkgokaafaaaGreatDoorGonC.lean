/- WalRetired: records that are retired don't come back. -/
import Derived.Test.YtpmjmkgokaafaaaGreatDoorGonB
namespace Go.Proofs.YtpmjmkgokaafaaaGreatDoor
set_option maxRecDepth 100000
open Go.ChangeShapes Go.WideShapes Go.RowKit M

theorem RW.vals {S : DS} {base : List Seg} {n : Nat} (h : RW S base n) {p : Nat} (hp : p ≤ S.chg.length) : ((foldP S p).map (·.2)).Nodup := by
  obtain ⟨q, i, ex, v, _, _, _, ok⟩ := h.views p hp
  have e : ((ents (base.drop i ++ ex)).map (·.2)) = (base.drop i ++ ex).map (·.f) := by unfold ents; rw [List.map_map]; rfl
  rw [(v.map (·.2)).nodup_iff, e]
  exact ext_fs (h.fs.sublist ((List.drop_sublist i base).map _)) ok
/-- a disk behind Retire -/
def GoneD (S : DS) (X : List (List Nat)) (T : Nat) (c : Int) : Prop := ∃ base, RW S base 1000 ∧ Sz S (7 * T) (8000 * T) ∧ (recs base = X ∨ recs base = []) ∧ (c = 0 → recs base = [])
theorem GoneD.restart {S : DS} {X : List (List Nat)} {T : Nat} {c : Int} (h : GoneD S X T c) (hT : T ≤ 700) (ch : List Int) :
    RestOk S ch ∧ ∃ q base ext m, m ≤ X.length ∧ recs base = X.drop m ∧ (c = 0 → m = X.length) ∧ Wk (restartI S ch) q base ext 1000 0 ∧ Sz (restartI S ch) (7 * T) (8000 * T) := by
  obtain ⟨base, rw, z, hr, h0⟩ := h
  obtain ⟨q, i, ext, wk⟩ := rw.restart ch
  have z' := z.restart ch (rw.vals (pickN_le ch 0 S.chg.length))
  refine ⟨z.restOk (by omega) ch, q, base.drop i, ext, ?_⟩
  obtain ⟨m, m1, m2, m3⟩ := recs_end base i
  rcases hr with e | e
  · refine ⟨m, by rw [← e]; exact m1, by rw [m2, e], fun hc => ?_, wk, z'⟩
    have e0 := h0 hc
    rw [e0] at e m1
    rw [← e]; exact Nat.le_zero.1 m1
  · refine ⟨X.length, Nat.le_refl _, ?_, fun _ => rfl, wk, z'⟩
    rw [m2, e, List.drop_nil, List.drop_length]
/-- Retire of a log whose records are safe -/
theorem retire_ready {S : DS} {L : LS} {X : List (List Nat)} {t : Nat} (h : DL S L X t X.length) (hd : S.dead = false) (hf : S.fail = -1) (ht : t ≤ 300) :
    ∃ c S', (c = 0 ∨ c = 9) ∧ GoneD S' X (2 * t + 1) c ∧ ∀ (lb b : Nat) (F D : Nat → Prop) (W : World), HasL W lb b F D S L → LibW W → Calls Tryz.prog 10 #[.pointer (some ⟨lb, 0, none⟩)] W (RetP lb b F D (c, S') W) := by
  obtain ⟨⟨base, ext, st, e⟩, z, f⟩ := h
  have wk : Wk S 1 base ext 1000 (recs base).length := by rw [e]; exact st.toWk
  obtain ⟨base', b1, b2, b3, b4⟩ := retS_spec wk.inv.chain wk.inv.bound wk.rw wk.now.ok wk.now.names wk.now.last hd hf
  have len : (base ++ ext).length ≤ 7 * t := by rw [wk_len wk]; obtain ⟨C, zz⟩ := z; exact zz.names
  have zr := (retS_sz (base ++ ext) z).up (k' := 7 * (2 * t + 1)) (c' := 8000 * (2 * t + 1)) (by omega) (by omega)
  refine ⟨(retS (base ++ ext) S).1, (retS (base ++ ext) S).2, b3, ⟨base', b2, zr, ?_, fun hc => by rw [b4 hc]; rfl⟩, fun lb b F D W hl hL => ?_⟩
  · rcases b1 with e1 | e1
    · left; rw [e1]; exact e
    · right; rw [e1]; rfl
  · exact retire_any lb b F D S L (base ++ ext) W (7 * t) (8000 * t) hl z (by omega) (by omega) hd wk.now.names (ext_rise wk.inv.chain wk.now.ok) (fun g hg => Nat.le_trans (ext_small wk.inv.chain wk.inv.bound wk.now.ok g hg) wk.inv.n1) hL
theorem crash_def {w0 w : World} {lb b : Nat} {F D : Nat → Prop} {S : DS} {L : LS} {X : List (List Nat)} {t s : Nat} (h : Run w0 w lb b F D S L X t s) (n : Int) (hn : n ≤ 9223372036854775807) :
    Calls Tryz.prog 14 #[.pointer (some ⟨b, 0, none⟩), .int .i64 n] w fun e w' => e = .returned (.tuple #[]) ∧ Run w0 w' lb b F D { S with crash := max n (-1) } L X t s ∧ KeepF F w w' :=
  (crash_f b F S n w h.log.disk).mono fun _ _ ⟨he, hf, hk⟩ => ⟨he, ⟨h.log.keep hf (fun _ hf => hf) hk, h.st.crash hn, h.old, h.lbB, h.bel.trans (hk.below h.bel.size h.old)⟩, hk⟩
/-- Open behind Retire -/
def OpenG (r : Nat) (xs : List Value) (w : World) (e : Ending) (w' : World) : Prop :=
  ∃ lb p c, e = .returned (.tuple #[.pointer (some ⟨lb, 0, none⟩), .slice p r c, .int .i64 0]) ∧ w'.ownsRow w.heap.size 9 1 (.slice p r c) r xs ∧ Below w.heap.size w w'
theorem open_g {w : World} {b : Nat} {F : Nat → Prop} {S : DS} {q T r : Nat} {base ext : List Seg} {X : List (List Nat)} (h : HasF w b F S) (hd : S.dead = false) (wk : Wk S q base ext 1000 0) (hz : Sz S (7 * T) (8000 * T)) (hT : T ≤ 700) (hr : recs base = X) (hl : X.length = r) (limit : Int) (hL : LibW w) (hH : Halves w) :
    Calls Tryz.prog 6 #[.pointer (some ⟨b, 0, none⟩), .int .i64 limit] w (OpenG r (strs X) w) := by
  refine (open_any b F S limit w _ _ q 1000 0 base ext h hd wk hz (by omega) (by omega) (by omega) hL hH).mono fun e w' ⟨lb, v, he, _, _, _, row, hb⟩ => ?_
  rw [wk_recs wk, hr] at row
  obtain ⟨p, cp, rfl⟩ := own_len row
  rw [hl] at he row
  exact ⟨lb, p, cp, he, row, hb⟩

set_option maxHeartbeats 400000 in
theorem same_off (p1 : Option Addr) (g m n n2 k1 k2 B1 : Nat) (L : List Value) (hn2 : n = n2) (hn : n ≤ 1000000) (hL : ∀ j, j < n → ∃ s, L[j]? = some (.string s)) (w : World) (o1 : w.ownsRow B1 9 1 (.slice p1 n k1) n L) (o2 : ∀ j, j < n → w.cell? ⟨g, m + j, none⟩ = L[j]?) (hg : g < w.heap.size) :
    Calls Tryz.prog 33 #[.slice p1 n k1, .slice (some ⟨g, m, none⟩) n2 k2] w fun e w' => e = .returned (.int .i64 0) ∧ Below w.heap.size w w' := by
  subst hn2
  have O1 := Box.mk o1; have O2 := Box.mk o2; have HL := Box.mk hL
  clear o1 o2 hL
  go_enter Tryz.func33, Tryz.ntmps33
  go_wp2_with fail
  go_loopw [5, 13] (fun _ i wr => ∃ k : Nat, k ≤ n ∧ i = .int .i64 (k : Int) ∧ Box (wr.ownsRow B1 9 1 (.slice p1 n k1) n L) ∧ Box (Below w.heap.size w wr))
    (fun _ i _ => n - (intOf i).toNat)
  case atStart => exact ⟨0, by omega, rfl, O1, ⟨Below.refl _ _⟩⟩
  case round =>
    obtain ⟨k, hk, rfl, h1, hb⟩ := hrel
    by_cases hlt : k < n
    · obtain ⟨g1, cap1, hv1⟩ := h1.out.form (by omega)
      obtain ⟨rfl, _, rfl⟩ := Value.slice.inj hv1.1
      have hc1 := h1.out.cellAt k (by omega)
      have hc2 := (hb.out.cell (p := ⟨g, m + k, none⟩) hg).trans (O2.out k hlt)
      obtain ⟨S, hS⟩ := HL.out k hlt
      rw [hS] at hc1 hc2
      clear hv1 hS O1 O2
      go_wp2_with fail
      go_quiet (fail)
      go_wp2_with fail
      go_roundw
      case rel => exact ⟨k + 1, by omega, by go_num, ⟨wown_drewN h1.out _⟩, ⟨wbdr hb.out _⟩⟩
      case measure => simp [intOf]; omega
    · obtain rfl : k = n := by omega
      go_wp2
      go_ret
      exact ⟨rfl, hb.out⟩
theorem Mine.ownStr2 {w0 w : World} {lb : Nat} {F D : Nat → Prop} {v : Value} {xs : List Value} {n : Nat} (h : Mine w0 w lb F D v xs) (hn : xs.length = n) : OwnStr w (fun k => F k ∧ k ≠ lb) w0.heap.size v n xs := by
  subst hn
  exact ⟨h.row, fun k e => ⟨(h.own k e).1, (h.own k e).2.1⟩⟩
theorem strs_drop (X : List (List Nat)) (m j : Nat) : (strs X)[m + j]? = (strs (X.drop m))[j]? := by
  unfold strs
  rw [List.getElem?_map, List.getElem?_map, List.getElem?_drop]

end Go.Proofs.YtpmjmkgokaafaaaGreatDoor
