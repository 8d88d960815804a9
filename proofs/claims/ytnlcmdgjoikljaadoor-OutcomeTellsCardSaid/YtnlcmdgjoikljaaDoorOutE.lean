/- Contracts of outcome: Made. -/
import Derived.Test.YtnlcmdgjoikljaaDoorOutD
import Derived.StillTailTactics
namespace Go.Proofs.YtnlcmdgjoikljaaDoor
set_option maxRecDepth 100000
open Go.RowKit

/-- the number of a place -/
def valM (RR : List (List Int)) (L : List Int) (p : Int × Int) : Int := if p.1 = -1 then atM L p.2 else if p.1 < RR.length then atM (RR.getD p.1.toNat []) p.2 else 0
/-- a state with its first k numbers -/
def preSt (n : Int) (l : List Int) (k : Nat) : StM := ⟨n, (List.range 40).map fun i => if i < k then l.getD i 0 else 0, by simp⟩
theorem preSt_get (n : Int) (l : List Int) (k i : Nat) (hi : i < 40) : (preSt n l k).v[i]? = some (if i < k then l.getD i 0 else 0) := by
  simp [preSt, hi]
theorem preSt_set (n : Int) (l : List Int) (k : Nat) (x : Int) (h : l[k]? = some x) (hk : k < 40) : (preSt n l k).v.set k x = (preSt n l (k + 1)).v := by
  apply List.ext_getElem?
  intro i
  by_cases hi : i < 40
  · rw [preSt_get n l (k + 1) i hi]
    by_cases e : i = k
    · subst e
      rw [List.getElem?_set_self (by rw [(preSt n l i).len]; exact hi), if_pos (by omega)]
      simp [List.getD, h]
    · rw [List.getElem?_set_ne (fun h => e h.symm), preSt_get n l k i hi]
      by_cases h1 : i < k
      · rw [if_pos h1, if_pos (by omega)]
      · rw [if_neg h1, if_neg (by omega)]
  · rw [List.getElem?_eq_none (by rw [List.length_set, (preSt n l k).len]; omega), List.getElem?_eq_none (by rw [(preSt n l (k + 1)).len]; omega)]
theorem preSt_cells (n : Int) (l : List Int) (k : Nat) (x : Int) (h : l[k]? = some x) (hk : k < 40) : (stA (preSt n l k)).setIfInBounds (1 + k) (.int .u64 x) = stA (preSt n l (k + 1)) := by
  have e := preSt_set n l k x h hk
  have e2 : stC (preSt n l (k + 1)) = (stC (preSt n l k)).set (1 + k) (.int .u64 x) := by
    show .int .i64 n :: (preSt n l (k + 1)).v.map (Value.int .u64) = (.int .i64 n :: (preSt n l k).v.map (Value.int .u64)).set (1 + k) _
    rw [show 1 + k = k + 1 from Nat.add_comm 1 k, List.set_cons_succ, ← e, List.map_set]
  show (stC (preSt n l k)).toArray.setIfInBounds (1 + k) _ = (stC (preSt n l (k + 1))).toArray
  rw [e2]
  simp
theorem preSt_zero (n : Int) (l : List Int) (k : Nat) (h : l[k]? = some 0) (hk : k < 40) : preSt n l k = preSt n l (k + 1) := by
  unfold preSt
  congr 1
  apply List.map_congr_left
  intro i _
  by_cases e : i = k
  · subst e
    rw [if_neg (by omega), if_pos (by omega)]
    simp [List.getD, h]
  · by_cases h1 : i < k
    · rw [if_pos h1, if_pos (by omega)]
    · rw [if_neg h1, if_neg (by omega)]
def madeM (t : TestM) (RR : List (List Int)) (L : List Int) : StM := preSt ((slotsM t).length : Nat) ((slotsM t).map (valM RR L)) (slotsM t).length
theorem flatAtM {α β : Type} (f : α → List β) (z : Nat) : ∀ (X : List α) (i j : Nat) (x : α), (∀ y ∈ X, (f y).length = z) → X[i]? = some x → j < z → (X.flatMap f)[i * z + j]? = (f x)[j]?
  | [], i, j, x, _, h, _ => by simp at h
  | y :: X, 0, j, x, hf, h, hj => by
    simp at h; subst h
    rw [List.flatMap_cons, Nat.zero_mul, Nat.zero_add, List.getElem?_append_left (by rw [hf y (by simp)]; exact hj)]
  | y :: X, i + 1, j, x, hf, h, hj => by
    rw [List.flatMap_cons, List.getElem?_append_right (by rw [hf y (by simp), Nat.succ_mul]; omega), hf y (by simp), show (i + 1) * z + j - z = i * z + j by rw [Nat.succ_mul]; omega]
    exact flatAtM f z X i j x (fun y hy => hf y (by simp [hy])) (by simpa using h) hj
theorem results_one {P : Program} {fn : Func} {p : Tmp} {ty : TypeId} {tmps : Array Value} {w : World} {a : Addr} {v : Value} (h : fn.results = #[.cell p ty]) (ht : tmps.getD p undef = .pointer (some a)) (hl : (loadVar ty a).run P w = .ok v w) :
    (results fn tmps).run P w = .ok v w := by
  have ht' : tmps[p]?.getD undef = .pointer (some a) := by rw [← Array.getD_eq_getD_getElem?]; exact ht
  simp only [results, h]
  simp [ht', hl, asAddr]
theorem belowCells {B b : Nat} (hb : B ≤ b) : ∀ (vs : List Value) (o : Nat) (w0 w : World), Below B w0 w → Below B w0 (w.setCells b o vs)
  | [], _, _, _, h => h
  | v :: r, o, w0, w, h => by
    rw [World.setCells]
    exact belowCells hb r (o + 1) w0 _ (h.setCell (p := ⟨b, o, none⟩) hb v)
theorem thereZ (W : World) (s : StM) : (W.alloc (.cells #[.int .i64 0, .int .u64 0, .int .u64 0, .int .u64 0, .int .u64 0, .int .u64 0, .int .u64 0, .int .u64 0, .int .u64 0, .int .u64 0, .int .u64 0, .int .u64 0, .int .u64 0, .int .u64 0, .int .u64 0, .int .u64 0, .int .u64 0, .int .u64 0, .int .u64 0, .int .u64 0, .int .u64 0, .int .u64 0, .int .u64 0, .int .u64 0, .int .u64 0, .int .u64 0, .int .u64 0, .int .u64 0, .int .u64 0, .int .u64 0, .int .u64 0, .int .u64 0, .int .u64 0, .int .u64 0, .int .u64 0, .int .u64 0, .int .u64 0, .int .u64 0, .int .u64 0, .int .u64 0, .int .u64 0] 44)).there W.heap.size 0 (stA s).size := by
  have := thereNew W #[.int .i64 0, .int .u64 0, .int .u64 0, .int .u64 0, .int .u64 0, .int .u64 0, .int .u64 0, .int .u64 0, .int .u64 0, .int .u64 0, .int .u64 0, .int .u64 0, .int .u64 0, .int .u64 0, .int .u64 0, .int .u64 0, .int .u64 0, .int .u64 0, .int .u64 0, .int .u64 0, .int .u64 0, .int .u64 0, .int .u64 0, .int .u64 0, .int .u64 0, .int .u64 0, .int .u64 0, .int .u64 0, .int .u64 0, .int .u64 0, .int .u64 0, .int .u64 0, .int .u64 0, .int .u64 0, .int .u64 0, .int .u64 0, .int .u64 0, .int .u64 0, .int .u64 0, .int .u64 0, .int .u64 0] 44
  have e2 : (stA s).size = 41 := by simp [stC_len (stOk s)]
  rw [e2]; exact this
theorem allocZ (W : World) (s : StM) : (W.alloc (.cells #[.int .i64 0, .int .u64 0, .int .u64 0, .int .u64 0, .int .u64 0, .int .u64 0, .int .u64 0, .int .u64 0, .int .u64 0, .int .u64 0, .int .u64 0, .int .u64 0, .int .u64 0, .int .u64 0, .int .u64 0, .int .u64 0, .int .u64 0, .int .u64 0, .int .u64 0, .int .u64 0, .int .u64 0, .int .u64 0, .int .u64 0, .int .u64 0, .int .u64 0, .int .u64 0, .int .u64 0, .int .u64 0, .int .u64 0, .int .u64 0, .int .u64 0, .int .u64 0, .int .u64 0, .int .u64 0, .int .u64 0, .int .u64 0, .int .u64 0, .int .u64 0, .int .u64 0, .int .u64 0, .int .u64 0] 44)).setCells W.heap.size 0 (stA s).toList = W.alloc (.cells (stA s) 44) := by
  have := allocSet W 44 #[.int .i64 0, .int .u64 0, .int .u64 0, .int .u64 0, .int .u64 0, .int .u64 0, .int .u64 0, .int .u64 0, .int .u64 0, .int .u64 0, .int .u64 0, .int .u64 0, .int .u64 0, .int .u64 0, .int .u64 0, .int .u64 0, .int .u64 0, .int .u64 0, .int .u64 0, .int .u64 0, .int .u64 0, .int .u64 0, .int .u64 0, .int .u64 0, .int .u64 0, .int .u64 0, .int .u64 0, .int .u64 0, .int .u64 0, .int .u64 0, .int .u64 0, .int .u64 0, .int .u64 0, .int .u64 0, .int .u64 0, .int .u64 0, .int .u64 0, .int .u64 0, .int .u64 0, .int .u64 0, .int .u64 0] (stC s) (by rw [stC_len (stOk s)]; rfl)
  simpa using this
set_option maxHeartbeats 6400000 in
theorem made_any (b : Nat) (t : TestM) (hk : TestOk t) (h40 : (slotsM t).length ≤ 40) (rv : Value) (RR : List (List Int)) (L : List Int) (hL : L.length = 8) (hRR : ∀ l ∈ RR, l.length = 8) (hRn : RR.length ≤ 1000000) (hp : ∀ p ∈ slotsM t, -1 ≤ p.1)
    (w : World) (h : TestAt w b t) (hr : SlIn w rv 8 RR.length (RR.flatMap fun l => l.map (Value.int .u64))) :
    Calls Tryd.prog 9 #[.pointer (some ⟨b, 0, none⟩), rv, .agg (L.map (Value.int .u64)).toArray] w fun e w' => e = .returned (.agg (stA (madeM t RR L))) ∧ Below w.heap.size w w' := by
  obtain ⟨rp, rc, rfl⟩ := hr.slice
  have cs := fun W h => slots_any b t hk W h
  have CS := Bx.mk cs; have HA := Bx.mk h; have HR := Bx.mk hr
  clear cs h hr
  generalize hLA : (L.map (Value.int .u64)).toArray = LA at *
  go_enter Tryd.func9, Tryd.ntmps9
  have hbA : Below w.heap.size w ((w.alloc (.cells LA 41)).alloc (.cells #[.int .i64 0, .int .u64 0, .int .u64 0, .int .u64 0, .int .u64 0, .int .u64 0, .int .u64 0, .int .u64 0, .int .u64 0, .int .u64 0, .int .u64 0, .int .u64 0, .int .u64 0, .int .u64 0, .int .u64 0, .int .u64 0, .int .u64 0, .int .u64 0, .int .u64 0, .int .u64 0, .int .u64 0, .int .u64 0, .int .u64 0, .int .u64 0, .int .u64 0, .int .u64 0, .int .u64 0, .int .u64 0, .int .u64 0, .int .u64 0, .int .u64 0, .int .u64 0, .int .u64 0, .int .u64 0, .int .u64 0, .int .u64 0, .int .u64 0, .int .u64 0, .int .u64 0, .int .u64 0, .int .u64 0] 44)) := (aset _ _).alloc (by simp) _
  have hLc : ∀ j x, L[j]? = some x → ((w.alloc (.cells LA 41)).alloc (.cells #[.int .i64 0, .int .u64 0, .int .u64 0, .int .u64 0, .int .u64 0, .int .u64 0, .int .u64 0, .int .u64 0, .int .u64 0, .int .u64 0, .int .u64 0, .int .u64 0, .int .u64 0, .int .u64 0, .int .u64 0, .int .u64 0, .int .u64 0, .int .u64 0, .int .u64 0, .int .u64 0, .int .u64 0, .int .u64 0, .int .u64 0, .int .u64 0, .int .u64 0, .int .u64 0, .int .u64 0, .int .u64 0, .int .u64 0, .int .u64 0, .int .u64 0, .int .u64 0, .int .u64 0, .int .u64 0, .int .u64 0, .int .u64 0, .int .u64 0, .int .u64 0, .int .u64 0, .int .u64 0, .int .u64 0] 44)).cell? ⟨w.heap.size, 0 + j, none⟩ = some (.int .u64 x) := fun j x hx => by
    refine cBel ?_ (aset _ _)
    rw [cOf (heap_alloc_new _ _), Nat.zero_add, ← hLA]
    simp [hx]
  have HBA := Bx.mk hbA; have HLC := Bx.mk hLc
  clear hbA hLc hLA
  have hmin : min ((slotsM t).length : Int) 40 = ((slotsM t).length : Int) := by omega
  obtain ⟨S0, hS0⟩ : ∃ S0, S0 = preSt ((slotsM t).length : Nat) ((slotsM t).map (valM RR L)) 0 := ⟨_, rfl⟩
  have I2 := Bx.mk (info_sa S0)
  have O1 := Bx.mk (all_oneCell_toArray (stC_one S0))
  have ev : (Value.agg #[.int .i64 ((slotsM t).length : Int), .int .u64 0, .int .u64 0, .int .u64 0, .int .u64 0, .int .u64 0, .int .u64 0, .int .u64 0, .int .u64 0, .int .u64 0, .int .u64 0, .int .u64 0, .int .u64 0, .int .u64 0, .int .u64 0, .int .u64 0, .int .u64 0, .int .u64 0, .int .u64 0, .int .u64 0, .int .u64 0, .int .u64 0, .int .u64 0, .int .u64 0, .int .u64 0, .int .u64 0, .int .u64 0, .int .u64 0, .int .u64 0, .int .u64 0, .int .u64 0, .int .u64 0, .int .u64 0, .int .u64 0, .int .u64 0, .int .u64 0, .int .u64 0, .int .u64 0, .int .u64 0, .int .u64 0, .int .u64 0]) = .agg (stA S0) := by rw [hS0]; rfl
  have EV := Bx.mk ev
  have HS0 := Bx.mk hS0
  clear ev hS0
  go_upto_region 3 with (first
    | (go_at_call 11; ((with_reducible refine (CS.out _ (HA.out.below HBA.out)).mono ?_); rintro e w2 ⟨u, rfl, hu, hb2⟩; obtain ⟨up, uc, rfl⟩ := rowSlice hu; have HU := Bx.mk hu; have B2 := Bx.mk hb2; clear hu hb2))
    | ((with_reducible refine at_store 44 (.tmp 8) (.tmp 16) ?_); refine wpList_store_mid rfl 44 (.tmp 8) (.tmp 16) (by rfl) w2.heap.size 0 (stA S0) (by rfl) (by rw [← EV.out]; rfl) (thereZ w2 S0) I2.out O1.out ?_; rw [allocZ w2 S0]))
  have hW0 := stA_at (heap_alloc_new w2 (.cells (stA S0) 44))
  have e0 : (w2.alloc (.cells (stA S0) 44)).cell? ⟨w2.heap.size, 0, none⟩ = some (.int .i64 ((slotsM t).length : Nat)) := by
    rw [hW0.1, HS0.out]; rfl
  have hrs := rowSlIn HU.out
  have hcap : (slotsM t).length ≤ uc := by obtain ⟨_, _, _, e, h⟩ := hrs.2; obtain ⟨_, h2, h3⟩ := Value.slice.inj e; omega
  have X0 : Bx ((w2.alloc (.cells (stA S0) 44)).heap[w2.heap.size]? = some (.cells (stA (preSt ((slotsM t).length : Nat) ((slotsM t).map (valM RR L)) 0)) 44)) := ⟨by rw [← HS0.out]; exact heap_alloc_new _ _⟩
  have HRS := Bx.mk hrs.1
  obtain ⟨N, hN⟩ : ∃ N, N = (slotsM t).length := ⟨_, rfl⟩
  have HP := Bx.mk hp
  rw [← hN] at e0 hcap X0 HRS HU h40 hmin EV HS0 ⊢
  have HN := Bx.mk hN
  obtain ⟨vals, hvals⟩ : ∃ vals, vals = (slotsM t).map (valM RR L) := ⟨_, rfl⟩
  rw [← hvals] at X0
  have HV := Bx.mk hvals
  clear hW0 hrs hN hvals hmin EV HS0 hp
  go_wp2_with fail
  go_loopw [22] (fun i wr => ∃ k : Nat, i = .int .i64 (k : Int) ∧ k ≤ N ∧ Bx (wr.heap[w2.heap.size]? = some (.cells (stA (preSt (N : Nat) vals k)) 44)) ∧ Bx (Below w2.heap.size w2 wr)) (fun i _ => N - (intOf i).toNat)
  case atStart => exact ⟨0, rfl, by omega, X0, ⟨aset _ _⟩⟩
  case round =>
    obtain ⟨k, rfl, hk2, hX, hb⟩ := hrel
    by_cases hlt : k < N
    · obtain ⟨sb, so, sc, hsv, hsl, hsc⟩ := HRS.out.at (by omega)
      obtain ⟨rfl, _, rfl⟩ := Value.slice.inj hsv
      obtain ⟨pp, hpp⟩ : ∃ pp, (slotsM t)[k]? = some pp := ⟨_, List.getElem?_eq_getElem (by rw [← HN.out]; exact hlt)⟩
      have f0 := flatAt slC 2 (fun _ => rfl) (slotsM t) k 0 pp hpp (by decide)
      have f1 := flatAt slC 2 (fun _ => rfl) (slotsM t) k 1 pp hpp (by decide)
      have q0 : wr.cell? ⟨sb, so + k * 2, none⟩ = some (.int .i64 pp.1) := (hb.out.cell hsl).trans (hsc _ _ f0)
      have q1 : wr.cell? ⟨sb, so + k * 2 + 1, none⟩ = some (.int .i64 pp.2) := by
        rw [Nat.add_assoc]; exact (hb.out.cell hsl).trans (hsc _ _ f1)
      have hpn := HP.out pp (List.mem_of_getElem? hpp)
      have hval : vals[k]? = some (valM RR L pp) := by rw [HV.out, List.getElem?_map, hpp]; rfl
      obtain ⟨pa, pd⟩ := pp
      simp only at q0 q1 hpn
      obtain ⟨vv, hvv⟩ : ∃ vv, vv = valM RR L (pa, pd) := ⟨_, rfl⟩
      rw [← hvv] at hval
      have h8 : w2.heap.size < wr.heap.size := by
        rcases Nat.lt_or_ge w2.heap.size wr.heap.size with e | e
        · exact e
        · have := hX.out; rw [Array.getElem?_eq_none e] at this; cases this
      have hk40 : k < 40 := by omega
      have hki : (k : Int) < 40 := by omega
      have hk0 : (0 : Int) ≤ (k : Int) := by omega
      have HVAL := Bx.mk hval
      clear hpp f0 f1 hsc hsv hval hk2
      by_cases hm1 : pa = -1
      · subst hm1
        have hve : vv = atM L pd := by rw [hvv]; simp [valM]
        have HAT : Bx (∀ W, Below w2.heap.size w2 W → Calls Tryd.prog 27 #[.slice (some ⟨w.heap.size, 0, none⟩) 8 8, .int .i64 pd] W (fun e w' => e = .returned (.int .u64 vv) ∧ w' = W)) := ⟨fun W hW => by
          rw [hve]
          exact (at_any L w.heap.size 0 8 8 pd hL W (fun j x hx => cBel (cBel (HLC.out j x hx) B2.out) hW)).mono fun e w' ⟨h1, h2⟩ => ⟨h1, h2.symm⟩⟩
        clear hvv hve hpn
        go_wp2_with fail
        have hb1 : Below w2.heap.size w2 (wr.alloc (.cells #[.int .i64 (-1), .int .i64 pd] 54)) := hb.out.alloc hb.out.size _
        have X1 : (wr.alloc (.cells #[.int .i64 (-1), .int .i64 pd] 54)).heap[w2.heap.size]? = some (.cells (stA (preSt (N : Nat) vals k)) 44) := ((aset wr _).block _ h8).trans hX.out
        have l1 : (wr.alloc (.cells #[.int .i64 (-1), .int .i64 pd] 54)).cell? ⟨wr.heap.size, 1, none⟩ = some (.int .i64 pd) := by rw [cOf (heap_alloc_new _ _)]; rfl
        generalize wr.alloc (.cells #[.int .i64 (-1), .int .i64 pd] 54) = Wq at *
        have z1 := (stA_at X1).2 k _ (preSt_get _ _ _ _ hk40)
        have zf := tOf X1 (1 + k)
        have hat := HAT.out Wq.drew hb1.drew
        have HB1 := Bx.mk hb1; have HX1 := Bx.mk X1
        clear hb1 X1
        go_still_tail 7, (by kernel_rfl)
        still_call hat
        repeat still_step
        refine wpStill_nil ?_
        change wpList _ _ _ _ _ Wq.drew
        go_wp2_with fail
        go_roundw
        case rel => exact ⟨k + 1, by go_num, by omega, ⟨by rw [← preSt_cells _ _ _ _ HVAL.out hk40]; exact heapSet HX1.out (1 + k) _⟩, ⟨(HB1.out.setCell (p := ⟨w2.heap.size, 1 + k, none⟩) (Nat.le_refl _) _).drew⟩⟩
        case measure => simp [intOf] <;> omega
      obtain ⟨th, rfl⟩ := Int.eq_ofNat_of_zero_le (by omega : 0 ≤ pa)
      have hq : (((th : Nat) : Int) == -1) = false := by rw [beq_eq_false_iff_ne]; omega
      have hva : valM RR L ((th : Int), pd) = if (th : Int) < RR.length then atM (RR.getD (th : Int).toNat []) pd else 0 := by
        unfold valM; rw [if_neg (by show ¬ ((th : Int) = -1); omega)]
      by_cases hth : th < RR.length
      · obtain ⟨rb, ro, rc', hrv, hrl, hrc⟩ := HR.out.at (by omega)
        obtain ⟨rfl, _, rfl⟩ := Value.slice.inj hrv
        obtain ⟨l, hl⟩ : ∃ l, RR[th]? = some l := ⟨_, List.getElem?_eq_getElem hth⟩
        have hl8 := hRR l (List.mem_of_getElem? hl)
        have hve : vv = atM l pd := by
          rw [hvv, hva, if_pos (by omega)]
          simp [List.getD, hl]
        have HAT : Bx (∀ W, Below w2.heap.size w2 W → Calls Tryd.prog 27 #[.slice (some ⟨rb, ro + th * 8, none⟩) 8 8, .int .i64 pd] W (fun e w' => e = .returned (.int .u64 vv) ∧ w' = W)) := ⟨fun W hW => by
          rw [hve]
          refine (at_any l rb (ro + th * 8) 8 8 pd hl8 W (fun j x hx => ?_)).mono fun e w' ⟨h1, h2⟩ => ⟨h1, h2.symm⟩
          have hj : j < 8 := by rw [← hl8]; exact (List.getElem?_eq_some_iff.1 hx).1
          have h1 := flatAtM (fun l : List Int => l.map (Value.int .u64)) 8 RR th j l (fun y hy => by rw [List.length_map]; exact hRR y hy) hl hj
          have h2 : (RR.flatMap fun l => l.map (Value.int .u64))[th * 8 + j]? = some (.int .u64 x) := by rw [h1, List.getElem?_map, hx]; rfl
          rw [Nat.add_assoc]
          exact cBel (cBel (cBel (hrc _ _ h2) HBA.out) B2.out) hW⟩
        have hth1 : (th : Int) < (RR.length : Int) := by omega
        clear hvv hve hpn hva hrc hrv hl hm1
        go_wp2_with fail
        have hb1 : Below w2.heap.size w2 (wr.alloc (.cells #[.int .i64 (th : Int), .int .i64 pd] 54)) := hb.out.alloc hb.out.size _
        have X1 : (wr.alloc (.cells #[.int .i64 (th : Int), .int .i64 pd] 54)).heap[w2.heap.size]? = some (.cells (stA (preSt (N : Nat) vals k)) 44) := ((aset wr _).block _ h8).trans hX.out
        have l0 : (wr.alloc (.cells #[.int .i64 (th : Int), .int .i64 pd] 54)).cell? ⟨wr.heap.size, 0, none⟩ = some (.int .i64 (th : Int)) := by rw [cOf (heap_alloc_new _ _)]; rfl
        have l1 : (wr.alloc (.cells #[.int .i64 (th : Int), .int .i64 pd] 54)).cell? ⟨wr.heap.size, 1, none⟩ = some (.int .i64 pd) := by rw [cOf (heap_alloc_new _ _)]; rfl
        generalize wr.alloc (.cells #[.int .i64 (th : Int), .int .i64 pd] 54) = Wq at *
        have z1 := (stA_at X1).2 k _ (preSt_get _ _ _ _ hk40)
        have zf := tOf X1 (1 + k)
        have hat := HAT.out Wq.drew hb1.drew
        have HB1 := Bx.mk hb1; have HX1 := Bx.mk X1
        clear hb1 X1
        go_still_tail 11, (by kernel_rfl)
        still_call hat
        repeat still_step
        refine wpStill_nil ?_
        change wpList _ _ _ _ _ Wq.drew
        go_wp2_with fail
        go_roundw
        case rel => exact ⟨k + 1, by go_num, by omega, ⟨by rw [← preSt_cells _ _ _ _ HVAL.out hk40]; exact heapSet HX1.out (1 + k) _⟩, ⟨(HB1.out.setCell (p := ⟨w2.heap.size, 1 + k, none⟩) (Nat.le_refl _) _).drew⟩⟩
        case measure => simp [intOf] <;> omega
      · have hve : vv = 0 := by rw [hvv, hva, if_neg (by omega)]
        have hv0 := HVAL.out
        rw [hve] at hv0
        have hpz := preSt_zero (N : Nat) vals k hv0 hk40
        have HPZ := Bx.mk hpz
        have hth2 : (RR.length : Int) ≤ (th : Int) := by omega
        clear hvv hve hpn hva hv0 hpz hm1
        go_wp2_with fail
        go_roundw
        case rel => exact ⟨k + 1, by go_num, by omega, ⟨by rw [← HPZ.out]; exact ((aset wr _).block _ h8).trans hX.out⟩, ⟨hb.out.alloc hb.out.size _⟩⟩
        case measure => simp [intOf] <;> omega
    · obtain rfl : k = N := by omega
      have h8 : w2.heap.size < wr.heap.size := by
        rcases Nat.lt_or_ge w2.heap.size wr.heap.size with e | e
        · exact e
        · have := hX.out; rw [Array.getElem?_eq_none e] at this; cases this
      obtain ⟨S9, hS9⟩ : ∃ S9, S9 = preSt (k : Nat) vals k := ⟨_, rfl⟩
      rw [← hS9] at hX
      have R9 : Bx (wr.rangeAt w2.heap.size 0 (stC S9)) := ⟨fun j v hv => by
        rw [cOf hX.out, Nat.zero_add]
        simpa using hv⟩
      have I9 := Bx.mk (info_sz S9); have J9 := Bx.mk (info_sa S9); have O9 := Bx.mk (all_oneCell_toArray (stC_one S9))
      have H1 : Bx (wr.there (w.heap.size + 1) 0 (stA S9).size) := ⟨by
        have hz := thereZ (w.alloc (.cells LA 41)) S9
        have hs1 : (w.alloc (.cells LA 41)).heap.size = w.heap.size + 1 := by simp
        rw [hs1] at hz
        exact fun j hj => by
          obtain ⟨a1, a2⟩ := hz j hj
          obtain ⟨v1, hv1⟩ := Option.isSome_iff_exists.1 a1
          have hlt1 := World.block_lt_of_cell? _ _ hv1
          have hlt2 : w.heap.size + 1 < w2.heap.size := Nat.lt_of_lt_of_le hlt1 B2.out.size
          have e1 : wr.heap[w.heap.size + 1]? = _ := (hb.out.block _ hlt2).trans (B2.out.block _ hlt1)
          exact ⟨by rw [keepC e1 hv1]; rfl, keepF e1 a2⟩⟩
      have hu := Tryd.underlying44
      have HS9 := Bx.mk hS9
      clear hS9 hk2 hlt
      go_wp2_with (first
        | ((with_reducible refine at_load 44 (.tmp 8) ?_); refine wpList_load_mid rfl 44 (.tmp 8) (by rfl) w2.heap.size 0 (by rfl) (stC S9) _ R9.out hu rfl I9.out ?_)
        | ((with_reducible refine at_store 44 (.tmp 6) (.tmp 56) ?_); refine wpList_store_mid rfl 44 (.tmp 6) (.tmp 56) (by rfl) (w.heap.size + 1) 0 (stA S9) (by rfl) (by rfl) H1.out J9.out O9.out ?_))
      have hld := run_loadVar_mid (P := Tryd.prog) (wr.setCells (w.heap.size + 1) 0 (stC S9)) (w.heap.size + 1) 0 44 (stC S9) _ (World.rangeAt_setCells_same wr (w.heap.size + 1) 0 (stC S9) (by simpa using H1.out)) hu rfl I9.out
      have e9 : madeM t RR L = S9 := by
        rw [HS9.out, HV.out]
        show preSt ((slotsM t).length : Nat) _ (slotsM t).length = _
        rw [← HN.out]
      rw [e9]
      refine bodyPost_ret (v := .agg (stA S9)) (results_one rfl rfl hld) rfl ⟨rfl, ?_⟩
      exact belowCells (by omega) _ _ _ _ (bel (bel HBA.out B2.out) hb.out)
end Go.Proofs.YtnlcmdgjoikljaaDoor
