/- TabX, TabU, TabY, in one text. -/
import Derived.Test.YtacfdnjdjgdbcaaDoorTi
import Derived.BigQuiet
import Derived.Test.YtacfdnjdjgdbcaaDoorTh
import Derived.Deep.RegionHeld3
namespace Go.Proofs.YtacfdnjdjgdbcaaDoor
set_option maxRecDepth 100000
open Go.RowKit Go.Maps Go.Sort M

/-- what Parse leaves of a table's bytes -/
def ParsG (G : List Ent) (w : World) (e : Ending) (w' : World) : Prop :=
  Below w.heap.size w w' ∧ ∃ tb mo, e = .returned (.tuple #[.pointer (some ⟨tb, 0, none⟩), .int .i64 0]) ∧ Tab w' tb mo G.reverse

end Go.Proofs.YtacfdnjdjgdbcaaDoor
namespace Go.Proofs.YtacfdnjdjgdbcaaDoor
set_option maxRecDepth 100000
open Go.RowKit Go.Maps Go.Sort M

theorem Tab.nodup {w : World} {b : Nat} {mo : Option Nat} {l : List Ent} (h : Tab w b mo l) : (l.map kkE).Nodup := by
  cases mo with
  | none => rw [h.empt rfl]; exact List.nodup_nil
  | some m => exact (h.mapd m rfl).2.nd
theorem nodup_of_kk {l : List Ent} (h : (l.map kkE).Nodup) : l.Nodup := List.Pairwise.imp (fun h e => h (by rw [e])) (List.pairwise_map.1 h)
theorem cBelT {w w' : World} {a : Addr} {v : Value} (h : w.cell? a = some v) (hb : Below w.heap.size w w') : w'.cell? a = some v := (hb.cell (World.block_lt_of_cell? w _ h)).trans h
theorem belT {w W W' : World} (h : Below w.heap.size w W) (hb : Below W.heap.size W W') : Below w.heap.size w W' := h.trans (hb.mono h.size)
/-- each place comes up -/
theorem order_all : ∀ r : Fin 12, ∀ k : Fin 12, ∃ i : Fin 13, (i.val * (1 + r.val)) % 13 = k.val := by decide

theorem order_step {A B : Nat → ByteArray} {l l2 l3 : List Ent} {bl : Bool} {x : Ent} {j c q : Nat} (hu : ∀ a ∈ l, ∀ b ∈ l, kkE a = kkE b → a = b) (hx : x = itE A B ((j * c) % 13)) (hxl : x ∈ l) (hl : l2.length ≤ j)
    (hS : ∀ y ∈ l2, y ∈ l) (hC : ∀ i, i < j → (i * c) % 13 < q → itE A B ((i * c) % 13) ∈ l2)
    (hD : (bl = false ∧ l3 = l2 ∧ ∃ y ∈ l2, y.key = x.key) ∨ (bl = true ∧ l3 = x :: l2 ∧ ∀ y ∈ l2, y.key ≠ x.key)) :
    l3.length ≤ j + 1 ∧ (∀ y ∈ l3, y ∈ l) ∧ ∀ i, i < j + 1 → (i * c) % 13 < q → itE A B ((i * c) % 13) ∈ l3 := by
  have key : x ∈ l3 ∧ l3.length ≤ j + 1 ∧ (∀ y ∈ l3, y ∈ l) ∧ ∀ y ∈ l2, y ∈ l3 := by
    rcases hD with ⟨_, rfl, y, hy, he⟩ | ⟨_, rfl, _⟩
    · have e : y = x := hu y (hS y hy) x hxl (kkE_of he)
      exact ⟨e ▸ hy, by omega, hS, fun _ h => h⟩
    · refine ⟨by simp, by simp; omega, fun y hy => ?_, fun y hy => by simp [hy]⟩
      rcases List.mem_cons.1 hy with e | e
      · rw [e]; exact hxl
      · exact hS y e
  refine ⟨key.2.1, key.2.2.1, fun i hi hq => ?_⟩
  by_cases e : i = j
  · rw [e, ← hx]; exact key.1
  · exact key.2.2.2 _ (hC i (by omega) hq)
theorem order_done {A B : Nat → ByteArray} {l l2 : List Ent} {c q : Nat} (hc : 1 ≤ c ∧ c ≤ 12) (hq : q ≤ 12) (hl : l = itL A B q) (h1 : (l.map kkE).Nodup) (h2 : (l2.map kkE).Nodup)
    (hS : ∀ y ∈ l2, y ∈ l) (hC : ∀ i, i < 13 → (i * c) % 13 < q → itE A B ((i * c) % 13) ∈ l2) : l2.Perm l := by
  rw [List.perm_ext_iff_of_nodup (nodup_of_kk h2) (nodup_of_kk h1)]
  refine fun x => ⟨hS x, fun hx => ?_⟩
  rw [hl] at hx
  unfold itL at hx
  rw [List.mem_reverse, List.mem_map] at hx
  obtain ⟨k, hk, rfl⟩ := hx
  have hk := List.mem_range.1 hk
  obtain ⟨i, hi⟩ := order_all ⟨c - 1, by omega⟩ ⟨k, by omega⟩
  have hi : (i.val * (1 + (c - 1))) % 13 = k := hi
  rw [show 1 + (c - 1) = c by omega] at hi
  have := hC i.val i.isLt (by rw [hi]; exact hk)
  rwa [hi] at this

end Go.Proofs.YtacfdnjdjgdbcaaDoor
namespace Go.Proofs.YtacfdnjdjgdbcaaDoor
set_option maxRecDepth 100000
open Go.RowKit Go.Maps Go.Sort M

set_option maxRecDepth 100000 in
set_option maxHeartbeats 4000000 in
theorem same_any (b : Nat) (mo : Option Nat) (l R : List Ent) (v : Value) (w : World) (h : Tab w b mo l) (hR : RefIn w v R) (hp : R.Perm l) (hr : Rising R) (hl : R.length ≤ 100) :
    Calls Tryd.prog 6 #[.pointer (some ⟨b, 0, none⟩), v] w fun e w' => e = .returned (.int .i64 0) ∧ Below w.heap.size w w' := by
  obtain ⟨vp, vc, rfl⟩ := hR.val
  obtain ⟨n, hn⟩ : ∃ n, n = R.length := ⟨_, rfl⟩
  have hln : l.length = n := by rw [hn]; exact hp.length_eq.symm
  have ca : Calls Tryd.prog 20 #[.pointer (some ⟨b, 0, none⟩)] w fun e w' => ∃ p c, e = .returned (.slice p n c) ∧ EntsIn w' (.slice p n c) R ∧ Below w.heap.size w w' := (all_any b mo l w h (by omega)).mono fun e w' ⟨v, ys, h1, h2, h3, h4, h5, _⟩ => by
    have e1 : ys = R := trising_one (h2.trans hp.symm) h3 hr
    rw [e1] at h4
    obtain ⟨p, c, hv⟩ := h4.val
    rw [hv] at h1 h4
    rw [← hn] at h1 h4
    exact ⟨p, c, h1, h4, h5⟩
  have cl : ∀ W, Below w.heap.size w W → Calls Tryd.prog 19 #[.pointer (some ⟨b, 0, none⟩)] W fun e w' => e = .returned (.int .i64 (n : Int)) ∧ W = w' := fun W hb => by
    have := len_any b mo l W (h.below hb)
    rw [hln] at this; exact this
  have enn : ((n : Int) != (n : Int)) = false := by simp
  have hn100 : n ≤ 100 := by omega
  rw [← hn]
  have CA := Box.mk ca; have CL := Box.mk cl; have HR := Box.mk hR; have HN := Box.mk hn
  clear ca cl hR hn h hp hr hl hln
  go_enter Tryd.func6, Tryd.ntmps6
  go_wp2_with (first
    | (go_at_call 20; ((with_reducible refine CA.out.mono ?_); rintro e w1 ⟨p, c, rfl, e1, b1⟩; have E1 := Box.mk e1; have B1 := Box.mk b1; clear e1 b1 CA))
    | (go_at_call 19; ((with_reducible refine (CL.out _ B1.out).mono ?_); rintro e w' ⟨rfl, rfl⟩)))
  go_loopw [24] (fun i wr => ∃ (k : Nat), i = .int .i64 (k : Int) ∧ k ≤ n ∧ Box (Below w1.heap.size w1 wr)) (fun i _ => n - (intOf i).toNat)
  case atStart => exact ⟨0, rfl, by omega, ⟨Below.refl _ _⟩⟩
  case round =>
    obtain ⟨k, rfl, hk, hb⟩ := hrel
    by_cases hlt : k < n
    · obtain ⟨g, gc, hv, hg, hc⟩ := E1.out.cells (by have := HN.out; omega)
      obtain ⟨rfl, _, rfl⟩ := Value.slice.inj hv
      obtain ⟨xg, xc, hv2, hxg, hxc⟩ := HR.out.cells (by have := HN.out; omega)
      obtain ⟨rfl, _, rfl⟩ := Value.slice.inj hv2
      obtain ⟨x, hx⟩ : ∃ x, R[k]? = some x := ⟨_, List.getElem?_eq_getElem (by have := HN.out; omega)⟩
      have rg : wr.rangeAt g (k * 33) (encE x) := fun j u hu => (hb.out.cell (show g < w1.heap.size from hg)).trans (hc k x hx j u hu)
      obtain ⟨c0, c1⟩ := hxc k x hx
      obtain ⟨W2, hW2⟩ : ∃ W2, W2 = wr.alloc (.cells (encE x).toArray 62) := ⟨_, rfl⟩
      have s2 : W2.heap.size = wr.heap.size + 1 := by rw [hW2]; simp
      have b2 : Below wr.heap.size wr W2 := by rw [hW2]; exact aset22 _ _
      have bw2 : Below w.heap.size w W2 := (B1.out.trans (hb.out.mono B1.out.size)).trans (b2.mono (by have := B1.out.size; have := hb.out.size; omega))
      have q0 : W2.cell? ⟨xg, k * 2, none⟩ = some (.string (bs x.key)) := (bw2.cell hxg).trans c0
      have q1 : W2.cell? ⟨xg, k * 2 + 1, none⟩ = some (.string x.text) := (bw2.cell hxg).trans c1
      have r2 : W2.rangeAt wr.heap.size 0 (encE x) := by rw [hW2]; exact range_new _ _ _ _ rfl
      have q2 : W2.cell? ⟨wr.heap.size, 32, none⟩ = some (.string x.text) := by have := r2 32 _ (encE_last x); rwa [Nat.zero_add] at this
      have rk : W2.rangeAt wr.heap.size 0 (byts x.key) := fun j u hu => r2 j u (by
        unfold encE
        rw [List.getElem?_append_left (List.getElem?_eq_some_iff.1 hu).1]; exact hu)
      have hcv : ∀ m, (convert 40 9 (.slice (some ⟨wr.heap.size, 0, none⟩) 32 32)).run Tryd.prog (W2.drewN m) = .ok (.string (bs x.key)) (W2.drewN m) := fun m => conv_rangeI (w := W2.drewN m) (cap := 32) x.kl (fun j u hu => rk j u hu)
      have BB2 := Box.mk (hb.out.trans (b2.mono hb.out.size))
      have ht : ∀ Z : Array Value, Z.size = 33 → (wr.alloc (.cells Z 62)).there wr.heap.size 0 33 := fun Z hZ => by
        have := there_new wr 62 Z.toList wr.heap.size 0 33 rfl (by simp [hZ])
        simpa using this
      obtain ⟨du, hu, hdu⟩ := und_entry
      obtain ⟨S, hS⟩ : ∃ S, S = bs x.key := ⟨_, rfl⟩
      rw [← hS] at q0 hcv
      have sbk := str_beq S S
      rw [decide_eq_true rfl] at sbk
      have sbt := str_beq x.text x.text
      rw [decide_eq_true rfl] at sbt
      have HW2 := Box.mk hW2; have RG := Box.mk rg
      clear hW2 rg hv hv2 hc hxc c0 c1 hx r2 rk s2 b2 bw2 hS
      go_upto_region 7 with (first
        | ((with_reducible refine at_load 62 (.tmp 27) ?_); refine wpList_load_mid rfl 62 (.tmp 27) rfl g (k * 33) (by first | rfl | simp) (encE x) du RG.out hu hdu (by rw [encE_len]; exact info_entry) ?_)
        | ((with_reducible refine at_store 62 (.tmp 7) (.tmp 28) ?_); refine wpList_store_mid rfl 62 (.tmp 7) (.tmp 28) rfl wr.heap.size 0 (encE x).toArray rfl rfl (by have e : (encE x).toArray.size = 33 := (by simp [encE_len]); rw [e]; exact ht _ rfl) (by have e : (encE x).toArray.size = 33 := (by simp [encE_len]); rw [e]; exact info_entry) (all_oneCell_toArray (encE_one x)) ?_; rw [show (wr.alloc _).setCells wr.heap.size 0 (encE x).toArray.toList = W2 from (by rw [HW2.out]; exact fillE wr _ _ _ (by simp [encE_len]))]))
      go_quiet (fail)
      go_wp2_with fail
      go_roundw
      case rel => exact ⟨_, _, _, _, ⟨k + 1, rfl, by omega, ⟨BB2.out.trans (Below.mono (⟨rfl, rfl, rfl, Nat.le_refl _, fun _ _ => rfl⟩ : Below W2.heap.size W2 (W2.drewN nq)) BB2.out.size)⟩⟩, rfl, rfl, rfl, by go_num⟩
      case measure => simp [intOf] <;> omega
    · obtain rfl : k = n := by omega
      go_wp2_with fail
      go_ret
      exact ⟨rfl, B1.out.trans (hb.out.mono B1.out.size)⟩
end Go.Proofs.YtacfdnjdjgdbcaaDoor
