/- DiskD, DiskE, in one text. -/
import Derived.Test.YtdffpbfllekcgaaGreatDoorHf
namespace Go.Proofs.YtdffpbfllekcgaaGreatDoor
set_option maxRecDepth 100000
open Go.RowKit M

/-- a slice of ints that can be read -/
structure IntsIn (w : World) (v : Value) (xs : List Int) : Prop where
  val : ∃ q c, v = .slice q xs.length c
  cells : 0 < xs.length → ∃ b off c, v = .slice (some ⟨b, off, none⟩) xs.length c ∧ b < w.heap.size ∧ ∀ i, i < xs.length → w.cell? ⟨b, off + i, none⟩ = some (.int .i64 (xs.getD i 0))
  len : xs.length ≤ maxLen
  rng : ∀ x ∈ xs, -9223372036854775808 ≤ x ∧ x ≤ 9223372036854775807
theorem IntsIn.keep {w w' : World} {v : Value} {xs : List Int} (h : IntsIn w v xs) (hs : w.heap.size ≤ w'.heap.size) (hk : ∀ b, v.ownBlock = some b → b < w.heap.size → w'.heap[b]? = w.heap[b]?) : IntsIn w' v xs := by
  refine ⟨h.val, fun h0 => ?_, h.len, h.rng⟩
  obtain ⟨b, off, c, e, hb, hc⟩ := h.cells h0
  exact ⟨b, off, c, e, Nat.lt_of_lt_of_le hb hs, fun i hi => (cell_keep (hk _ (by rw [e]; rfl) hb)).trans (hc i hi)⟩

theorem pickN_none {xs : List Int} {i : Nat} (m : Nat) (h : xs.length ≤ i) : pickN xs i m = 0 := by
  unfold pickN; rw [List.getElem?_eq_none h]
theorem pickN_pos {xs : List Int} {i : Nat} (m : Nat) (h : i < xs.length) : ((pickN xs i m : Nat) : Int) = if (xs.getD i 0).tmod ((m : Int) + 1) < 0 then (xs.getD i 0).tmod ((m : Int) + 1) + ((m : Int) + 1) else (xs.getD i 0).tmod ((m : Int) + 1) := by
  unfold pickN
  rw [List.getElem?_eq_getElem h]
  have e : xs.getD i 0 = xs[i] := by simp [List.getD, h]
  rw [e]
  generalize xs[i] = c
  have h1 := Int.emod_nonneg c (b := (m : Int) + 1) (by omega)
  show (((c % ((m : Int) + 1)).toNat : Nat) : Int) = _
  rw [Int.toNat_of_nonneg h1]
  have h2 := Int.emod_lt_of_pos c (b := (m : Int) + 1) (by omega)
  have h3 := Int.tmod_eq_emod (a := c) (b := (m : Int) + 1)
  have h4 : (((m : Int) + 1).natAbs : Int) = (m : Int) + 1 := Int.natAbs_of_nonneg (by omega)
  split at h3
  · rw [if_neg (by omega)]; omega
  · rw [if_pos (by omega)]; omega
theorem tmod_low (c : Int) (m : Nat) : -((m : Int) + 1) < c.tmod ((m : Int) + 1) ∧ c.tmod ((m : Int) + 1) < (m : Int) + 1 := by
  have h1 := Int.emod_nonneg c (b := (m : Int) + 1) (by omega)
  have h2 := Int.emod_lt_of_pos c (b := (m : Int) + 1) (by omega)
  have h3 := Int.tmod_eq_emod (a := c) (b := (m : Int) + 1)
  have h4 : (((m : Int) + 1).natAbs : Int) = (m : Int) + 1 := Int.natAbs_of_nonneg (by omega)
  split at h3
  · by_cases h0 : c % ((m : Int) + 1) = 0 <;> omega
  · rename_i hn
    have h0 : c % ((m : Int) + 1) ≠ 0 := fun e => hn (.inr (Int.dvd_of_emod_eq_zero e))
    omega

set_option maxHeartbeats 400000 in
theorem chosen_any (v : Value) (xs : List Int) (i m : Nat) (w : World) (h : IntsIn w v xs) (hi : i ≤ 1099511627777) (hm : m ≤ 1099511627777) :
    Calls Tryz.prog 34 #[v, .int .i64 (i : Int), .int .i64 (m : Int)] w fun e w' => e = .returned (.int .i64 ((pickN xs i m : Nat) : Int)) ∧ w = w' := by
  have hlen := h.len
  unfold maxLen at hlen
  obtain ⟨n, hn⟩ : ∃ n, n = xs.length := ⟨_, rfl⟩
  rcases Nat.lt_or_ge i xs.length with hlt | hge
  · obtain ⟨b, off, c, rfl, hb, hc⟩ := h.cells (by omega)
    have hcell := hc i hlt
    have hr := h.rng (xs.getD i 0) (by simp [List.getD, hlt])
    obtain ⟨r1, r2⟩ := hr
    have hp := pickN_pos m hlt
    obtain ⟨x, hx⟩ : ∃ x, x = xs.getD i 0 := ⟨_, rfl⟩
    rw [← hx] at hcell r1 r2 hp
    rw [← hn] at hlt hlen ⊢
    clear hc h hx hn
    have HP := Box.mk hp
    clear hp
    go_enter Tryz.func34, Tryz.ntmps34
    go_wp2
    all_goals go_ret
    · refine ⟨congrArg Ending.returned (congrArg (Value.int .i64) ?_), rfl⟩
      have hl := tmod_low x m
      rw [HP.out, if_pos (by assumption)]
      exact IntWalk.wrap64_in _ (by omega)
    · refine ⟨congrArg Ending.returned (congrArg (Value.int .i64) ?_), rfl⟩
      rw [HP.out, if_neg (by omega)]
  · obtain ⟨q, c, rfl⟩ := h.val
    rw [pickN_none m hge]
    rw [← hn] at hge hlen ⊢
    clear h hn
    have e1 : ((n : Int) ≤ (i : Int)) := by omega
    go_enter Tryz.func34, Tryz.ntmps34
    go_wp2
    go_ret
    exact ⟨rfl, rfl⟩

/-- block b alone of the old blocks may have changed -/
structure Lone (b : Nat) (w w' : World) : Prop where
  os : w'.os = w.os
  tape : w'.tape = w.tape
  output : w'.output = w.output
  size : w.heap.size ≤ w'.heap.size
  block : ∀ k, k < w.heap.size → k ≠ b → w'.heap[k]? = w.heap[k]?
theorem setBlock_far {w : World} {b k : Nat} {o : Obj} (h : k ≠ b) : (ChangeMaps.setBlock w b o).heap[k]? = w.heap[k]? := by
  simp [ChangeMaps.setBlock, Ne.symm h]
theorem setBlock_cell {w : World} {b p f : Nat} {o : Obj} (h : p ≠ b) : (ChangeMaps.setBlock w b o).cell? ⟨p, f, none⟩ = w.cell? ⟨p, f, none⟩ := cell_keep (setBlock_far h)
theorem Lone.to {T : Tag → Prop} {own : Nat → Tag} {b : Nat} {w w' : World} (h : Lone b w w') (hb : T (own b)) : Chn T own w w' :=
  ⟨h.os, h.tape, h.output, h.size, fun k hk hn => h.block k hk fun e => hn (by rw [e]; exact hb)⟩

theorem d_some {x : ByteArray} (h : 0 < x.size) : x.toList.isEmpty = false := by
  rw [ByteArray.toList_eq, List.isEmpty_eq_false_iff]
  intro e
  have : x.data.toList.length = 0 := by rw [e]; rfl
  rw [Array.length_toList] at this
  exact absurd this (by show ¬ x.size = 0; omega)
theorem d_empty {x : ByteArray} (h : x.size = 0) : x.toList.isEmpty = true := by
  rw [ByteArray.toList_eq, List.isEmpty_iff]
  apply List.eq_nil_of_length_eq_zero
  rw [Array.length_toList]
  exact h

set_option maxHeartbeats 400000 in
theorem apply_any (c : Chg) (ov : Value) (loc : Nat → Nat) (mb : Nat) (l : KL) (w : World) (h : MapL w mb loc l) (h1 : c.src.size ≤ maxLen) (h2 : c.dst.size ≤ maxLen) (hroom : l.length + 1 < maxLen) :
    Calls Tryz.prog 38 #[.agg #[.string c.src, .string c.dst, .pointer (some ⟨loc c.file, 0, none⟩), ov], .map (some mb)] w fun e w' => e = .returned (.tuple #[]) ∧ MapL w' mb loc (c.app l) ∧ Lone mb w w' := by
  have hlt := h.lt
  have h' : MapL (w.alloc (.cells #[.string c.src, .string c.dst, .pointer (some ⟨loc c.file, 0, none⟩), ov] 78)) mb loc l := h.keep (Below.heap_alloc _ _ _ hlt)
  have hne : w.heap.size ≠ mb := by omega
  have hr2 : (kdel l c.src).length + 1 < maxLen := Nat.lt_of_le_of_lt (by have := kdel_length l c.src; omega) hroom
  have HM := Box.mk h'; have HN := Box.mk hne; have HR := Box.mk hr2
  have big := Box.mk (show ∀ o o2, Lone mb w (ChangeMaps.setBlock (ChangeMaps.setBlock (w.alloc (.cells #[.string c.src, .string c.dst, .pointer (some ⟨loc c.file, 0, none⟩), ov] 78)) mb o) mb o2) from fun o o2 =>
    ⟨rfl, rfl, rfl, by simp [ChangeMaps.setBlock], fun k hk hn => by rw [setBlock_far hn, setBlock_far hn, Below.heap_alloc _ _ _ hk]⟩)
  have big1 := Box.mk (show ∀ o, Lone mb w (ChangeMaps.setBlock (w.alloc (.cells #[.string c.src, .string c.dst, .pointer (some ⟨loc c.file, 0, none⟩), ov] 78)) mb o) from fun o =>
    ⟨rfl, rfl, rfl, by simp [ChangeMaps.setBlock], fun k hk hn => by rw [setBlock_far hn, Below.heap_alloc _ _ _ hk]⟩)
  have dcell := Box.mk (show ∀ (W : World) o f, (ChangeMaps.setBlock W mb o).cell? ⟨w.heap.size, f, none⟩ = W.cell? ⟨w.heap.size, f, none⟩ from fun W o f => setBlock_cell hne)
  unfold Chg.app
  clear h h' hne hr2 hroom
  by_cases hz : c.dst.size = 0
  · rw [if_pos hz]
    have e1 := d_empty hz
    clear hz
    go_enter Tryz.func38, Tryz.ntmps38
    go_wp2_with (at_delete; refine wpList_delete_mapL rfl _ _ 43 9 rfl 50 Tryz.underlying9 Tryz.underlying43 rfl HM.out c.src rfl h1 ?_; intro o1 hm1; have HM1 := Box.mk hm1; clear hm1; have d1 := fun f => dcell.out (w.alloc (.cells #[.string c.src, .string c.dst, .pointer (some ⟨loc c.file, 0, none⟩), ov] 78)) o1 f)
    go_end0
    exact ⟨rfl, HM1.out, big1.out o1⟩
  · rw [if_neg hz]
    have e1 := d_some (show 0 < c.dst.size by omega)
    clear hz
    go_enter Tryz.func38, Tryz.ntmps38
    go_wp2_with (first
      | (at_delete; refine wpList_delete_mapL rfl _ _ 43 9 rfl 50 Tryz.underlying9 Tryz.underlying43 rfl HM.out c.src rfl h1 ?_; intro o1 hm1; have HM1 := Box.mk hm1; clear hm1; have d1 := fun f => dcell.out (w.alloc (.cells #[.string c.src, .string c.dst, .pointer (some ⟨loc c.file, 0, none⟩), ov] 78)) o1 f)
      | (at_mapUpdate; refine wpList_store_mapL rfl _ _ _ 43 rfl 9 50 Tryz.underlying9 Tryz.underlying43 rfl HM1.out c.dst c.file rfl h2 rfl HR.out ?_; intro o2 hm2; have HM2 := Box.mk hm2; clear hm2))
    go_end0
    exact ⟨rfl, HM2.out, big.out o1 o2⟩

end Go.Proofs.YtdffpbfllekcgaaGreatDoor
namespace Go.Proofs.YtdffpbfllekcgaaGreatDoor
set_option maxRecDepth 100000
open Go.RowKit M

theorem Head.re {w : World} {b nb sb : Nat} {ch : Value} {S S' : DS} (h : Head w b nb sb ch S) (e : S'.made = S.made ∧ S'.room = S.room ∧ S'.used = S.used ∧ S'.crash = S.crash ∧ S'.fail = S.fail ∧ S'.dead = S.dead ∧ S'.calls = S.calls) : Head w b nb sb ch S' := by
  obtain ⟨e1, e2, e3, e4, e5, e6, e7⟩ := e
  exact ⟨h.c0, h.c1, h.c2, by rw [e1]; exact h.c3, by rw [e2]; exact h.c4, by rw [e3]; exact h.c5, by rw [e4]; exact h.c6, by rw [e5]; exact h.c7, by rw [e6]; exact h.c8, by rw [e7]; exact h.c9, h.fz⟩
theorem DiskAt.reFile {w w' : World} {L : Lay} {S : DS} (h : DiskAt w L S) {n : Nat} {f : FileS} (c : Chn (fun t => t = .file n) L.own w w') (hf : FileAt w' (L.loc n) n (L.dat n) f) : DiskAt w' L (S.setF n f) := by
  have t := h.tags
  have k : ∀ i, L.own i ≠ .free → L.own i ≠ .file n → w'.heap[i]? = w.heap[i]? := fun i h1 h2 => c.block i (h.own_lt h1) h2
  have kk : ∀ i T, L.own i = T → T ≠ .free → T ≠ .file n → w'.heap[i]? = w.heap[i]? := fun i T e h1 h2 => k i (by rw [e]; exact h1) (by rw [e]; exact h2)
  refine ⟨(h.head.keep (kk _ _ t.b (by simp) (by simp))).re ⟨rfl, rfl, rfl, rfl, rfl, rfl, rfl⟩, h.names.keep (kk _ _ t.nb (by simp) (by simp)), h.safe.keep (kk _ _ t.sb (by simp) (by simp)), fun m h1 h2 => ?_, row_keep h.chg (fun i e => kk _ _ (t.ch i e) (by simp) (by simp)), ⟨t.b, t.nb, t.sb, t.ch, t.loc, t.dat, fun i hi => t.out i (Nat.le_trans c.size hi)⟩⟩
  show FileAt w' (L.loc m) m (L.dat m) (if m = n then f else S.file m)
  by_cases e : m = n
  · rw [if_pos e, e]; exact hf
  · rw [if_neg e]
    exact (h.file m h1 h2).keep (kk _ _ (t.loc m h1 h2) (by simp) (by simpa using e)) (fun i ei => kk _ _ (t.dat m h1 h2 i ei) (by simp) (by simp))

theorem DiskAt.reNames {w w' : World} {L : Lay} {S : DS} (h : DiskAt w L S) {l : KL} (c : Chn (fun t => t = .names) L.own w w') (hm : MapL w' L.nb L.loc l) : DiskAt w' L { S with names := l } := by
  have t := h.tags
  have kk : ∀ i T, L.own i = T → T ≠ .free → T ≠ .names → w'.heap[i]? = w.heap[i]? := fun i T e h1 h2 => c.block i (h.own_lt (by rw [e]; exact h1)) (by rw [e]; exact h2)
  refine ⟨(h.head.keep (kk _ _ t.b (by simp) (by simp))).re ⟨rfl, rfl, rfl, rfl, rfl, rfl, rfl⟩, hm, h.safe.keep (kk _ _ t.sb (by simp) (by simp)), fun m h1 h2 => ?_, row_keep h.chg (fun i e => kk _ _ (t.ch i e) (by simp) (by simp)), ⟨t.b, t.nb, t.sb, t.ch, t.loc, t.dat, fun i hi => t.out i (Nat.le_trans c.size hi)⟩⟩
  exact (h.file m h1 h2).keep (kk _ _ (t.loc m h1 h2) (by simp) (by simp)) (fun i ei => kk _ _ (t.dat m h1 h2 i ei) (by simp) (by simp))

theorem DiskAt.reSafe {w w' : World} {L : Lay} {S : DS} (h : DiskAt w L S) {l : KL} (c : Chn (fun t => t = .safe) L.own w w') (hm : MapL w' L.sb L.loc l) : DiskAt w' L { S with safe := l } := by
  have t := h.tags
  have kk : ∀ i T, L.own i = T → T ≠ .free → T ≠ .safe → w'.heap[i]? = w.heap[i]? := fun i T e h1 h2 => c.block i (h.own_lt (by rw [e]; exact h1)) (by rw [e]; exact h2)
  refine ⟨(h.head.keep (kk _ _ t.b (by simp) (by simp))).re ⟨rfl, rfl, rfl, rfl, rfl, rfl, rfl⟩, h.names.keep (kk _ _ t.nb (by simp) (by simp)), hm, fun m h1 h2 => ?_, row_keep h.chg (fun i e => kk _ _ (t.ch i e) (by simp) (by simp)), ⟨t.b, t.nb, t.sb, t.ch, t.loc, t.dat, fun i hi => t.out i (Nat.le_trans c.size hi)⟩⟩
  exact (h.file m h1 h2).keep (kk _ _ (t.loc m h1 h2) (by simp) (by simp)) (fun i ei => kk _ _ (t.dat m h1 h2 i ei) (by simp) (by simp))

/-- the tag of block g is T from now on -/
def retag (own : Nat → Tag) (v : Value) (T : Tag) : Nat → Tag := fun k => if v.ownBlock = some k then T else own k
theorem retag_old {own : Nat → Tag} {v v' : Value} {T : Tag} {H : Nat} (hv : ∀ k, v.ownBlock = some k → own k = T) (hn : v'.ownBlock = v.ownBlock ∨ ∀ k, v'.ownBlock = some k → H ≤ k) {k : Nat} (hk : k < H) : retag own v' T k = own k := by
  unfold retag
  split
  · rename_i e
    rcases hn with h1 | h1
    · exact (hv k (by rw [← h1]; exact e)).symm
    · exact absurd (h1 k e) (by omega)
  · rfl
theorem retag_out {own : Nat → Tag} {v' : Value} {T : Tag} {H H' : Nat} (ho : ∀ k, H ≤ k → own k = .free) (hs : H ≤ H') (hl : ∀ k, v'.ownBlock = some k → k < H') : ∀ k, H' ≤ k → retag own v' T k = .free := by
  intro k hk
  unfold retag
  rw [if_neg (fun e => by have := hl k e; omega)]
  exact ho k (by omega)

/-- the changes are others, in another row -/
theorem DiskAt.reChg {w w' : World} {L : Lay} {S : DS} (h : DiskAt w L S) {v : Value} {cs : List Chg} (c : Chn (fun t => t = .chg ∨ t = .disk) L.own w w') (hh : Head w' L.b L.nb L.sb v S)
    (hr : w'.ownsRow 0 78 4 v cs.length (cs.flatMap (chgCells L.loc))) (hn : v.ownBlock = L.ch.ownBlock ∨ ∀ k, v.ownBlock = some k → w.heap.size ≤ k) :
    DiskAt w' { L with ch := v, own := retag L.own v .chg } { S with chg := cs } ∧ ∀ k, k < w.heap.size → retag L.own v .chg k = L.own k := by
  have t := h.tags
  have kk : ∀ i T, L.own i = T → T ≠ .free → T ≠ .chg → T ≠ .disk → w'.heap[i]? = w.heap[i]? := fun i T e h1 h2 h3 => c.block i (h.own_lt (by rw [e]; exact h1)) (by rw [e]; rintro (x | x); exact h2 x; exact h3 x)
  have old : ∀ k, k < w.heap.size → retag L.own v .chg k = L.own k := fun k hk => retag_old t.ch hn hk
  have oldT : ∀ i T, L.own i = T → T ≠ .free → retag L.own v .chg i = T := fun i T e h1 => (old i (h.own_lt (by rw [e]; exact h1))).trans e
  refine ⟨⟨hh.re ⟨rfl, rfl, rfl, rfl, rfl, rfl, rfl⟩, h.names.keep (kk _ _ t.nb (by simp) (by simp) (by simp)), h.safe.keep (kk _ _ t.sb (by simp) (by simp) (by simp)), fun m h1 h2 => ?_, hr, ⟨oldT _ _ t.b (by simp), oldT _ _ t.nb (by simp), oldT _ _ t.sb (by simp), ?_, fun n h1 h2 => oldT _ _ (t.loc n h1 h2) (by simp), fun n h1 h2 k e => oldT _ _ (t.dat n h1 h2 k e) (by simp), ?_⟩⟩, old⟩
  · exact (h.file m h1 h2).keep (kk _ _ (t.loc m h1 h2) (by simp) (by simp) (by simp)) (fun i ei => kk _ _ (t.dat m h1 h2 i ei) (by simp) (by simp) (by simp))
  · intro k e
    show retag L.own v .chg k = .chg
    unfold retag
    rw [if_pos e]
  · exact retag_out t.out c.size (fun k e => (hr.lt k e).2)

/-- a file's bytes are others, in another row -/
theorem DiskAt.reData {w w' : World} {L : Lay} {S : DS} (h : DiskAt w L S) {n : Nat} (h1 : 1 ≤ n) (h2 : n ≤ S.made) {v : Value} {f : FileS} (c : Chn (fun t => t = .file n ∨ t = .data n) L.own w w')
    (hf : FileAt w' (L.loc n) n v f) (hn : v.ownBlock = (L.dat n).ownBlock ∨ v.ownBlock = none ∨ ∀ k, v.ownBlock = some k → w.heap.size ≤ k) :
    DiskAt w' { L with dat := fun i => if i = n then v else L.dat i, own := retag L.own v (.data n) } (S.setF n f) ∧ ∀ k, k < w.heap.size → retag L.own v (.data n) k = L.own k := by
  have t := h.tags
  have hn' : v.ownBlock = (L.dat n).ownBlock ∨ ∀ k, v.ownBlock = some k → w.heap.size ≤ k := by
    rcases hn with e | e | e
    · exact .inl e
    · exact .inr (fun k hk => by rw [e] at hk; cases hk)
    · exact .inr e
  have kk : ∀ i T, L.own i = T → T ≠ .free → T ≠ .file n → T ≠ .data n → w'.heap[i]? = w.heap[i]? := fun i T e h1 h2 h3 => c.block i (h.own_lt (by rw [e]; exact h1)) (by rw [e]; rintro (x | x); exact h2 x; exact h3 x)
  have old : ∀ k, k < w.heap.size → retag L.own v (.data n) k = L.own k := fun k hk => retag_old (fun k e => t.dat n h1 h2 k e) hn' hk
  have oldT : ∀ i T, L.own i = T → T ≠ .free → retag L.own v (.data n) i = T := fun i T e h1 => (old i (h.own_lt (by rw [e]; exact h1))).trans e
  refine ⟨⟨(h.head.keep (kk _ _ t.b (by simp) (by simp) (by simp))).re ⟨rfl, rfl, rfl, rfl, rfl, rfl, rfl⟩, h.names.keep (kk _ _ t.nb (by simp) (by simp) (by simp)), h.safe.keep (kk _ _ t.sb (by simp) (by simp) (by simp)), fun m m1 m2 => ?_, row_keep h.chg (fun i e => kk _ _ (t.ch i e) (by simp) (by simp) (by simp)), ⟨oldT _ _ t.b (by simp), oldT _ _ t.nb (by simp), oldT _ _ t.sb (by simp), fun k e => oldT _ _ (t.ch k e) (by simp), fun m m1 m2 => oldT _ _ (t.loc m m1 m2) (by simp), fun m m1 m2 k e => ?_, ?_⟩⟩, old⟩
  · show FileAt w' (L.loc m) m (if m = n then v else L.dat m) (if m = n then f else S.file m)
    by_cases e : m = n
    · rw [if_pos e, if_pos e, e]; exact hf
    · rw [if_neg e, if_neg e]
      exact (h.file m m1 m2).keep (kk _ _ (t.loc m m1 m2) (by simp) (by simpa using e) (by simp)) (fun i ei => kk _ _ (t.dat m m1 m2 i ei) (by simp) (by simp) (by simpa using e))
  · show retag L.own v (.data n) k = .data m
    change (if m = n then v else L.dat m).ownBlock = some k at e
    by_cases em : m = n
    · rw [if_pos em] at e
      unfold retag
      rw [if_pos e, em]
    · rw [if_neg em] at e
      exact oldT _ _ (t.dat m m1 m2 k e) (by simp)
  · exact retag_out t.out c.size (fun k e => (hf.row.lt k e).2)

/-- what a call of the disk leaves -/
def Ran (w : World) (L : Lay) (S' : DS) (w' : World) : Prop :=
  ∃ L', DiskAt w' L' S' ∧ L'.b = L.b ∧ (∀ k, k < w.heap.size → L'.own k = L.own k) ∧ Chn (fun t => t ≠ .free) L.own w w'
def RanP (L : Lay) (w : World) (r : Value) (S' : DS) (e : Ending) (w' : World) : Prop := e = .returned r ∧ Ran w L S' w'

theorem FileAt.setNamed {w : World} {p n : Nat} {v : Value} {f : FileS} (h : FileAt w p n v f) (hne : v.ownBlock ≠ some p) (b : Bool) : FileAt (w.setCell ⟨p, 3, none⟩ (.bool b)) p n v { f with named := b } :=
  ⟨(World.cell?_setCell_other _ _ _ _ (by simp)).trans h.c0, (World.cell?_setCell_other _ _ _ _ (by simp)).trans h.c1, (World.cell?_setCell_other _ _ _ _ (by simp)).trans h.c2, World.cell?_setCell_same _ _ _ h.c3, fun o => by rw [frozen_setCell]; exact h.fz o,
    row_keep h.row fun k e => Below.heap_setCell _ _ _ _ (fun e2 => hne (by rw [e, e2]))⟩
theorem FileAt.setSafe {w : World} {p n : Nat} {v : Value} {f : FileS} (h : FileAt w p n v f) (hne : v.ownBlock ≠ some p) (x : Nat) : FileAt (w.setCell ⟨p, 2, none⟩ (.int .i64 (x : Int))) p n v { f with safe := x } :=
  ⟨(World.cell?_setCell_other _ _ _ _ (by simp)).trans h.c0, (World.cell?_setCell_other _ _ _ _ (by simp)).trans h.c1, World.cell?_setCell_same _ _ _ h.c2, (World.cell?_setCell_other _ _ _ _ (by simp)).trans h.c3, fun o => by rw [frozen_setCell]; exact h.fz o,
    row_keep h.row fun k e => Below.heap_setCell _ _ _ _ (fun e2 => hne (by rw [e, e2]))⟩
theorem DiskAt.apart {w : World} {L : Lay} {S : DS} (h : DiskAt w L S) {n : Nat} (h1 : 1 ≤ n) (h2 : n ≤ S.made) : (L.dat n).ownBlock ≠ some (L.loc n) := by
  intro e
  have a := h.tags.dat n h1 h2 _ e
  rw [h.tags.loc n h1 h2] at a
  cases a
theorem DiskAt.setNamed {w : World} {L : Lay} {S : DS} (h : DiskAt w L S) {n : Nat} (h1 : 1 ≤ n) (h2 : n ≤ S.made) (b : Bool) : DiskAt (w.setCell ⟨L.loc n, 3, none⟩ (.bool b)) L (S.setF n { S.file n with named := b }) :=
  h.reFile ((Chn.refl _ _ _).setCell (fun _ => h.tags.loc n h1 h2) _) ((h.file n h1 h2).setNamed (h.apart h1 h2) b)
theorem DiskAt.setSafe {w : World} {L : Lay} {S : DS} (h : DiskAt w L S) {n : Nat} (h1 : 1 ≤ n) (h2 : n ≤ S.made) (x : Nat) : DiskAt (w.setCell ⟨L.loc n, 2, none⟩ (.int .i64 (x : Int))) L (S.setF n { S.file n with safe := x }) :=
  h.reFile ((Chn.refl _ _ _).setCell (fun _ => h.tags.loc n h1 h2) _) ((h.file n h1 h2).setSafe (h.apart h1 h2) x)
theorem DiskAt.loc_lt {w : World} {L : Lay} {S : DS} (h : DiskAt w L S) {n : Nat} (h1 : 1 ≤ n) (h2 : n ≤ S.made) : L.loc n < w.heap.size := h.own_lt (by rw [h.tags.loc n h1 h2]; simp)
theorem DiskAt.b_lt {w : World} {L : Lay} {S : DS} (h : DiskAt w L S) : L.b < w.heap.size := h.own_lt (by rw [h.tags.b]; simp)
theorem DiskAt.loc_ne {w : World} {L : Lay} {S : DS} (h : DiskAt w L S) {n : Nat} (h1 : 1 ≤ n) (h2 : n ≤ S.made) : L.loc n ≠ L.b := fun e => by
  have a := h.tags.loc n h1 h2
  rw [e, h.tags.b] at a
  cases a

end Go.Proofs.YtdffpbfllekcgaaGreatDoor
