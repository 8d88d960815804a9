/- DiskS, DiskT, DiskU, in one text. -/
import Derived.Test.YtdffpbfllekcgaaGreatDoorHr
namespace Go.Proofs.YtdffpbfllekcgaaGreatDoor
set_option maxRecDepth 100000
open Go.RowKit M

theorem clone_any (b : Nat) (loc : Nat → Nat) (l : KL) (w : World) (h : MapL w b loc l) :
    Calls Tryz.prog 35 #[.map (some b)] w fun e w' => e = .returned (.map (some w.heap.size)) ∧ ∃ o, w' = w.alloc o ∧ MapL (w.alloc o) w.heap.size loc l := by
  obtain ⟨es, clock, hb, h2, h3⟩ := h.ex
  have hc : Calls Tryz.prog 35 #[.map (some b)] w fun e w' => e = .returned (.map (some w.heap.size)) ∧ w' = w.alloc (.map es clock) := AnyW.maps_Clone Tryz.cloneL b es clock w hb
  exact hc.mono fun e w' ⟨he, hw⟩ => ⟨he, _, hw, ⟨⟨es, clock, (MapKept.heap_alloc w _).1, h2, h3⟩, h.keys, h.nd, h.size⟩⟩

theorem DiskAt.reClone {w : World} {L : Lay} {S : DS} (h : DiskAt w L S) (o : Obj) (hm : MapL (w.alloc o) w.heap.size L.loc S.safe) :
    DiskAt ((w.setCell ⟨L.b, 0, none⟩ (.map (some w.heap.size))).alloc o) { L with nb := w.heap.size, own := fun k => if k = w.heap.size then .names else L.own k } { S with names := S.safe } ∧
    Chn (fun t => t ≠ .free) L.own w ((w.setCell ⟨L.b, 0, none⟩ (.map (some w.heap.size))).alloc o) := by
  have t := h.tags
  have hC : Chn (fun t => t = .disk) L.own w ((w.setCell ⟨L.b, 0, none⟩ (.map (some w.heap.size))).alloc o) := ((Chn.refl _ _ _).setCell (fun _ => t.b) _).alloc _
  refine ⟨?_, hC.mono (fun t e => by rw [e]; simp)⟩
  have hz : (w.setCell ⟨L.b, 0, none⟩ (.map (some w.heap.size))).heap.size = w.heap.size := by simp [World.setCell]
  have hh : Head ((w.setCell ⟨L.b, 0, none⟩ (.map (some w.heap.size))).alloc o) L.b w.heap.size L.sb L.ch S := (h.head.s0 _).keep (Below.heap_alloc _ _ _ (by rw [hz]; exact h.b_lt))
  have kk : ∀ i T, L.own i = T → T ≠ .free → T ≠ .disk → ((w.setCell ⟨L.b, 0, none⟩ (.map (some w.heap.size))).alloc o).heap[i]? = w.heap[i]? := fun i T e h1 h2 => hC.block i (h.own_lt (by rw [e]; exact h1)) (by rw [e]; exact h2)
  have hnew : ((w.setCell ⟨L.b, 0, none⟩ (.map (some w.heap.size))).alloc o).heap[w.heap.size]? = (w.alloc o).heap[w.heap.size]? := by
    have a := (MapKept.heap_alloc (w.setCell ⟨L.b, 0, none⟩ (.map (some w.heap.size))) o).1
    rw [hz] at a
    rw [a, (MapKept.heap_alloc w o).1]
  have oldT : ∀ i T, L.own i = T → T ≠ .free → (if i = w.heap.size then Tag.names else L.own i) = T := fun i T e h1 => by
    have := h.own_lt (k := i) (by rw [e]; exact h1)
    rw [if_neg (by omega)]; exact e
  refine ⟨hh.re ⟨rfl, rfl, rfl, rfl, rfl, rfl, rfl⟩, hm.keep hnew, h.safe.keep (kk _ _ t.sb (by simp) (by simp)), fun m h1 h2 => (h.file m h1 h2).keep (kk _ _ (t.loc m h1 h2) (by simp) (by simp)) (fun i ei => kk _ _ (t.dat m h1 h2 i ei) (by simp) (by simp)),
    row_keep h.chg (fun i e => kk _ _ (t.ch i e) (by simp) (by simp)), ⟨oldT _ _ t.b (by simp), if_pos rfl, oldT _ _ t.sb (by simp), fun k e => oldT _ _ (t.ch k e) (by simp), fun m h1 h2 => oldT _ _ (t.loc m h1 h2) (by simp), fun m h1 h2 k e => oldT _ _ (t.dat m h1 h2 k e) (by simp), fun k hk => ?_⟩⟩
  have hs : ((w.setCell ⟨L.b, 0, none⟩ (.map (some w.heap.size))).alloc o).heap.size = w.heap.size + 1 := by simp [World.setCell]
  rw [hs] at hk
  show (if k = w.heap.size then Tag.names else L.own k) = .free
  rw [if_neg (by omega)]
  exact t.out k (by omega)

/-- one file behind a crash -/
def cutStep (choice : List Int) (q : Nat × DS) (n : Nat) : Nat × DS :=
  (if (q.2.file n).safe < (q.2.file n).data.length then q.1 + 1 else q.1, { q.2.setF n (cutF choice q.1 (q.2.file n)) with used := q.2.used + (cutF choice q.1 (q.2.file n)).data.length })
theorem cutAll_fold (choice : List Int) (l : List Nat) (k : Nat) (S : DS) : cutAll choice l k S = (l.foldl (cutStep choice) (k, S)).2 := by
  induction l generalizing k S with
  | nil => rfl
  | cons n l ih => rw [List.foldl_cons]; exact ih _ _
theorem cutStep_made (choice : List Int) (l : List Nat) (q : Nat × DS) : (l.foldl (cutStep choice) q).2.made = q.2.made ∧ (l.foldl (cutStep choice) q).1 ≤ q.1 + l.length := by
  induction l generalizing q with
  | nil => exact ⟨rfl, Nat.le_refl _⟩
  | cons n l ih =>
    rw [List.foldl_cons]
    obtain ⟨a, b⟩ := ih (cutStep choice q n)
    refine ⟨a, ?_⟩
    have : (cutStep choice q n).1 ≤ q.1 + 1 := by
      unfold cutStep
      simp only
      split
      · exact Nat.le_refl _
      · exact Nat.le_succ _
    simp only [List.length_cons]
    omega

/-- where Restart begins with the files -/
def rest0 (S : DS) (choice : List Int) : DS := { settleS S (pickN choice 0 S.chg.length) with names := (settleS S (pickN choice 0 S.chg.length)).safe, used := 0 }
/-- sizes at all files of Restart -/
def RestOk (S : DS) (choice : List Int) : Prop :=
  (rest0 S choice).names.length ≤ 1099511627776 ∧ (∀ p ∈ (rest0 S choice).names, 1 ≤ p.2 ∧ p.2 ≤ S.made) ∧
  ∀ k n, (oldest (rest0 S choice).names)[k]? = some n →
    0 ≤ (((oldest (rest0 S choice).names).take k).foldl (cutStep choice) (1, rest0 S choice)).2.used ∧ (((oldest (rest0 S choice).names).take k).foldl (cutStep choice) (1, rest0 S choice)).2.used ≤ 1099511627776 ∧
    ((((oldest (rest0 S choice).names).take k).foldl (cutStep choice) (1, rest0 S choice)).2.file n).data.length ≤ 1099511627776 ∧ ((((oldest (rest0 S choice).names).take k).foldl (cutStep choice) (1, rest0 S choice)).2.file n).safe ≤ 1099511627776
theorem restart_eq (S : DS) (choice : List Int) : restartS S choice = { ((oldest (rest0 S choice).names).foldl (cutStep choice) (1, rest0 S choice)).2 with crash := -1, fail := -1, dead := false } := by
  unfold restartS rest0
  simp only [cutAll_fold]

theorem own_take {w : World} {g n cap x : Nat} {l : List Nat} (h : w.ownsRow 0 5 1 (.slice (some ⟨g, 0, none⟩) n cap) n (byts l)) (hx : x ≤ n) : w.ownsRow 0 5 1 (.slice (some ⟨g, 0, none⟩) x cap) (l.take x).length (byts (l.take x)) := by
  have hl : l.length = n := by have := h.1; simpa [byts] using this
  have e : (l.take x).length = x := by rw [List.length_take]; omega
  rw [e]
  refine ⟨by simp [byts]; omega, ?_⟩
  rcases h.2 with ⟨hv, _⟩ | ⟨g', cap', cur, hv, hb, hg, hnc, hcm, hcs, ht⟩
  · cases hv
  · injection hv with e1 e2 e3
    injection e1 with e1
    injection e1 with e1
    subst e1 e3
    refine .inr ⟨g, cap, cur, rfl, hb, hg, by omega, hcm, hcs, ?_⟩
    have e2 : byts (l.take x) = (byts l).take x := by simp [byts]
    rw [e2, ← ht, List.take_take, Nat.mul_one, Nat.mul_one, Nat.min_eq_left hx]

theorem setF_twice (S : DS) (n : Nat) (f g : FileS) : (S.setF n f).setF n g = S.setF n g := by
  unfold DS.setF
  congr 1
  funext i
  show (if i = n then g else if i = n then f else S.file i) = if i = n then g else S.file i
  split <;> rfl
theorem setF_at (S : DS) (n : Nat) (f : FileS) : (S.setF n f).file n = f := if_pos rfl

/-- the end of a file's round -/
theorem cut_end {w : World} {L : Lay} {S : DS} (h : DiskAt w L S) {n : Nat} (h1 : 1 ≤ n) (h2 : n ≤ S.made) (x : Int) {len : Nat} (hx : x = S.used + (len : Int)) :
    DiskAt (((w.setCell ⟨L.loc n, 2, none⟩ (.int .i64 (len : Int))).setCell ⟨L.loc n, 3, none⟩ (.bool true)).setCell ⟨L.b, 5, none⟩ (.int .i64 x)) L { S.setF n ⟨(S.file n).data, len, true⟩ with used := S.used + (len : Int) } ∧
    Chn (fun t => t ≠ .free) L.own w (((w.setCell ⟨L.loc n, 2, none⟩ (.int .i64 (len : Int))).setCell ⟨L.loc n, 3, none⟩ (.bool true)).setCell ⟨L.b, 5, none⟩ (.int .i64 x)) := by
  have a := (h.setSafe h1 h2 len).setNamed (n := n) h1 h2 true
  rw [setF_at, setF_twice] at a
  have t := h.tags
  refine ⟨?_, ((((Chn.refl _ _ _).setCell (fun _ => by show L.own (L.loc n) ≠ .free; rw [t.loc n h1 h2]; simp) _).setCell (fun _ => by show L.own (L.loc n) ≠ .free; rw [t.loc n h1 h2]; simp) _).setCell (fun _ => by show L.own L.b ≠ .free; rw [t.b]; simp) _)⟩
  rw [← hx]
  exact a.reHead ((Chn.refl _ _ _).setCell (fun _ => t.b) _) (a.head.s5 x) rfl rfl rfl rfl rfl

/-- a file is cut -/
theorem cut_data {w : World} {L : Lay} {S : DS} (h : DiskAt w L S) {n : Nat} (h1 : 1 ≤ n) (h2 : n ≤ S.made) {g cap x : Nat} (hv : L.dat n = .slice (some ⟨g, 0, none⟩) (S.file n).data.length cap) (hx : x ≤ (S.file n).data.length) :
    DiskAt (w.setCell ⟨L.loc n, 1, none⟩ (.slice (some ⟨g, 0, none⟩) x cap)) { L with dat := fun i => if i = n then .slice (some ⟨g, 0, none⟩) x cap else L.dat i, own := retag L.own (.slice (some ⟨g, 0, none⟩) x cap) (.data n) } (S.setF n { S.file n with data := (S.file n).data.take x }) ∧
    (∀ k, k < w.heap.size → retag L.own (.slice (some ⟨g, 0, none⟩) x cap) (.data n) k = L.own k) ∧ Chn (fun t => t ≠ .free) L.own w (w.setCell ⟨L.loc n, 1, none⟩ (.slice (some ⟨g, 0, none⟩) x cap)) := by
  have F := h.file n h1 h2
  have hne : g ≠ L.loc n := fun e => h.apart h1 h2 (by rw [hv, ← e]; rfl)
  have hr := F.row
  rw [hv] at hr
  have hr2 := own_take hr hx
  have hf : FileAt (w.setCell ⟨L.loc n, 1, none⟩ (.slice (some ⟨g, 0, none⟩) x cap)) (L.loc n) n (.slice (some ⟨g, 0, none⟩) x cap) { S.file n with data := (S.file n).data.take x } :=
    ⟨(World.cell?_setCell_other _ _ _ _ (by simp)).trans F.c0, World.cell?_setCell_same _ _ _ F.c1, (World.cell?_setCell_other _ _ _ _ (by simp)).trans F.c2, (World.cell?_setCell_other _ _ _ _ (by simp)).trans F.c3, fun o => by rw [frozen_setCell]; exact F.fz o,
      row_keep hr2 fun k e => Below.heap_setCell _ _ _ _ (fun e2 => hne (by cases e; exact e2))⟩
  have c : Chn (fun t => t = .file n ∨ t = .data n) L.own w (w.setCell ⟨L.loc n, 1, none⟩ (.slice (some ⟨g, 0, none⟩) x cap)) := (Chn.refl _ _ _).setCell (fun _ => .inl (h.tags.loc n h1 h2)) _
  have fin := h.reData h1 h2 c hf (.inl (by rw [hv]; rfl))
  exact ⟨fin.1, fin.2, c.mono (fun t e => by rcases e with e | e <;> rw [e] <;> simp)⟩

theorem cutStep_keep (choice : List Int) (a : Nat) (S : DS) (n : Nat) (h : ¬ (S.file n).safe < (S.file n).data.length) :
    cutStep choice (a, S) n = (a, { S.setF n ⟨(S.file n).data, (S.file n).data.length, true⟩ with used := S.used + ((S.file n).data.length : Int) }) := by
  unfold cutStep cutF
  simp only [if_neg h]
theorem cutStep_cut (choice : List Int) (a : Nat) (S : DS) (n x : Nat) (h : (S.file n).safe < (S.file n).data.length) (hx : x = (S.file n).safe + pickN choice a ((S.file n).data.length - (S.file n).safe)) :
    cutStep choice (a, S) n = (a + 1, { S.setF n ⟨(S.file n).data.take x, x, true⟩ with used := S.used + (x : Int) }) := by
  unfold cutStep cutF
  have hl := pickN_le choice a ((S.file n).data.length - (S.file n).safe)
  have e : ((S.file n).data.take x).length = x := by rw [List.length_take]; omega
  simp only [if_pos h, ← hx, e]

end Go.Proofs.YtdffpbfllekcgaaGreatDoor
namespace Go.Proofs.YtdffpbfllekcgaaGreatDoor
set_option maxRecDepth 100000
open Go.RowKit M

/-- as far as Restart has come -/
structure RAt (w0 wr : World) (L : Lay) (S : DS) (Lk : Lay) : Prop where
  d : DiskAt wr Lk S
  b : Lk.b = L.b
  loc : Lk.loc = L.loc
  own : ∀ k, k < w0.heap.size → Lk.own k = L.own k
  chn : Chn (fun t => t ≠ .free) L.own w0 wr

/-- one file more -/
theorem RAt.next {w0 wr w1 w2 : World} {L Lk : Lay} {b : Nat} {S S' : DS} (h : RAt w0 wr L S Lk) (d : DiskAt w1 Lk S') (c : Chn (fun t => t ≠ .free) Lk.own wr w1) (_ : b = Lk.b) (e1 : w2.heap = w1.heap) (e2 : w2.os = w1.os) (e3 : w2.tape = w1.tape) (e4 : w2.output = w1.output) : RAt w0 w2 L S' Lk := by
  refine ⟨d.keep (by rw [e1]; exact Nat.le_refl _) (fun k _ => by rw [e1]), h.b, h.loc, h.own, ?_⟩
  refine ⟨e2.trans (c.os.trans h.chn.os), e3.trans (c.tape.trans h.chn.tape), e4.trans (c.output.trans h.chn.output), by rw [e1]; exact Nat.le_trans h.chn.size c.size, fun k hk hn => ?_⟩
  rw [e1]
  exact (c.block k (Nat.lt_of_lt_of_le hk h.chn.size) (by rw [h.own k hk]; exact hn)).trans (h.chn.block k hk hn)
/-- .. which is cut -/
theorem RAt.cut {w0 wr w1 w2 : World} {L Lk L' : Lay} {S S1 S' : DS} (h : RAt w0 wr L S Lk) (a : DiskAt w1 L' S1) (eb : L'.b = Lk.b) (el : L'.loc = Lk.loc) (eo : ∀ k, k < wr.heap.size → L'.own k = Lk.own k) (ca : Chn (fun t => t ≠ .free) Lk.own wr w1) {wx : World} (d : DiskAt wx L' S') (c : Chn (fun t => t ≠ .free) L'.own w1 wx)
    (e1 : w2.heap = wx.heap) (e2 : w2.os = wx.os) (e3 : w2.tape = wx.tape) (e4 : w2.output = wx.output) : RAt w0 w2 L S' L' := by
  have hs := a.b_lt
  have h' : RAt w0 w1 L S1 L' := by
    refine ⟨a, eb.trans h.b, el.trans h.loc, fun k hk => (eo k (Nat.lt_of_lt_of_le hk h.chn.size)).trans (h.own k hk), ?_⟩
    refine ⟨ca.os.trans h.chn.os, ca.tape.trans h.chn.tape, ca.output.trans h.chn.output, Nat.le_trans h.chn.size ca.size, fun k hk hn => ?_⟩
    exact (ca.block k (Nat.lt_of_lt_of_le hk h.chn.size) (by rw [h.own k hk]; exact hn)).trans (h.chn.block k hk hn)
  exact h'.next d c (b := L'.b) rfl e1 e2 e3 e4

theorem IntsIn.keep0 {w w' : World} {v : Value} {xs : List Int} (h : IntsIn w v xs) (hs : w.heap.size ≤ w'.heap.size) (hk : 0 < xs.length → ∀ b, v.ownBlock = some b → b < w.heap.size → w'.heap[b]? = w.heap[b]?) : IntsIn w' v xs := by
  rcases Nat.eq_zero_or_pos xs.length with h0 | h0
  · exact ⟨h.val, fun h1 => by omega, h.len, h.rng⟩
  · exact h.keep hs (hk h0)

set_option maxRecDepth 100000 in
set_option maxHeartbeats 2000000 in
theorem restart_any (L : Lay) (S : DS) (v : Value) (choice : List Int) (w : World) (h : DiskAt w L S) (hf : Fine S) (hro : RestOk S choice) (hv : IntsIn w v choice) (hvf : ∀ k, 0 < choice.length → v.ownBlock = some k → L.own k = .free) :
    Calls Tryz.prog 17 #[.pointer (some ⟨L.b, 0, none⟩), v] w (RanP L w (.tuple #[]) (restartS S choice)) := by
  obtain ⟨ho1, ho2, ho3⟩ := hro
  have hlen : ∃ q cap, L.ch = .slice q S.chg.length cap := by
    rcases h.chg.2 with ⟨e, h0⟩ | ⟨g, cap, cur, e, _⟩
    · exact ⟨none, 0, by rw [e, h0]⟩
    · exact ⟨_, _, e⟩
  obtain ⟨q, cap, hch⟩ := hlen
  have c2 := h.head.c2
  rw [hch] at c2
  have cc : Calls Tryz.prog 34 #[v, .int .i64 0, .int .i64 (S.chg.length : Int)] w fun e w' => e = .returned (.int .i64 ((pickN choice 0 S.chg.length : Nat) : Int)) ∧ w = w' := chosen_any v choice 0 S.chg.length w hv (by omega) (by have := hf.chg; omega)
  have cs := settle_any L S (pickN choice 0 S.chg.length) w h hf.set (pickN_le _ _ _)
  have hmade : (rest0 S choice).made = S.made := rfl
  rw [restart_eq]
  have CC := Box.mk cc; have CS := Box.mk cs; have HV := Box.mk hv; have HVF := Box.mk hvf; have HO1 := Box.mk ho1; have HO2 := Box.mk ho2; have HO3 := Box.mk ho3; have HD := Box.mk h
  have hcl : ∀ w1 L1, DiskAt w1 L1 (settleS S (pickN choice 0 S.chg.length)) → L1.b = L.b → ∀ o, MapL (w1.alloc o) w1.heap.size L1.loc (settleS S (pickN choice 0 S.chg.length)).safe → ∃ L2,
      DiskAt (((w1.setCell ⟨L.b, 0, none⟩ (.map (some w1.heap.size))).setCell ⟨L.b, 5, none⟩ (.int .i64 0)).alloc o) L2 (rest0 S choice) ∧ L2.b = L.b ∧ (∀ k, k < w1.heap.size → L2.own k = L1.own k) ∧
      Chn (fun t => t ≠ .free) L1.own w1 (((w1.setCell ⟨L.b, 0, none⟩ (.map (some w1.heap.size))).setCell ⟨L.b, 5, none⟩ (.int .i64 0)).alloc o) ∧
      Calls Tryz.prog 36 #[.pointer (some ⟨L.b, 0, none⟩)] (((w1.setCell ⟨L.b, 0, none⟩ (.map (some w1.heap.size))).setCell ⟨L.b, 5, none⟩ (.int .i64 0)).alloc o) (OldP (w1.heap.size + 1) L2 (oldest (rest0 S choice).names) (((w1.setCell ⟨L.b, 0, none⟩ (.map (some w1.heap.size))).setCell ⟨L.b, 5, none⟩ (.int .i64 0)).alloc o)) := fun w1 L1 d1 eb o hm => by
    obtain ⟨a, b⟩ := d1.reClone o hm
    have t := a.tags.b
    have hs : (((w1.setCell ⟨L.b, 0, none⟩ (.map (some w1.heap.size))).setCell ⟨L.b, 5, none⟩ (.int .i64 0)).alloc o).heap.size = w1.heap.size + 1 := by simp [World.setCell]
    have e := World.setCell_alloc_past (w := w1.setCell ⟨L.b, 0, none⟩ (.map (some w1.heap.size))) o L.b 5 (.int .i64 0) (by simp [World.setCell]; rw [← eb]; exact d1.b_lt)
    have c : DiskAt (((w1.setCell ⟨L1.b, 0, none⟩ (.map (some w1.heap.size))).alloc o).setCell ⟨L1.b, 5, none⟩ (.int .i64 0)) { L1 with nb := w1.heap.size, own := fun k => if k = w1.heap.size then .names else L1.own k } (rest0 S choice) :=
      a.reHead ((Chn.refl _ _ _).setCell (fun _ => t) _) (a.head.s5 0) rfl rfl rfl rfl rfl
    have k : Chn (fun t => t ≠ .free) L1.own w1 (((w1.setCell ⟨L1.b, 0, none⟩ (.map (some w1.heap.size))).alloc o).setCell ⟨L1.b, 5, none⟩ (.int .i64 0)) := b.setCell (fun _ => by show L1.own L1.b ≠ .free; rw [d1.tags.b]; simp) _
    rw [eb] at c k
    rw [e] at c k
    have oc := oldest_any _ _ _ c HO2.out HO1.out
    rw [hs] at oc
    refine ⟨_, c, rfl, fun k hk => ?_, k, oc⟩
    show (if k = w1.heap.size then Tag.names else L1.own k) = L1.own k
    rw [if_neg (by omega)]
  have HCL := Box.mk hcl
  clear cc cs hcl hv hvf ho1 ho2 ho3 h hf hch
  go_enter Tryz.func17, Tryz.ntmps17
  go_wp2_with (first
    | (go_at_call 34; ((with_reducible refine CC.out.mono ?_); rintro e w' ⟨rfl, rfl⟩))
    | (go_at_call 33; ((with_reducible refine CS.out.mono ?_); rintro e w1 ⟨rfl, r1⟩; obtain ⟨L1, d1, eb, eo, ch1⟩ := r1; have x1 := d1.head.c1; have x0 := d1.head.c0; have z0 := d1.head.fz 0; have x5 := d1.head.c5; have z5 := d1.head.fz 5; have hb1 := d1.b_lt; rw [eb] at x1 x0 z0 x5 z5 hb1; have D1 := Box.mk d1; have EB := Box.mk eb; have EO := Box.mk eo; have CH1 := Box.mk ch1; have CL := Box.mk (clone_any L1.sb L1.loc _ w1 d1.safe); clear d1 eb eo ch1))
    | (go_at_call 35; ((with_reducible refine CL.out.mono ?_); rintro e w' ⟨rfl, o, rfl, hm⟩; obtain ⟨L2, d2, eb2, eo2, ch2, oc⟩ := HCL.out w1 L1 D1.out EB.out o hm; have D2 := Box.mk d2; have EB2 := Box.mk eb2; have EO2 := Box.mk eo2; have CH2 := Box.mk ch2; have OC := Box.mk oc; clear hm d2 eb2 eo2 ch2 oc))
    | (go_at_call 36; ((with_reducible refine OC.out.mono ?_); rintro e w3 ⟨v3, rfl, hf3, hk3, hb3⟩; obtain ⟨q3, cap3, rfl⟩ := hf3.val; have D3 := Box.mk (D2.out.below (hb3.mono (by simp [World.setCell]))); have HF3 := Box.mk hf3; have HK3 := Box.mk hk3; have HB3 := Box.mk hb3; clear hf3 hk3 hb3)))
  obtain ⟨ys, hys⟩ : ∃ ys, ys = oldest (rest0 S choice).names := ⟨_, rfl⟩
  rw [← hys] at HO3 HF3 ⊢
  obtain ⟨m, hm⟩ : ∃ m, m = ys.length := ⟨_, rfl⟩
  rw [← hm]
  have hlm : ys.length ≤ 1099511627776 := by rw [hys]; unfold oldest; rw [List.length_mergeSort, List.length_map]; exact HO1.out
  have hW : (((w1.setCell ⟨L.b, 0, none⟩ (.map (some w1.heap.size))).setCell ⟨L.b, 5, none⟩ (.int .i64 0)).alloc o).heap.size = w1.heap.size + 1 := by simp [World.setCell]
  -- the choice and the list lie apart from the disk
  have hfree3 : ∀ k, w1.heap.size + 1 ≤ k → L2.own k = .free := fun k hk => D2.out.tags.out k (by rw [hW]; exact hk)
  have hvo : ∀ k, 0 < choice.length → v.ownBlock = some k → k < w.heap.size → L2.own k = .free ∧ w3.heap[k]? = w.heap[k]? := fun k h0 hk hl => by
    have h1 := HVF.out k h0 hk
    have h2 : L1.own k = .free := (EO.out k hl).trans h1
    have hl1 : k < w1.heap.size := Nat.lt_of_lt_of_le hl CH1.out.size
    have h3 : L2.own k = .free := (EO2.out k hl1).trans h2
    refine ⟨h3, ?_⟩
    rw [HB3.out.block k (by omega), CH2.out.block k hl1 (by rw [h2]; simp), CH1.out.block k hl (by rw [h1]; simp)]
  have hv3 : IntsIn w3 v choice := HV.out.keep0 (Nat.le_trans CH1.out.size (Nat.le_trans CH2.out.size HB3.out.size)) (fun h0 b e hb => (hvo b h0 e hb).2)
  have hg3 : ∀ g c, Value.slice q3 ys.length cap3 = .slice (some ⟨g, 0, none⟩) ys.length c → L2.own g = .free := fun g c e => hfree3 g (HK3.out g (by
    have : (Value.slice q3 ys.length cap3).ownBlock = some g := by rw [e]; rfl
    rw [← hys]; exact this))
  have c30 := EB2.out
  have HYS := Box.mk hys; have HV3 := Box.mk hv3; have HVO := Box.mk hvo; have HG3 := Box.mk hg3; have HM := Box.mk hm; have HLM := Box.mk hlm
  have W13 := Box.mk (Nat.le_trans CH1.out.size (Nat.le_trans CH2.out.size HB3.out.size))
  clear hv3 hvo hg3 hm hlm hW hfree3 hys c30
  go_loopw [4, 31] (fun a i wr => ∃ (k : Nat) (ak : Nat) (Sk : DS) (Lk : Lay), k ≤ m ∧ i = .int .i64 (k : Int) ∧ a = .int .i64 (ak : Int) ∧ ((ys.take k).foldl (cutStep choice) (1, rest0 S choice)) = (ak, Sk) ∧ Box (RAt w3 wr L2 Sk Lk)) (fun _ i _ => m - (intOf i).toNat)
  case atStart => exact ⟨0, 1, _, L2, by omega, rfl, rfl, rfl, ⟨⟨D3.out, rfl, rfl, fun _ _ => rfl, Chn.refl _ _ _⟩⟩⟩
  case round =>
    obtain ⟨k, ak, Sk, Lk, hk, rfl, rfl, hfold, hat⟩ := hrel
    have hm40 : m ≤ 1099511627776 := by rw [HM.out]; exact HLM.out
    by_cases hlt : k < m
    · obtain ⟨n, hn⟩ : ∃ n, ys[k]? = some n := ⟨_, List.getElem?_eq_getElem (by rw [← HM.out]; omega)⟩
      obtain ⟨g3, cp, hv3e, hg3l, hcells⟩ := HF3.out.cells (by rw [← HM.out]; omega)
      have hcell := hcells k (by rw [← HM.out]; exact hlt)
      have hnd : ys.getD k 0 = n := by simp [List.getD, hn]
      rw [hnd] at hcell
      obtain ⟨u1, u2, u3, u4⟩ := HO3.out k n hn
      rw [hfold] at u1 u2 u3 u4
      simp only at u1 u2 u3 u4
      have hmk : Sk.made = S.made := by
        have := (cutStep_made choice (ys.take k) (1, rest0 S choice)).1
        rw [hfold] at this; exact this
      have hak : ak ≤ 1 + m := by
        have := (cutStep_made choice (ys.take k) (1, rest0 S choice)).2
        rw [hfold] at this
        have h2 : (ys.take k).length ≤ ys.length := by rw [List.length_take]; omega
        rw [← HM.out] at h2
        simp only at this; omega
      have hn12 : 1 ≤ n ∧ n ≤ Sk.made := by
        rw [hmk]
        have hmem : n ∈ oldest (rest0 S choice).names := HYS.out ▸ List.mem_of_getElem? hn
        unfold oldest at hmem
        obtain ⟨p, hp, rfl⟩ := List.mem_map.1 ((List.mergeSort_perm _ _).mem_iff.1 hmem)
        exact HO2.out p hp
      obtain ⟨h1, h2⟩ := hn12
      have hb : Lk.b = L.b := hat.out.b.trans EB2.out
      have hl : Lk.loc n = L2.loc n := by rw [hat.out.loc]
      have hgl : wr.heap[g3]? = w3.heap[g3]? := hat.out.chn.block g3 hg3l (by rw [HG3.out g3 cp hv3e]; simp)
      have yc := (cell_keep (o := k) hgl).trans hcell
      have hg3r : g3 < wr.heap.size := Nat.lt_of_lt_of_le hg3l hat.out.chn.size
      injection hv3e with e1 _ e3
      subst e1 e3
      have F := hat.out.d.file n h1 h2
      have hdat : ∃ q cap, Lk.dat n = .slice q (Sk.file n).data.length cap := by
        rcases F.row.2 with ⟨e, h0⟩ | ⟨g, cap, cur, e, _⟩
        · exact ⟨none, 0, by rw [e, h0]⟩
        · exact ⟨_, _, e⟩
      have f1 := F.c1; have f2 := F.c2; have f3 := F.c3; have z1 := F.fz 1; have z2 := F.fz 2; have z3 := F.fz 3
      have c5 := hat.out.d.head.c5; have z5 := hat.out.d.head.fz 5
      have hne := hat.out.d.loc_ne h1 h2
      have hpl := hat.out.d.loc_lt h1 h2
      have hbl := hat.out.d.b_lt
      rw [hl] at f1 f2 f3 z1 z2 z3 hne hpl
      rw [hb] at c5 z5 hne hbl
      have hne2 := Ne.symm hne
      have hstep : (ys.take (k + 1)).foldl (cutStep choice) (1, rest0 S choice) = cutStep choice (ak, Sk) n := by
        rw [List.take_add_one, hn, Option.toList_some, List.foldl_append, hfold]; rfl
      obtain ⟨x, hx⟩ : ∃ x : Int, x = ((Sk.file n).data.length : Int) - ((Sk.file n).safe : Int) := ⟨_, rfl⟩
      have e1 : IntKind.i64.wrap (((Sk.file n).data.length : Int) - ((Sk.file n).safe : Int)) = x := by rw [IntWalk.i64_in _ (by omega)]; exact hx.symm
      by_cases hcut : (Sk.file n).safe < (Sk.file n).data.length
      · obtain ⟨gd, cd, hdat, hcd⟩ : ∃ g c, Lk.dat n = .slice (some ⟨g, 0, none⟩) (Sk.file n).data.length c ∧ (Sk.file n).data.length ≤ c := by
          rcases F.row.2 with ⟨e, h0⟩ | ⟨g, c, cur, e, _, _, hnc, _⟩
          · omega
          · exact ⟨g, c, e, hnc⟩
        have hcm : cd ≤ maxLen := by
          rcases F.row.2 with ⟨e, h0⟩ | ⟨g, c, cur, e, _, _, _, hcm, _⟩
          · omega
          · rw [hdat] at e; injection e with _ _ e; rw [e]; exact hcm
        unfold maxLen at hcm
        rw [hdat] at f1
        obtain ⟨xr, hxr⟩ : ∃ xr : Nat, xr = (Sk.file n).data.length - (Sk.file n).safe := ⟨_, rfl⟩
        have hxe : x = (xr : Int) := by omega
        rw [hxe] at e1
        have hpos : 0 < xr := by omega
        obtain ⟨c0, hc0⟩ : ∃ c0, c0 = pickN choice ak xr := ⟨_, rfl⟩
        have hle : c0 ≤ xr := by rw [hc0]; exact pickN_le _ _ _
        obtain ⟨X, hX⟩ : ∃ X, X = (Sk.file n).safe + c0 := ⟨_, rfl⟩
        have e2 : IntKind.i64.wrap (((Sk.file n).safe : Int) + (c0 : Int)) = (X : Int) := by rw [IntWalk.i64_in _ (by omega)]; omega
        have hXl : X ≤ (Sk.file n).data.length := by omega
        obtain ⟨y, hy⟩ : ∃ y : Int, y = Sk.used + (X : Int) := ⟨_, rfl⟩
        have e3 : IntKind.i64.wrap (Sk.used + (X : Int)) = y := by rw [IntWalk.i64_in _ (by omega)]; exact hy.symm
        have hvr : IntsIn wr v choice := HV.out.keep0 (Nat.le_trans W13.out hat.out.chn.size) (fun h0 b e hb => (hat.out.chn.block b (Nat.lt_of_lt_of_le hb W13.out) (by rw [(HVO.out b h0 e hb).1]; simp)).trans (HVO.out b h0 e hb).2)
        have hcho : ∀ nn, Calls Tryz.prog 34 #[v, .int .i64 (ak : Int), .int .i64 (xr : Int)] ((wr.drewN nn).drew) fun e w' => e = .returned (.int .i64 (c0 : Int)) ∧ w' = (wr.drewN nn).drew := fun nn => by
          rw [hc0]
          exact (chosen_any v choice ak xr ((wr.drewN nn).drew) ⟨hvr.val, hvr.cells, hvr.len, hvr.rng⟩ (by omega) (by omega)).mono (fun e w' h => ⟨h.1, h.2.symm⟩)
        obtain ⟨A1, A2, A3⟩ := cut_data hat.out.d h1 h2 hdat hXl
        obtain ⟨LA, hLA⟩ : ∃ LA, LA = ({ Lk with dat := fun i => if i = n then .slice (some ⟨gd, 0, none⟩) X cd else Lk.dat i, own := retag Lk.own (.slice (some ⟨gd, 0, none⟩) X cd) (.data n) } : Lay) := ⟨_, rfl⟩
        have bLA : LA.b = Lk.b := by rw [hLA]
        have lLA : LA.loc = Lk.loc := by rw [hLA]
        have oLA : ∀ k, k < wr.heap.size → LA.own k = Lk.own k := by rw [hLA]; exact A2
        rw [← hLA] at A1
        have fin := cut_end A1 (n := n) h1 h2 y (len := X) (by show y = Sk.used + (X : Int); exact hy)
        rw [setF_at, setF_twice] at fin
        rw [bLA, lLA, hl, hb] at fin
        rw [hl] at A1 A3
        rw [cutStep_cut choice ak Sk n X hcut (by rw [hX, hc0, hxr])] at hstep
        have FIN := Box.mk fin; have HS := Box.mk hstep; have HAT := hat; have HCHO := Box.mk hcho; have HA1 := Box.mk A1; have HA3 := Box.mk A3; have BLA := Box.mk bLA; have LLA := Box.mk lLA; have OLA := Box.mk oLA
        obtain ⟨ln, hln⟩ : ∃ ln, ln = (Sk.file n).data.length := ⟨_, rfl⟩
        rw [← hln] at f1 e1 u3 hXl hcd
        clear hdat fin hstep hcut hn hfold F hl hx hxe hxr hy hln hat hvr hcho A1 A2 A3 hLA bLA lLA oLA hc0 hX
        go_wp2_with fail
        go_quiet (fail)
        go_wp2_with fail
        have q1 : (wr.drewN nq).cell? ⟨L2.loc n, 1, none⟩ = some (.slice (some ⟨gd, 0, none⟩) ln cd) := f1
        have q2 : (wr.drewN nq).cell? ⟨L2.loc n, 2, none⟩ = some (.int .i64 ((Sk.file n).safe : Int)) := f2
        have q3 : (wr.drewN nq).cell? ⟨L2.loc n, 3, none⟩ = some (.bool (Sk.file n).named) := f3
        have r1 : (wr.drewN nq).frozen? ⟨L2.loc n, 1, none⟩ = false := z1
        have r2 : (wr.drewN nq).frozen? ⟨L2.loc n, 2, none⟩ = false := z2
        have r3 : (wr.drewN nq).frozen? ⟨L2.loc n, 3, none⟩ = false := z3
        have q5 : (wr.drewN nq).cell? ⟨L.b, 5, none⟩ = some (.int .i64 Sk.used) := c5
        have r5 : (wr.drewN nq).frozen? ⟨L.b, 5, none⟩ = false := z5
        have hcn := HCHO.out nq
        have HCN := Box.mk hcn
        clear hcn
        generalize hWq : wr.drewN nq = Wq at q1 q2 q3 r1 r2 r3 q5 r5 HCN ⊢
        have HWQ := Box.mk hWq
        clear hWq
        have hXc : X ≤ cd := by omega
        have hXi : (X : Int) ≤ (cd : Int) := by omega
        have hX0 : (0 : Int) ≤ (X : Int) := by omega
        go_still_tail 17, (by kernel_rfl)
        still_call HCN.out
        repeat still_step
        refine wpStill_nil ?_
        change wpList _ _ _ _ _ Wq.drew
        go_wp2_with fail
        have g5 : ((((Wq.setCell ⟨L2.loc n, 1, none⟩ (.slice (some ⟨gd, 0, none⟩) X cd)).setCell ⟨L2.loc n, 2, none⟩ (.int .i64 (X : Int))).setCell ⟨L2.loc n, 3, none⟩ (.bool true)).drew).cell? ⟨L.b, 5, none⟩ = some (.int .i64 Sk.used) := by
          show ((((Wq.setCell ⟨L2.loc n, 1, none⟩ (.slice (some ⟨gd, 0, none⟩) X cd)).setCell ⟨L2.loc n, 2, none⟩ (.int .i64 (X : Int))).setCell ⟨L2.loc n, 3, none⟩ (.bool true))).cell? ⟨L.b, 5, none⟩ = _
          rw [World.cell?_setCell_other _ _ _ _ (by intro e; injection e with e; exact hne e), World.cell?_setCell_other _ _ _ _ (by intro e; injection e with e; exact hne e), World.cell?_setCell_other _ _ _ _ (by intro e; injection e with e; exact hne e)]; exact q5
        have g2 : ((((Wq.setCell ⟨L2.loc n, 1, none⟩ (.slice (some ⟨gd, 0, none⟩) X cd)).setCell ⟨L2.loc n, 2, none⟩ (.int .i64 (X : Int))).setCell ⟨L2.loc n, 3, none⟩ (.bool true)).drew).cell? ⟨L2.loc n, 2, none⟩ = some (.int .i64 (X : Int)) := by
          show ((((Wq.setCell ⟨L2.loc n, 1, none⟩ (.slice (some ⟨gd, 0, none⟩) X cd)).setCell ⟨L2.loc n, 2, none⟩ (.int .i64 (X : Int))).setCell ⟨L2.loc n, 3, none⟩ (.bool true))).cell? ⟨L2.loc n, 2, none⟩ = _
          rw [World.cell?_setCell_other _ _ _ _ (by simp)]
          exact World.cell?_setCell_same _ _ _ ((World.cell?_setCell_other _ _ _ _ (by simp)).trans q2)
        have gz : ((((Wq.setCell ⟨L2.loc n, 1, none⟩ (.slice (some ⟨gd, 0, none⟩) X cd)).setCell ⟨L2.loc n, 2, none⟩ (.int .i64 (X : Int))).setCell ⟨L2.loc n, 3, none⟩ (.bool true)).drew).frozen? ⟨L.b, 5, none⟩ = false := by
          show ((((Wq.setCell ⟨L2.loc n, 1, none⟩ (.slice (some ⟨gd, 0, none⟩) X cd)).setCell ⟨L2.loc n, 2, none⟩ (.int .i64 (X : Int))).setCell ⟨L2.loc n, 3, none⟩ (.bool true))).frozen? ⟨L.b, 5, none⟩ = _
          rw [frozen_setCell, frozen_setCell, frozen_setCell]; exact r5
        generalize hW : (((Wq.setCell ⟨L2.loc n, 1, none⟩ (.slice (some ⟨gd, 0, none⟩) X cd)).setCell ⟨L2.loc n, 2, none⟩ (.int .i64 (X : Int))).setCell ⟨L2.loc n, 3, none⟩ (.bool true)).drew = W at g5 g2 gz ⊢
        have HW := Box.mk hW
        clear hW
        go_still_tail 11, (by kernel_rfl)
        change wpList _ _ _ _ _ W.drew
        go_wp2_with fail
        go_roundw
        case rel =>
          refine ⟨k + 1, ak + 1, _, LA, by omega, by go_num, by go_num, HS.out, ⟨?_⟩⟩
          have hW := HW.out
          have hWq := HWQ.out
          subst hW
          subst hWq
          exact RAt.cut HAT.out HA1.out BLA.out LLA.out OLA.out HA3.out FIN.out.1 FIN.out.2 rfl rfl rfl rfl
        case measure => simp [intOf]; omega
      · obtain ⟨qd, cd, hdat⟩ := hdat
        rw [hdat] at f1
        have hxn : decide (0 < x) = false := by simp; omega
        have hxn' : x ≤ 0 := by omega
        obtain ⟨y, hy⟩ : ∃ y : Int, y = Sk.used + ((Sk.file n).data.length : Int) := ⟨_, rfl⟩
        have e2 : IntKind.i64.wrap (Sk.used + ((Sk.file n).data.length : Int)) = y := by rw [IntWalk.i64_in _ (by omega)]; exact hy.symm
        have fin := cut_end hat.out.d h1 h2 y (len := (Sk.file n).data.length) hy
        rw [hl, hb] at fin
        rw [cutStep_keep choice ak Sk n hcut] at hstep
        have FIN := Box.mk fin; have HS := Box.mk hstep; have HAT := hat
        obtain ⟨ln, hln⟩ : ∃ ln, ln = (Sk.file n).data.length := ⟨_, rfl⟩
        rw [← hln] at f1 e1 e2 u3 hx hy FIN HS
        clear hdat fin hstep hcut hn hfold F hl hx hy hln hat
        go_wp2_with fail
        go_quiet (fail)
        go_wp2_with fail
        have g5 : (((wr.drewN nq).setCell ⟨L2.loc n, 2, none⟩ (.int .i64 (ln : Int))).setCell ⟨L2.loc n, 3, none⟩ (.bool true)).cell? ⟨L.b, 5, none⟩ = some (.int .i64 Sk.used) := by
          rw [World.cell?_setCell_other _ _ _ _ (by intro e; injection e with e; exact hne e), World.cell?_setCell_other _ _ _ _ (by intro e; injection e with e; exact hne e)]; exact c5
        have g2 : (((wr.drewN nq).setCell ⟨L2.loc n, 2, none⟩ (.int .i64 (ln : Int))).setCell ⟨L2.loc n, 3, none⟩ (.bool true)).cell? ⟨L2.loc n, 2, none⟩ = some (.int .i64 (ln : Int)) := by
          rw [World.cell?_setCell_other _ _ _ _ (by simp)]; exact World.cell?_setCell_same _ _ _ f2
        have gz : (((wr.drewN nq).setCell ⟨L2.loc n, 2, none⟩ (.int .i64 (ln : Int))).setCell ⟨L2.loc n, 3, none⟩ (.bool true)).frozen? ⟨L.b, 5, none⟩ = false := by
          rw [frozen_setCell, frozen_setCell]; exact z5
        generalize hW : ((wr.drewN nq).setCell ⟨L2.loc n, 2, none⟩ (.int .i64 (ln : Int))).setCell ⟨L2.loc n, 3, none⟩ (.bool true) = W at g5 g2 gz ⊢
        have HW := Box.mk hW
        clear hW
        go_still_tail 11, (by kernel_rfl)
        change wpList _ _ _ _ _ W.drew
        go_wp2_with fail
        go_roundw
        case rel =>
          refine ⟨k + 1, ak, _, Lk, by omega, by go_num, rfl, HS.out, ⟨?_⟩⟩
          have hW := HW.out
          subst hW
          exact RAt.next HAT.out FIN.out.1 FIN.out.2 hb.symm rfl rfl rfl rfl
        case measure => simp [intOf]; omega
    · obtain rfl : m = k := by omega
      have hall : ys.take m = ys := List.take_of_length_le (by rw [← HM.out]; exact Nat.le_refl _)
      rw [hall] at hfold
      have a := hat.out
      have hb : Lk.b = L.b := a.b.trans EB2.out
      have c6 := a.d.head.c6; have c7 := a.d.head.c7; have c8 := a.d.head.c8
      have z6 := a.d.head.fz 6; have z7 := a.d.head.fz 7; have z8 := a.d.head.fz 8
      have hbl := a.d.b_lt
      rw [hb] at c6 c7 c8 z6 z7 z8 hbl
      have fin : DiskAt (((wr.setCell ⟨Lk.b, 6, none⟩ (.int .i64 (-1))).setCell ⟨Lk.b, 7, none⟩ (.int .i64 (-1))).setCell ⟨Lk.b, 8, none⟩ (.bool false)) Lk { Sk with crash := -1, fail := -1, dead := false } :=
        a.d.reHead ((((Chn.refl _ _ _).setCell (fun _ => a.d.tags.b) _).setCell (fun _ => a.d.tags.b) _).setCell (fun _ => a.d.tags.b) _) (((a.d.head.s6 (-1)).s7 (-1)).s8 false) rfl rfl rfl rfl rfl
      have hc : Chn (fun t => t ≠ .free) Lk.own wr (((wr.setCell ⟨Lk.b, 6, none⟩ (.int .i64 (-1))).setCell ⟨Lk.b, 7, none⟩ (.int .i64 (-1))).setCell ⟨Lk.b, 8, none⟩ (.bool false)) :=
        (((Chn.refl _ _ _).setCell (fun _ => by show Lk.own Lk.b ≠ .free; rw [a.d.tags.b]; simp) _).setCell (fun _ => by show Lk.own Lk.b ≠ .free; rw [a.d.tags.b]; simp) _).setCell (fun _ => by show Lk.own Lk.b ≠ .free; rw [a.d.tags.b]; simp) _
      rw [hb] at fin hc
      have r3 := a.next fin hc hb.symm rfl rfl rfl rfl
      have R3 := Box.mk r3
      have HF := Box.mk hfold
      clear a fin hc r3 hfold hall hb hat
      go_wp2_with fail
      go_end0
      rw [← HYS.out, HF.out]
      have r := R3.out
      have R : Ran w3 L2 _ _ := ⟨Lk, r.d, r.b, r.own, r.chn⟩
      have R' := Ran.after (L := L1) (w := w1) (CH2.out.trans (Chn.of_below (HB3.out.mono (by simp [World.setCell])))) (EB2.out.trans EB.out.symm) EO2.out R
      exact ⟨rfl, Ran.after CH1.out EB.out EO.out R'⟩

end Go.Proofs.YtdffpbfllekcgaaGreatDoor
namespace Go.Proofs.YtdffpbfllekcgaaGreatDoor
set_option maxRecDepth 100000
open Go.RowKit M

def insN (x : Nat) : List Nat → List Nat
  | [] => [x]
  | y :: l => if x ≤ y then x :: y :: l else y :: insN x l
def isort : List Nat → List Nat
  | [] => []
  | x :: l => insN x (isort l)
theorem insN_perm (x : Nat) (l : List Nat) : (insN x l).Perm (x :: l) := by
  induction l with
  | nil => exact List.Perm.refl _
  | cons y l ih =>
    unfold insN
    split
    · exact List.Perm.refl _
    · exact (List.Perm.cons y ih).trans (List.Perm.swap x y l)
theorem isort_perm (l : List Nat) : (isort l).Perm l := by
  induction l with
  | nil => exact List.Perm.refl _
  | cons x l ih => exact (insN_perm x _).trans (List.Perm.cons x ih)
theorem insN_sorted (x : Nat) (l : List Nat) (h : l.Pairwise (fun a b => a ≤ b)) : (insN x l).Pairwise (fun a b => a ≤ b) := by
  induction l with
  | nil => simp [insN]
  | cons y l ih =>
    obtain ⟨h1, h2⟩ := List.pairwise_cons.1 h
    unfold insN
    split
    · rename_i hxy
      exact List.pairwise_cons.2 ⟨fun a ha => by
        rcases List.mem_cons.1 ha with rfl | ha
        · exact hxy
        · exact Nat.le_trans hxy (h1 a ha), h⟩
    · rename_i hxy
      refine List.pairwise_cons.2 ⟨fun a ha => ?_, ih h2⟩
      rcases List.mem_cons.1 ((insN_perm x l).mem_iff.1 ha) with rfl | ha
      · omega
      · exact h1 a ha
theorem isort_sorted (l : List Nat) : (isort l).Pairwise (fun a b => a ≤ b) := by
  induction l with
  | nil => exact List.Pairwise.nil
  | cons x l ih => exact insN_sorted x _ ih
theorem oldest_eq (l : KL) : oldest l = isort (l.map (·.2)) := by
  refine List.Perm.eq_of_pairwise (le := fun a b => a ≤ b) (fun a b _ _ h1 h2 => Nat.le_antisymm h1 h2) ?_ (isort_sorted _) ?_
  · have := List.pairwise_mergeSort (le := fun a b : Nat => decide (a ≤ b)) (fun a b c h1 h2 => by simp at *; omega) (fun a b => by simp; omega) (l.map (·.2))
    exact this.imp fun h => by simpa using h
  · exact (List.mergeSort_perm _ _).trans (isort_perm _).symm

def restartI (S : DS) (choice : List Int) : DS := { ((isort ((rest0 S choice).names.map (·.2))).foldl (cutStep choice) (1, rest0 S choice)).2 with crash := -1, fail := -1, dead := false }
theorem restartI_eq (S : DS) (choice : List Int) : restartS S choice = restartI S choice := by
  rw [restart_eq, oldest_eq]; rfl

def bigK : Nat := 1099511627776
def fineB (S : DS) : Bool :=
  decide (S.made ≤ bigK) && decide (0 ≤ S.room) && decide (S.room ≤ 9223372036854775807) && decide (0 ≤ S.used) && decide (S.used ≤ 1099511627776) &&
  decide (-1 ≤ S.crash) && decide (S.crash ≤ 9223372036854775807) && decide (-1 ≤ S.fail) && decide (S.fail ≤ 9223372036854775807) && decide (S.calls ≤ bigK) &&
  decide (S.chg.length ≤ bigK) && decide (S.names.length ≤ bigK) && decide (S.safe.length ≤ bigK) && ((List.range (S.made + 1)).all fun n => decide ((S.file n).data.length ≤ bigK)) &&
  (S.names.all fun p => decide (1 ≤ p.2) && decide (p.2 ≤ S.made)) && (S.safe.all fun p => decide (1 ≤ p.2) && decide (p.2 ≤ S.made)) &&
  (S.chg.all fun c => decide (1 ≤ c.file) && decide (c.file ≤ S.made) && (match c.over with | some g => decide (1 ≤ g) && decide (g ≤ S.made) | none => true) && decide (c.src.size ≤ bigK) && decide (c.dst.size ≤ bigK))
theorem Fine.of {S : DS} (h : fineB S = true) : Fine S := by
  unfold fineB at h
  simp only [Bool.and_eq_true, decide_eq_true_eq, List.all_eq_true] at h
  obtain ⟨⟨⟨⟨⟨⟨⟨⟨⟨⟨⟨⟨⟨⟨⟨⟨a1, a2⟩, a3⟩, a4⟩, a5⟩, a6⟩, a7⟩, a8⟩, a9⟩, a10⟩, a11⟩, a12⟩, a13⟩, a14⟩, a15⟩, a16⟩, a17⟩ := h
  refine ⟨a1, a2, a3, a4, a5, a6, a7, a8, a9, a10, a11, a12, a13, fun n _ h2 => a14 n (List.mem_range.2 (by omega)), a15, a16, fun c hc => ?_⟩
  obtain ⟨⟨⟨⟨b1, b2⟩, b3⟩, b4⟩, b5⟩ := a17 c hc
  refine ⟨⟨b1, b2⟩, fun g hg => ?_, Nat.le_trans b4 (by unfold bigK maxLen; omega), Nat.le_trans b5 (by unfold bigK maxLen; omega)⟩
  rw [hg] at b3
  simpa using b3

def relB (S : DS) (n : Nat) : Bool := decide (S.used ≤ 1099511627776) && decide (-1099511627776 ≤ S.used - (S.file n).data.length) && decide ((S.file n).data.length ≤ bigK)
theorem RelOk.of {S : DS} {n : Nat} (h : relB S n = true) : RelOk S n := by
  unfold relB at h
  simp only [Bool.and_eq_true, decide_eq_true_eq] at h
  exact ⟨h.1.1, h.1.2, h.2⟩
def relsB (S : DS) : Bool := (List.range S.chg.length).all fun k => match S.chg[k]? with
  | some c => relB (relAll (beginS S) (S.chg.take k)) c.file && (match c.over with | some g => relB (relF (relAll (beginS S) (S.chg.take k)) c.file) g | none => true)
  | none => true
theorem RelsOk.of {S : DS} (h : relsB S = true) : RelsOk S := by
  intro k c hc
  unfold relsB at h
  rw [List.all_eq_true] at h
  have a := h k (List.mem_range.2 (List.getElem?_eq_some_iff.1 hc).1)
  rw [hc] at a
  simp only [Bool.and_eq_true] at a
  refine ⟨RelOk.of a.1, fun n hn => ?_⟩
  have b := a.2
  rw [hn] at b
  exact RelOk.of b

def restB (S : DS) (choice : List Int) : Bool :=
  decide ((rest0 S choice).names.length ≤ bigK) && ((rest0 S choice).names.all fun p => decide (1 ≤ p.2) && decide (p.2 ≤ S.made)) &&
  ((List.range (rest0 S choice).names.length).all fun k => match (isort ((rest0 S choice).names.map (·.2)))[k]? with
    | some n =>
      let q := ((isort ((rest0 S choice).names.map (·.2))).take k).foldl (cutStep choice) (1, rest0 S choice)
      decide (0 ≤ q.2.used) && decide (q.2.used ≤ 1099511627776) && decide ((q.2.file n).data.length ≤ bigK) && decide ((q.2.file n).safe ≤ bigK)
    | none => true)
theorem isort_length (l : List Nat) : (isort l).length = l.length := (isort_perm l).length_eq
theorem RestOk.of {S : DS} {choice : List Int} (h : restB S choice = true) : RestOk S choice := by
  unfold restB at h
  simp only [Bool.and_eq_true, decide_eq_true_eq, List.all_eq_true] at h
  obtain ⟨⟨a, b⟩, c⟩ := h
  refine ⟨a, b, fun k n hn => ?_⟩
  rw [oldest_eq] at hn ⊢
  have hk : k < (rest0 S choice).names.length := by
    have := (List.getElem?_eq_some_iff.1 hn).1
    rwa [isort_length, List.length_map] at this
  have d := c k (List.mem_range.2 hk)
  rw [hn] at d
  simp only [Bool.and_eq_true, decide_eq_true_eq] at d
  exact ⟨d.1.1.1, d.1.1.2, d.1.2, d.2⟩

def nmA : ByteArray := ⟨#[97]⟩
def nmB : ByteArray := ⟨#[98]⟩
def w0S : DS := newS 100
def w1S : DS := createS w0S nmA
def w2S : DS := appendS w1S nmA [120, 121]
def w3S : DS := syncNamesS w2S
def w4S : DS := restartI w3S [0, 1]
def w5S : DS := createS w4S nmB
def w6S : DS := restartI w5S []
theorem awake_facts : (fineB w0S && fineB w1S && fineB w2S && relsB w2S && fineB w3S && restB w3S [0, 1] && fineB w4S && fineB w5S && restB w5S [] && fineB w6S) = true := by rfl
theorem awake_codes : createC w0S nmA = 0 ∧ appendC w1S nmA [120, 121] = 0 ∧ syncNamesC w2S = 0 ∧ findC w4S nmA = 0 ∧ readD w4S nmA = [120] ∧ createC w4S nmB = 0 ∧ findC w6S nmB = 5 := ⟨by rfl, by rfl, by rfl, by rfl, by rfl, by rfl, by rfl⟩

end Go.Proofs.YtdffpbfllekcgaaGreatDoor
