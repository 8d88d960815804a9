/- Restart, as mathematics and in the heap. -/
import Derived.Test.YtalinhjalnndhaaDiskR
namespace Go.Proofs.Ytalinhjalnndhaa
set_option maxRecDepth 100000
open Go.RowKit M

theorem clone_any (b : Nat) (loc : Nat → Nat) (l : KL) (w : World) (h : MapL w b loc l) :
    Calls Try.prog 45 #[.map (some b)] w fun e w' => e = .returned (.map (some w.heap.size)) ∧ ∃ o, w' = w.alloc o ∧ MapL (w.alloc o) w.heap.size loc l := by
  obtain ⟨es, clock, hb, h2, h3⟩ := h.ex
  have hc : Calls Try.prog 45 #[.map (some b)] w fun e w' => e = .returned (.map (some w.heap.size)) ∧ w' = w.alloc (.map es clock) := AnyW.maps_Clone Try.cloneL b es clock w hb
  exact hc.mono fun e w' ⟨he, hw⟩ => ⟨he, _, hw, ⟨⟨es, clock, (MapKept.heap_alloc w _).1, h2, h3⟩, h.keys, h.nd, h.size⟩⟩

theorem DiskAt.reClone {w : World} {L : Lay} {S : DS} (h : DiskAt w L S) (o : Obj) (hm : MapL (w.alloc o) w.heap.size L.loc S.safe) :
    DiskAt ((w.setCell ⟨L.b, 0, none⟩ (.map (some w.heap.size))).alloc o) { L with nb := w.heap.size, own := fun k => if k = w.heap.size then .names else L.own k } { S with names := S.safe } ∧
    Chn (fun t => t ≠ .free) L.own w ((w.setCell ⟨L.b, 0, none⟩ (.map (some w.heap.size))).alloc o) := by
  have t := h.tags
  have hC : Chn (fun t => t = .disk) L.own w ((w.setCell ⟨L.b, 0, none⟩ (.map (some w.heap.size))).alloc o) := ((Chn.refl _ _ _).setCell (fun _ => t.b) _).alloc _
  refine ⟨?_, hC.mono (fun t e => by rw [e]; simp)⟩
  have hz : (w.setCell ⟨L.b, 0, none⟩ (.map (some w.heap.size))).heap.size = w.heap.size := by simp [World.setCell]
  have hh : Head ((w.setCell ⟨L.b, 0, none⟩ (.map (some w.heap.size))).alloc o) L.b w.heap.size L.sb L.ch S := (h.head.s0 _).keep (Below.heap_alloc _ _ _ (by rw [hz]; exact h.b_lt))
  have kk : ∀ i T, L.own i = T → T ≠ .free → T ≠ .disk → ((w.setCell ⟨L.b, 0, none⟩ (.map (some w.heap.size))).alloc o).heap[i]? = w.heap[i]? := fun i T e h1 h2 => hC.block i (h.own_lt (by rw [e]; exact h1)) (by rw [e]; exact h2)
  have hnew : ((w.setCell ⟨L.b, 0, none⟩ (.map (some w.heap.size))).alloc o).heap[w.heap.size]? = (w.alloc o).heap[w.heap.size]? := by
    have a := (MapKept.heap_alloc (w.setCell ⟨L.b, 0, none⟩ (.map (some w.heap.size))) o).1
    rw [hz] at a
    rw [a, (MapKept.heap_alloc w o).1]
  have oldT : ∀ i T, L.own i = T → T ≠ .free → (if i = w.heap.size then Tag.names else L.own i) = T := fun i T e h1 => by
    have := h.own_lt (k := i) (by rw [e]; exact h1)
    rw [if_neg (by omega)]; exact e
  refine ⟨hh.re ⟨rfl, rfl, rfl, rfl, rfl, rfl, rfl⟩, hm.keep hnew, h.safe.keep (kk _ _ t.sb (by simp) (by simp)), fun m h1 h2 => (h.file m h1 h2).keep (kk _ _ (t.loc m h1 h2) (by simp) (by simp)) (fun i ei => kk _ _ (t.dat m h1 h2 i ei) (by simp) (by simp)),
    row_keep h.chg (fun i e => kk _ _ (t.ch i e) (by simp) (by simp)), ⟨oldT _ _ t.b (by simp), if_pos rfl, oldT _ _ t.sb (by simp), fun k e => oldT _ _ (t.ch k e) (by simp), fun m h1 h2 => oldT _ _ (t.loc m h1 h2) (by simp), fun m h1 h2 k e => oldT _ _ (t.dat m h1 h2 k e) (by simp), fun k hk => ?_⟩⟩
  have hs : ((w.setCell ⟨L.b, 0, none⟩ (.map (some w.heap.size))).alloc o).heap.size = w.heap.size + 1 := by simp [World.setCell]
  rw [hs] at hk
  show (if k = w.heap.size then Tag.names else L.own k) = .free
  rw [if_neg (by omega)]
  exact t.out k (by omega)

/-- one file behind a crash -/
def cutStep (choice : List Int) (q : Nat × DS) (n : Nat) : Nat × DS :=
  (if (q.2.file n).safe < (q.2.file n).data.length then q.1 + 1 else q.1, { q.2.setF n (cutF choice q.1 (q.2.file n)) with used := q.2.used + (cutF choice q.1 (q.2.file n)).data.length })
theorem cutAll_fold (choice : List Int) (l : List Nat) (k : Nat) (S : DS) : cutAll choice l k S = (l.foldl (cutStep choice) (k, S)).2 := by
  induction l generalizing k S with
  | nil => rfl
  | cons n l ih => rw [List.foldl_cons]; exact ih _ _
theorem cutStep_made (choice : List Int) (l : List Nat) (q : Nat × DS) : (l.foldl (cutStep choice) q).2.made = q.2.made ∧ (l.foldl (cutStep choice) q).1 ≤ q.1 + l.length := by
  induction l generalizing q with
  | nil => exact ⟨rfl, Nat.le_refl _⟩
  | cons n l ih =>
    rw [List.foldl_cons]
    obtain ⟨a, b⟩ := ih (cutStep choice q n)
    refine ⟨a, ?_⟩
    have : (cutStep choice q n).1 ≤ q.1 + 1 := by
      unfold cutStep
      simp only
      split
      · exact Nat.le_refl _
      · exact Nat.le_succ _
    simp only [List.length_cons]
    omega

/-- where Restart begins with the files -/
def rest0 (S : DS) (choice : List Int) : DS := { settleS S (pickN choice 0 S.chg.length) with names := (settleS S (pickN choice 0 S.chg.length)).safe, used := 0 }
/-- sizes at all files of Restart -/
def RestOk (S : DS) (choice : List Int) : Prop :=
  (rest0 S choice).names.length ≤ 1099511627776 ∧ (∀ p ∈ (rest0 S choice).names, 1 ≤ p.2 ∧ p.2 ≤ S.made) ∧
  ∀ k n, (oldest (rest0 S choice).names)[k]? = some n →
    0 ≤ (((oldest (rest0 S choice).names).take k).foldl (cutStep choice) (1, rest0 S choice)).2.used ∧ (((oldest (rest0 S choice).names).take k).foldl (cutStep choice) (1, rest0 S choice)).2.used ≤ 1099511627776 ∧
    ((((oldest (rest0 S choice).names).take k).foldl (cutStep choice) (1, rest0 S choice)).2.file n).data.length ≤ 1099511627776 ∧ ((((oldest (rest0 S choice).names).take k).foldl (cutStep choice) (1, rest0 S choice)).2.file n).safe ≤ 1099511627776
theorem restart_eq (S : DS) (choice : List Int) : restartS S choice = { ((oldest (rest0 S choice).names).foldl (cutStep choice) (1, rest0 S choice)).2 with crash := -1, fail := -1, dead := false } := by
  unfold restartS rest0
  simp only [cutAll_fold]

theorem own_take {w : World} {g n cap x : Nat} {l : List Nat} (h : w.ownsRow 0 5 1 (.slice (some ⟨g, 0, none⟩) n cap) n (byts l)) (hx : x ≤ n) : w.ownsRow 0 5 1 (.slice (some ⟨g, 0, none⟩) x cap) (l.take x).length (byts (l.take x)) := by
  have hl : l.length = n := by have := h.1; simpa [byts] using this
  have e : (l.take x).length = x := by rw [List.length_take]; omega
  rw [e]
  refine ⟨by simp [byts]; omega, ?_⟩
  rcases h.2 with ⟨hv, _⟩ | ⟨g', cap', cur, hv, hb, hg, hnc, hcm, hcs, ht⟩
  · cases hv
  · injection hv with e1 e2 e3
    injection e1 with e1
    injection e1 with e1
    subst e1 e3
    refine .inr ⟨g, cap, cur, rfl, hb, hg, by omega, hcm, hcs, ?_⟩
    have e2 : byts (l.take x) = (byts l).take x := by simp [byts]
    rw [e2, ← ht, List.take_take, Nat.mul_one, Nat.mul_one, Nat.min_eq_left hx]

theorem setF_twice (S : DS) (n : Nat) (f g : FileS) : (S.setF n f).setF n g = S.setF n g := by
  unfold DS.setF
  congr 1
  funext i
  show (if i = n then g else if i = n then f else S.file i) = if i = n then g else S.file i
  split <;> rfl
theorem setF_at (S : DS) (n : Nat) (f : FileS) : (S.setF n f).file n = f := if_pos rfl

/-- the end of a file's round -/
theorem cut_end {w : World} {L : Lay} {S : DS} (h : DiskAt w L S) {n : Nat} (h1 : 1 ≤ n) (h2 : n ≤ S.made) (x : Int) {len : Nat} (hx : x = S.used + (len : Int)) :
    DiskAt (((w.setCell ⟨L.loc n, 2, none⟩ (.int .i64 (len : Int))).setCell ⟨L.loc n, 3, none⟩ (.bool true)).setCell ⟨L.b, 5, none⟩ (.int .i64 x)) L { S.setF n ⟨(S.file n).data, len, true⟩ with used := S.used + (len : Int) } ∧
    Chn (fun t => t ≠ .free) L.own w (((w.setCell ⟨L.loc n, 2, none⟩ (.int .i64 (len : Int))).setCell ⟨L.loc n, 3, none⟩ (.bool true)).setCell ⟨L.b, 5, none⟩ (.int .i64 x)) := by
  have a := (h.setSafe h1 h2 len).setNamed (n := n) h1 h2 true
  rw [setF_at, setF_twice] at a
  have t := h.tags
  refine ⟨?_, ((((Chn.refl _ _ _).setCell (fun _ => by show L.own (L.loc n) ≠ .free; rw [t.loc n h1 h2]; simp) _).setCell (fun _ => by show L.own (L.loc n) ≠ .free; rw [t.loc n h1 h2]; simp) _).setCell (fun _ => by show L.own L.b ≠ .free; rw [t.b]; simp) _)⟩
  rw [← hx]
  exact a.reHead ((Chn.refl _ _ _).setCell (fun _ => t.b) _) (a.head.s5 x) rfl rfl rfl rfl rfl

/-- a file is cut -/
theorem cut_data {w : World} {L : Lay} {S : DS} (h : DiskAt w L S) {n : Nat} (h1 : 1 ≤ n) (h2 : n ≤ S.made) {g cap x : Nat} (hv : L.dat n = .slice (some ⟨g, 0, none⟩) (S.file n).data.length cap) (hx : x ≤ (S.file n).data.length) :
    DiskAt (w.setCell ⟨L.loc n, 1, none⟩ (.slice (some ⟨g, 0, none⟩) x cap)) { L with dat := fun i => if i = n then .slice (some ⟨g, 0, none⟩) x cap else L.dat i, own := retag L.own (.slice (some ⟨g, 0, none⟩) x cap) (.data n) } (S.setF n { S.file n with data := (S.file n).data.take x }) ∧
    (∀ k, k < w.heap.size → retag L.own (.slice (some ⟨g, 0, none⟩) x cap) (.data n) k = L.own k) ∧ Chn (fun t => t ≠ .free) L.own w (w.setCell ⟨L.loc n, 1, none⟩ (.slice (some ⟨g, 0, none⟩) x cap)) := by
  have F := h.file n h1 h2
  have hne : g ≠ L.loc n := fun e => h.apart h1 h2 (by rw [hv, ← e]; rfl)
  have hr := F.row
  rw [hv] at hr
  have hr2 := own_take hr hx
  have hf : FileAt (w.setCell ⟨L.loc n, 1, none⟩ (.slice (some ⟨g, 0, none⟩) x cap)) (L.loc n) n (.slice (some ⟨g, 0, none⟩) x cap) { S.file n with data := (S.file n).data.take x } :=
    ⟨(World.cell?_setCell_other _ _ _ _ (by simp)).trans F.c0, World.cell?_setCell_same _ _ _ F.c1, (World.cell?_setCell_other _ _ _ _ (by simp)).trans F.c2, (World.cell?_setCell_other _ _ _ _ (by simp)).trans F.c3, fun o => by rw [frozen_setCell]; exact F.fz o,
      row_keep hr2 fun k e => Below.heap_setCell _ _ _ _ (fun e2 => hne (by cases e; exact e2))⟩
  have c : Chn (fun t => t = .file n ∨ t = .data n) L.own w (w.setCell ⟨L.loc n, 1, none⟩ (.slice (some ⟨g, 0, none⟩) x cap)) := (Chn.refl _ _ _).setCell (fun _ => .inl (h.tags.loc n h1 h2)) _
  have fin := h.reData h1 h2 c hf (.inl (by rw [hv]; rfl))
  exact ⟨fin.1, fin.2, c.mono (fun t e => by rcases e with e | e <;> rw [e] <;> simp)⟩

theorem cutStep_keep (choice : List Int) (a : Nat) (S : DS) (n : Nat) (h : ¬ (S.file n).safe < (S.file n).data.length) :
    cutStep choice (a, S) n = (a, { S.setF n ⟨(S.file n).data, (S.file n).data.length, true⟩ with used := S.used + ((S.file n).data.length : Int) }) := by
  unfold cutStep cutF
  simp only [if_neg h]
theorem cutStep_cut (choice : List Int) (a : Nat) (S : DS) (n x : Nat) (h : (S.file n).safe < (S.file n).data.length) (hx : x = (S.file n).safe + pickN choice a ((S.file n).data.length - (S.file n).safe)) :
    cutStep choice (a, S) n = (a + 1, { S.setF n ⟨(S.file n).data.take x, x, true⟩ with used := S.used + (x : Int) }) := by
  unfold cutStep cutF
  have hl := pickN_le choice a ((S.file n).data.length - (S.file n).safe)
  have e : ((S.file n).data.take x).length = x := by rw [List.length_take]; omega
  simp only [if_pos h, ← hx, e]

end Go.Proofs.Ytalinhjalnndhaa
