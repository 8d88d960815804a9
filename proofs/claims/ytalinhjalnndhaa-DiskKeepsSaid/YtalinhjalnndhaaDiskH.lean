/- Contracts of disk: Create. -/
import Derived.Test.YtalinhjalnndhaaDiskG
namespace Go.Proofs.Ytalinhjalnndhaa
set_option maxRecDepth 100000
open Go.RowKit M

def newLay (L : Lay) (n p : Nat) : Lay :=
  { L with loc := fun i => if i = n then p else L.loc i, dat := fun i => if i = n then .slice none 0 0 else L.dat i, own := fun k => if k = p then .file n else L.own k }

/-- what refers to files refers to those that there are -/
structure Refs (S : DS) : Prop where
  nref : ∀ p ∈ S.names, 1 ≤ p.2 ∧ p.2 ≤ S.made
  sref : ∀ p ∈ S.safe, 1 ≤ p.2 ∧ p.2 ≤ S.made
  cref : ∀ c ∈ S.chg, (1 ≤ c.file ∧ c.file ≤ S.made) ∧ (∀ g, c.over = some g → 1 ≤ g ∧ g ≤ S.made) ∧ c.src.size ≤ maxLen ∧ c.dst.size ≤ maxLen
theorem Fine.refs {S : DS} (h : Fine S) : Refs S := ⟨h.nref, h.sref, h.cref⟩

theorem DiskAt.newFile {w : World} {L : Lay} {S : DS} (h : DiskAt w L S) (hr : Refs S) :
    DiskAt ((w.setCell ⟨L.b, 3, none⟩ (.int .i64 ((S.made + 1 : Nat) : Int))).alloc (.cells #[.int .i64 ((S.made + 1 : Nat) : Int), .slice none 0 0, .int .i64 0, .bool false] 78)) (newLay L (S.made + 1) w.heap.size)
      ({ S with made := S.made + 1 }.setF (S.made + 1) ⟨[], 0, false⟩) ∧
    Chn (fun t => t ≠ .free) L.own w ((w.setCell ⟨L.b, 3, none⟩ (.int .i64 ((S.made + 1 : Nat) : Int))).alloc (.cells #[.int .i64 ((S.made + 1 : Nat) : Int), .slice none 0 0, .int .i64 0, .bool false] 78)) := by
  have t := h.tags
  have hC : Chn (fun t => t = .disk) L.own w ((w.setCell ⟨L.b, 3, none⟩ (.int .i64 ((S.made + 1 : Nat) : Int))).alloc (.cells #[.int .i64 ((S.made + 1 : Nat) : Int), .slice none 0 0, .int .i64 0, .bool false] 78)) :=
    ((Chn.refl _ _ _).setCell (fun _ => t.b) _).alloc _
  refine ⟨?_, hC.mono (fun t e => by rw [e]; simp)⟩
  have hz : (w.setCell ⟨L.b, 3, none⟩ (.int .i64 ((S.made + 1 : Nat) : Int))).heap.size = w.heap.size := by simp [World.setCell]
  have hh : Head ((w.setCell ⟨L.b, 3, none⟩ (.int .i64 ((S.made + 1 : Nat) : Int))).alloc (.cells #[.int .i64 ((S.made + 1 : Nat) : Int), .slice none 0 0, .int .i64 0, .bool false] 78)) L.b L.nb L.sb L.ch { S with made := S.made + 1 } :=
    (h.head.s3 (S.made + 1)).keep (Below.heap_alloc _ _ _ (by rw [hz]; exact h.b_lt))
  have kk : ∀ i T, L.own i = T → T ≠ .free → T ≠ .disk → ((w.setCell ⟨L.b, 3, none⟩ (.int .i64 ((S.made + 1 : Nat) : Int))).alloc (.cells #[.int .i64 ((S.made + 1 : Nat) : Int), .slice none 0 0, .int .i64 0, .bool false] 78)).heap[i]? = w.heap[i]? := fun i T e h1 h2 => hC.block i (h.own_lt (by rw [e]; exact h1)) (by rw [e]; exact h2)
  have hnew := (MapKept.heap_alloc (w.setCell ⟨L.b, 3, none⟩ (.int .i64 ((S.made + 1 : Nat) : Int))) (.cells #[.int .i64 ((S.made + 1 : Nat) : Int), .slice none 0 0, .int .i64 0, .bool false] 78)).1
  rw [hz] at hnew
  have hs : ((w.setCell ⟨L.b, 3, none⟩ (.int .i64 ((S.made + 1 : Nat) : Int))).alloc (.cells #[.int .i64 ((S.made + 1 : Nat) : Int), .slice none 0 0, .int .i64 0, .bool false] 78)).heap.size = w.heap.size + 1 := by simp [World.setCell]
  generalize (w.setCell ⟨L.b, 3, none⟩ (.int .i64 ((S.made + 1 : Nat) : Int))).alloc (.cells #[.int .i64 ((S.made + 1 : Nat) : Int), .slice none 0 0, .int .i64 0, .bool false] 78) = W at *
  have oldT : ∀ i T, L.own i = T → T ≠ .free → (newLay L (S.made + 1) w.heap.size).own i = T := fun i T e h1 => by
    show (if i = w.heap.size then Tag.file (S.made + 1) else L.own i) = T
    have := h.own_lt (k := i) (by rw [e]; exact h1)
    rw [if_neg (by omega)]; exact e
  have loc0 : ∀ n, n ≤ S.made → (newLay L (S.made + 1) w.heap.size).loc n = L.loc n := fun n hn => by
    show (if n = S.made + 1 then w.heap.size else L.loc n) = _
    rw [if_neg (by omega)]
  have dat0 : ∀ n, n ≤ S.made → (newLay L (S.made + 1) w.heap.size).dat n = L.dat n := fun n hn => by
    show (if n = S.made + 1 then Value.slice none 0 0 else L.dat n) = _
    rw [if_neg (by omega)]
  refine ⟨hh.re ⟨rfl, rfl, rfl, rfl, rfl, rfl, rfl⟩, (h.names.keep (kk _ _ t.nb (by simp) (by simp))).reloc (fun p hp => loc0 _ (hr.nref p hp).2), (h.safe.keep (kk _ _ t.sb (by simp) (by simp))).reloc (fun p hp => loc0 _ (hr.sref p hp).2), fun m h1 h2 => ?_, ?_, ⟨oldT _ _ t.b (by simp), oldT _ _ t.nb (by simp), oldT _ _ t.sb (by simp), fun k e => oldT _ _ (t.ch k e) (by simp), fun m h1 h2 => ?_, fun m h1 h2 k e => ?_, fun k hk => ?_⟩⟩
  · change m ≤ S.made + 1 at h2
    show FileAt W _ m _ (if m = S.made + 1 then (⟨[], 0, false⟩ : FileS) else S.file m)
    by_cases e : m = S.made + 1
    · rw [if_pos e, e]
      show FileAt W (if S.made + 1 = S.made + 1 then w.heap.size else _) _ (if S.made + 1 = S.made + 1 then Value.slice none 0 0 else _) _
      rw [if_pos rfl, if_pos rfl]
      have hc : ∀ j, W.cell? ⟨w.heap.size, j, none⟩ = #[Value.int .i64 ((S.made + 1 : Nat) : Int), .slice none 0 0, .int .i64 0, .bool false][j]? := fun j => by simp [World.cell?, hnew]
      exact ⟨by rw [hc]; rfl, by rw [hc]; rfl, by rw [hc]; rfl, by rw [hc]; rfl, fun o => by unfold World.frozen?; simp [hnew], World.ownsRow_nil _ _ _ _⟩
    · rw [if_neg e, loc0 m (by omega), dat0 m (by omega)]
      exact (h.file m h1 (by omega)).keep (kk _ _ (t.loc m h1 (by omega)) (by simp) (by simp)) (fun i ei => kk _ _ (t.dat m h1 (by omega) i ei) (by simp) (by simp))
  · have e : S.chg.flatMap (chgCells (newLay L (S.made + 1) w.heap.size).loc) = S.chg.flatMap (chgCells L.loc) := by
      rw [List.flatMap_def, List.flatMap_def]
      congr 1
      apply List.map_congr_left
      intro c hc
      obtain ⟨a, b, _⟩ := hr.cref c hc
      unfold chgCells
      rw [loc0 _ a.2]
      congr 4
      cases ho : c.over with
      | none => rfl
      | some g => simp only [Option.map_some]; rw [loc0 _ (b g ho).2]
    show W.ownsRow 0 _ 4 L.ch S.chg.length (S.chg.flatMap (chgCells (newLay L (S.made + 1) w.heap.size).loc))
    rw [e]
    exact row_keep h.chg (fun i e => kk _ _ (t.ch i e) (by simp) (by simp))
  · change m ≤ S.made + 1 at h2
    by_cases e : m = S.made + 1
    · subst e
      show (if (if S.made + 1 = S.made + 1 then w.heap.size else _) = w.heap.size then Tag.file (S.made + 1) else _) = _
      rw [if_pos rfl, if_pos rfl]
    · rw [loc0 m (by omega)]
      exact oldT _ _ (t.loc m h1 (by omega)) (by simp)
  · change m ≤ S.made + 1 at h2
    by_cases e2 : m = S.made + 1
    · subst e2
      change (if S.made + 1 = S.made + 1 then Value.slice none 0 0 else _).ownBlock = some k at e
      rw [if_pos rfl] at e
      cases e
    · rw [dat0 m (by omega)] at e
      exact oldT _ _ (t.dat m h1 (by omega) k e) (by simp)
  · show (if k = w.heap.size then Tag.file (S.made + 1) else L.own k) = .free
    rw [if_neg (by omega)]
    exact t.out k (by omega)

theorem Ran.of {w w1 : World} {L : Lay} {S' : DS} {T : Tag → Prop} (h : DiskAt w1 L S') (c : Chn T L.own w w1) (hT : ∀ t, T t → t ≠ .free) : Ran w L S' w1 := ⟨L, h, rfl, fun _ _ => rfl, c.mono hT⟩
theorem Ran.refl {w : World} {L : Lay} {S : DS} (h : DiskAt w L S) : Ran w L S w := ⟨L, h, rfl, fun _ _ => rfl, Chn.refl _ _ _⟩
/-- one call behind the other -/
theorem Ran.after {w w1 w2 : World} {L L1 : Lay} {S' : DS} (c : Chn (fun t => t ≠ .free) L.own w w1) (eb : L1.b = L.b) (eo : ∀ k, k < w.heap.size → L1.own k = L.own k) (h : Ran w1 L1 S' w2) : Ran w L S' w2 := by
  obtain ⟨L', h1, h2, h3, h4⟩ := h
  refine ⟨L', h1, h2.trans eb, fun k hk => (h3 k (Nat.lt_of_lt_of_le hk c.size)).trans (eo k hk), ?_⟩
  refine ⟨h4.os.trans c.os, h4.tape.trans c.tape, h4.output.trans c.output, Nat.le_trans c.size h4.size, fun k hk hn => ?_⟩
  have hn' : ¬ L1.own k ≠ .free := by rw [eo k hk]; exact hn
  exact (h4.block k (Nat.lt_of_lt_of_le hk c.size) hn').trans (c.block k hk hn)

theorem beginC_cases (S : DS) : beginC S = 8 ∨ beginC S = 9 ∨ beginC S = 0 := by
  unfold beginC
  split
  · exact .inl rfl
  · split
    · exact .inr (.inl rfl)
    · exact .inr (.inr rfl)

set_option maxRecDepth 100000 in
set_option maxHeartbeats 1000000 in
theorem create_any (L : Lay) (S : DS) (name : ByteArray) (w : World) (h : DiskAt w L S) (hf : Fine S) (hn : name.size ≤ maxLen) :
    Calls Try.prog 13 #[.pointer (some ⟨L.b, 0, none⟩), .string name] w (RanP L w (.int .i64 (createC S name)) (createS S name)) := by
  have c8 := h.head.c8; have c0 := h.head.c0
  have lk := h.names.look (P := Try.prog) (k := 9) (t := 53) (e := 74) Try.underlying9 Try.underlying53 (zero_file w) name hn
  unfold createC createS
  have HD := Box.mk h
  by_cases hd : S.dead = true
  · rw [if_pos hd, if_pos hd]
    rw [hd] at c8
    clear h lk hd
    go_enter Try.func13, Try.ntmps13
    go_wp2
    go_ret
    exact ⟨rfl, Ran.refl HD.out⟩
  · have hd : S.dead = false := by simpa using hd
    rw [hd, if_neg (show ¬ (false = true) by simp), if_neg (show ¬ (false = true) by simp)]
    rw [hd] at c8
    clear hd
    by_cases hz : name.size = 0
    · rw [if_pos hz, if_pos hz]
      have e1 := d_empty hz
      clear h lk hz
      go_enter Try.func13, Try.ntmps13
      go_wp2
      go_ret
      exact ⟨rfl, Ran.refl HD.out⟩
    · rw [if_neg hz, if_neg hz]
      have e1 := d_some (x := name) (by omega)
      clear hz
      cases hg : kget S.names name with
      | some g =>
        rw [hg] at lk
        rw [if_pos (show (some g).isSome = true from rfl), if_pos (show (some g).isSome = true from rfl)]
        clear h hg
        go_enter Try.func13, Try.ntmps13
        go_wp2
        go_ret
        exact ⟨rfl, Ran.refl HD.out⟩
      | none =>
        rw [hg] at lk
        rw [if_neg (show ¬ ((none : Option Nat).isSome = true) by simp), if_neg (show ¬ ((none : Option Nat).isSome = true) by simp)]
        have cb := dbegin_any L S w h hf
        have hk := beginS_keeps S
        by_cases h8 : beginC S = 8
        · rw [if_pos h8]
          rw [h8] at cb ⊢
          have CB := Box.mk cb
          clear h hg h8 hk cb
          go_enter Try.func13, Try.ntmps13
          go_wp2_with (go_at_call 39; ((with_reducible refine CB.out.mono ?_); rintro e w1 ⟨rfl, d1, o1⟩; have D1 := Box.mk d1; have O1 := Box.mk o1; clear d1 o1))
          go_ret
          exact ⟨rfl, Ran.of D1.out O1.out (fun t e => by rw [e]; simp)⟩
        · rw [if_neg h8]
          obtain ⟨r, hr⟩ : ∃ r, r = beginC S := ⟨_, rfl⟩
          rw [← hr] at cb ⊢
          have e2 : (r != 8) = true := by rw [hr]; simpa using h8
          have hm := hf.made
          have hok := hf.ren
          have hrf := hf.refs
          obtain ⟨N, hN⟩ : ∃ N, N = S.made + 1 := ⟨_, rfl⟩
          have hmade : (beginS S).made = S.made := hk.2.2.2.1
          have r1 : Refs (beginS S) := ⟨by rw [hk.1, hmade]; exact hrf.nref, by rw [hk.2.1, hmade]; exact hrf.sref, by rw [hk.2.2.1, hmade]; exact hrf.cref⟩
          have hnf : newF (beginS S) name = renS ({ beginS S with made := N }.setF N ⟨[], 0, false⟩) ⟨#[]⟩ name N := by unfold newF; rw [hmade, ← hN]
          rw [hnf]
          have hok1 : RenOk ({ beginS S with made := N }.setF N ⟨[], 0, false⟩) := hok.of hk.1 hk.2.2.1 (by show S.made ≤ N; omega)
          have hre : ∀ w1, DiskAt w1 L (beginS S) → (Calls Try.prog 40 #[.pointer (some ⟨L.b, 0, none⟩), .string ⟨#[]⟩, .string name, .pointer (some ⟨w1.heap.size, 0, none⟩)] ((w1.setCell ⟨L.b, 3, none⟩ (.int .i64 (N : Int))).alloc (.cells #[.int .i64 (N : Int), .slice none 0 0, .int .i64 0, .bool false] 78)) fun e w2 => e = .returned (.tuple #[]) ∧
              Ran w1 L (renS ({ beginS S with made := N }.setF N ⟨[], 0, false⟩) ⟨#[]⟩ name N) w2) := fun w1 d1 => by
            have q := d1.newFile r1
            rw [hmade, ← hN] at q
            have c := ren_any (newLay L N w1.heap.size) _ ⟨#[]⟩ name N _ q.1 hok1 (by omega) (Nat.le_refl N) (by unfold maxLen; show 0 ≤ _; omega) hn
            have hl : (newLay L N w1.heap.size).loc N = w1.heap.size := if_pos rfl
            rw [hl] at c
            refine c.mono fun e w2 ⟨he, hr⟩ => ⟨he, Ran.after (L1 := newLay L N w1.heap.size) q.2 rfl (fun k hk => ?_) hr⟩
            show (if k = w1.heap.size then Tag.file N else L.own k) = L.own k
            rw [if_neg (by omega)]
          have CB := Box.mk cb; have HRE := Box.mk hre; have HM := Box.mk hmade
          have e3 : (S.made : Int) + 1 = (N : Int) := by omega
          clear h hg h8 hk cb hr hf hok hrf hN r1 hnf hok1 hre hmade
          go_enter Try.func13, Try.ntmps13
          go_wp2_with (first
            | (go_at_call 39; ((with_reducible refine CB.out.mono ?_); rintro e w1 ⟨rfl, d1, o1⟩; have D1 := Box.mk d1; have O1 := Box.mk o1; have y3 := d1.head.c3; have yz := d1.head.fz 3; have yb := d1.b_lt; rw [HM.out] at y3; have RE := Box.mk (HRE.out w1 d1); clear d1 o1))
            | (go_at_call 40; ((with_reducible refine RE.out.mono ?_); rintro e w2 ⟨rfl, r2⟩; have R2 := Box.mk r2; clear r2)))
          go_ret
          exact ⟨rfl, Ran.after (O1.out.mono (fun t e => by rw [e]; simp)) rfl (fun _ _ => rfl) R2.out⟩

end Go.Proofs.Ytalinhjalnndhaa
