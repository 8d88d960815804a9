/- DiskH, DiskI, in one text. -/
import Derived.Test.YtdffpbfllekcgaaGreatDoorHh
import Derived.Lib.AppendStr
namespace Go.Proofs.YtdffpbfllekcgaaGreatDoor
set_option maxRecDepth 100000
open Go.RowKit M

def newLay (L : Lay) (n p : Nat) : Lay :=
  { L with loc := fun i => if i = n then p else L.loc i, dat := fun i => if i = n then .slice none 0 0 else L.dat i, own := fun k => if k = p then .file n else L.own k }

/-- what refers to files refers to those that there are -/
structure Refs (S : DS) : Prop where
  nref : ∀ p ∈ S.names, 1 ≤ p.2 ∧ p.2 ≤ S.made
  sref : ∀ p ∈ S.safe, 1 ≤ p.2 ∧ p.2 ≤ S.made
  cref : ∀ c ∈ S.chg, (1 ≤ c.file ∧ c.file ≤ S.made) ∧ (∀ g, c.over = some g → 1 ≤ g ∧ g ≤ S.made) ∧ c.src.size ≤ maxLen ∧ c.dst.size ≤ maxLen
theorem Fine.refs {S : DS} (h : Fine S) : Refs S := ⟨h.nref, h.sref, h.cref⟩

theorem DiskAt.newFile {w : World} {L : Lay} {S : DS} (h : DiskAt w L S) (hr : Refs S) :
    DiskAt ((w.setCell ⟨L.b, 3, none⟩ (.int .i64 ((S.made + 1 : Nat) : Int))).alloc (.cells #[.int .i64 ((S.made + 1 : Nat) : Int), .slice none 0 0, .int .i64 0, .bool false] 54)) (newLay L (S.made + 1) w.heap.size)
      ({ S with made := S.made + 1 }.setF (S.made + 1) ⟨[], 0, false⟩) ∧
    Chn (fun t => t ≠ .free) L.own w ((w.setCell ⟨L.b, 3, none⟩ (.int .i64 ((S.made + 1 : Nat) : Int))).alloc (.cells #[.int .i64 ((S.made + 1 : Nat) : Int), .slice none 0 0, .int .i64 0, .bool false] 54)) := by
  have t := h.tags
  have hC : Chn (fun t => t = .disk) L.own w ((w.setCell ⟨L.b, 3, none⟩ (.int .i64 ((S.made + 1 : Nat) : Int))).alloc (.cells #[.int .i64 ((S.made + 1 : Nat) : Int), .slice none 0 0, .int .i64 0, .bool false] 54)) :=
    ((Chn.refl _ _ _).setCell (fun _ => t.b) _).alloc _
  refine ⟨?_, hC.mono (fun t e => by rw [e]; simp)⟩
  have hz : (w.setCell ⟨L.b, 3, none⟩ (.int .i64 ((S.made + 1 : Nat) : Int))).heap.size = w.heap.size := by simp [World.setCell]
  have hh : Head ((w.setCell ⟨L.b, 3, none⟩ (.int .i64 ((S.made + 1 : Nat) : Int))).alloc (.cells #[.int .i64 ((S.made + 1 : Nat) : Int), .slice none 0 0, .int .i64 0, .bool false] 54)) L.b L.nb L.sb L.ch { S with made := S.made + 1 } :=
    (h.head.s3 (S.made + 1)).keep (Below.heap_alloc _ _ _ (by rw [hz]; exact h.b_lt))
  have kk : ∀ i T, L.own i = T → T ≠ .free → T ≠ .disk → ((w.setCell ⟨L.b, 3, none⟩ (.int .i64 ((S.made + 1 : Nat) : Int))).alloc (.cells #[.int .i64 ((S.made + 1 : Nat) : Int), .slice none 0 0, .int .i64 0, .bool false] 54)).heap[i]? = w.heap[i]? := fun i T e h1 h2 => hC.block i (h.own_lt (by rw [e]; exact h1)) (by rw [e]; exact h2)
  have hnew := (MapKept.heap_alloc (w.setCell ⟨L.b, 3, none⟩ (.int .i64 ((S.made + 1 : Nat) : Int))) (.cells #[.int .i64 ((S.made + 1 : Nat) : Int), .slice none 0 0, .int .i64 0, .bool false] 54)).1
  rw [hz] at hnew
  have hs : ((w.setCell ⟨L.b, 3, none⟩ (.int .i64 ((S.made + 1 : Nat) : Int))).alloc (.cells #[.int .i64 ((S.made + 1 : Nat) : Int), .slice none 0 0, .int .i64 0, .bool false] 54)).heap.size = w.heap.size + 1 := by simp [World.setCell]
  generalize (w.setCell ⟨L.b, 3, none⟩ (.int .i64 ((S.made + 1 : Nat) : Int))).alloc (.cells #[.int .i64 ((S.made + 1 : Nat) : Int), .slice none 0 0, .int .i64 0, .bool false] 54) = W at *
  have oldT : ∀ i T, L.own i = T → T ≠ .free → (newLay L (S.made + 1) w.heap.size).own i = T := fun i T e h1 => by
    show (if i = w.heap.size then Tag.file (S.made + 1) else L.own i) = T
    have := h.own_lt (k := i) (by rw [e]; exact h1)
    rw [if_neg (by omega)]; exact e
  have loc0 : ∀ n, n ≤ S.made → (newLay L (S.made + 1) w.heap.size).loc n = L.loc n := fun n hn => by
    show (if n = S.made + 1 then w.heap.size else L.loc n) = _
    rw [if_neg (by omega)]
  have dat0 : ∀ n, n ≤ S.made → (newLay L (S.made + 1) w.heap.size).dat n = L.dat n := fun n hn => by
    show (if n = S.made + 1 then Value.slice none 0 0 else L.dat n) = _
    rw [if_neg (by omega)]
  refine ⟨hh.re ⟨rfl, rfl, rfl, rfl, rfl, rfl, rfl⟩, (h.names.keep (kk _ _ t.nb (by simp) (by simp))).reloc (fun p hp => loc0 _ (hr.nref p hp).2), (h.safe.keep (kk _ _ t.sb (by simp) (by simp))).reloc (fun p hp => loc0 _ (hr.sref p hp).2), fun m h1 h2 => ?_, ?_, ⟨oldT _ _ t.b (by simp), oldT _ _ t.nb (by simp), oldT _ _ t.sb (by simp), fun k e => oldT _ _ (t.ch k e) (by simp), fun m h1 h2 => ?_, fun m h1 h2 k e => ?_, fun k hk => ?_⟩⟩
  · change m ≤ S.made + 1 at h2
    show FileAt W _ m _ (if m = S.made + 1 then (⟨[], 0, false⟩ : FileS) else S.file m)
    by_cases e : m = S.made + 1
    · rw [if_pos e, e]
      show FileAt W (if S.made + 1 = S.made + 1 then w.heap.size else _) _ (if S.made + 1 = S.made + 1 then Value.slice none 0 0 else _) _
      rw [if_pos rfl, if_pos rfl]
      have hc : ∀ j, W.cell? ⟨w.heap.size, j, none⟩ = #[Value.int .i64 ((S.made + 1 : Nat) : Int), .slice none 0 0, .int .i64 0, .bool false][j]? := fun j => by simp [World.cell?, hnew]
      exact ⟨by rw [hc]; rfl, by rw [hc]; rfl, by rw [hc]; rfl, by rw [hc]; rfl, fun o => by unfold World.frozen?; simp [hnew], World.ownsRow_nil _ _ _ _⟩
    · rw [if_neg e, loc0 m (by omega), dat0 m (by omega)]
      exact (h.file m h1 (by omega)).keep (kk _ _ (t.loc m h1 (by omega)) (by simp) (by simp)) (fun i ei => kk _ _ (t.dat m h1 (by omega) i ei) (by simp) (by simp))
  · have e : S.chg.flatMap (chgCells (newLay L (S.made + 1) w.heap.size).loc) = S.chg.flatMap (chgCells L.loc) := by
      rw [List.flatMap_def, List.flatMap_def]
      congr 1
      apply List.map_congr_left
      intro c hc
      obtain ⟨a, b, _⟩ := hr.cref c hc
      unfold chgCells
      rw [loc0 _ a.2]
      congr 4
      cases ho : c.over with
      | none => rfl
      | some g => simp only [Option.map_some]; rw [loc0 _ (b g ho).2]
    show W.ownsRow 0 _ 4 L.ch S.chg.length (S.chg.flatMap (chgCells (newLay L (S.made + 1) w.heap.size).loc))
    rw [e]
    exact row_keep h.chg (fun i e => kk _ _ (t.ch i e) (by simp) (by simp))
  · change m ≤ S.made + 1 at h2
    by_cases e : m = S.made + 1
    · subst e
      show (if (if S.made + 1 = S.made + 1 then w.heap.size else _) = w.heap.size then Tag.file (S.made + 1) else _) = _
      rw [if_pos rfl, if_pos rfl]
    · rw [loc0 m (by omega)]
      exact oldT _ _ (t.loc m h1 (by omega)) (by simp)
  · change m ≤ S.made + 1 at h2
    by_cases e2 : m = S.made + 1
    · subst e2
      change (if S.made + 1 = S.made + 1 then Value.slice none 0 0 else _).ownBlock = some k at e
      rw [if_pos rfl] at e
      cases e
    · rw [dat0 m (by omega)] at e
      exact oldT _ _ (t.dat m h1 (by omega) k e) (by simp)
  · show (if k = w.heap.size then Tag.file (S.made + 1) else L.own k) = .free
    rw [if_neg (by omega)]
    exact t.out k (by omega)

theorem Ran.of {w w1 : World} {L : Lay} {S' : DS} {T : Tag → Prop} (h : DiskAt w1 L S') (c : Chn T L.own w w1) (hT : ∀ t, T t → t ≠ .free) : Ran w L S' w1 := ⟨L, h, rfl, fun _ _ => rfl, c.mono hT⟩
theorem Ran.refl {w : World} {L : Lay} {S : DS} (h : DiskAt w L S) : Ran w L S w := ⟨L, h, rfl, fun _ _ => rfl, Chn.refl _ _ _⟩
/-- one call behind the other -/
theorem Ran.after {w w1 w2 : World} {L L1 : Lay} {S' : DS} (c : Chn (fun t => t ≠ .free) L.own w w1) (eb : L1.b = L.b) (eo : ∀ k, k < w.heap.size → L1.own k = L.own k) (h : Ran w1 L1 S' w2) : Ran w L S' w2 := by
  obtain ⟨L', h1, h2, h3, h4⟩ := h
  refine ⟨L', h1, h2.trans eb, fun k hk => (h3 k (Nat.lt_of_lt_of_le hk c.size)).trans (eo k hk), ?_⟩
  refine ⟨h4.os.trans c.os, h4.tape.trans c.tape, h4.output.trans c.output, Nat.le_trans c.size h4.size, fun k hk hn => ?_⟩
  have hn' : ¬ L1.own k ≠ .free := by rw [eo k hk]; exact hn
  exact (h4.block k (Nat.lt_of_lt_of_le hk c.size) hn').trans (c.block k hk hn)

theorem beginC_cases (S : DS) : beginC S = 8 ∨ beginC S = 9 ∨ beginC S = 0 := by
  unfold beginC
  split
  · exact .inl rfl
  · split
    · exact .inr (.inl rfl)
    · exact .inr (.inr rfl)

set_option maxRecDepth 100000 in
set_option maxHeartbeats 1000000 in
theorem create_any (L : Lay) (S : DS) (name : ByteArray) (w : World) (h : DiskAt w L S) (hf : Fine S) (hn : name.size ≤ maxLen) :
    Calls Tryz.prog 7 #[.pointer (some ⟨L.b, 0, none⟩), .string name] w (RanP L w (.int .i64 (createC S name)) (createS S name)) := by
  have c8 := h.head.c8; have c0 := h.head.c0
  have lk := h.names.look (P := Tryz.prog) (k := 9) (t := 43) (e := 50) Tryz.underlying9 Tryz.underlying43 (zero_file w) name hn
  unfold createC createS
  have HD := Box.mk h
  by_cases hd : S.dead = true
  · rw [if_pos hd, if_pos hd]
    rw [hd] at c8
    clear h lk hd
    go_enter Tryz.func7, Tryz.ntmps7
    go_wp2
    go_ret
    exact ⟨rfl, Ran.refl HD.out⟩
  · have hd : S.dead = false := by simpa using hd
    rw [hd, if_neg (show ¬ (false = true) by simp), if_neg (show ¬ (false = true) by simp)]
    rw [hd] at c8
    clear hd
    by_cases hz : name.size = 0
    · rw [if_pos hz, if_pos hz]
      have e1 := d_empty hz
      clear h lk hz
      go_enter Tryz.func7, Tryz.ntmps7
      go_wp2
      go_ret
      exact ⟨rfl, Ran.refl HD.out⟩
    · rw [if_neg hz, if_neg hz]
      have e1 := d_some (x := name) (by omega)
      clear hz
      cases hg : kget S.names name with
      | some g =>
        rw [hg] at lk
        rw [if_pos (show (some g).isSome = true from rfl), if_pos (show (some g).isSome = true from rfl)]
        clear h hg
        go_enter Tryz.func7, Tryz.ntmps7
        go_wp2
        go_ret
        exact ⟨rfl, Ran.refl HD.out⟩
      | none =>
        rw [hg] at lk
        rw [if_neg (show ¬ ((none : Option Nat).isSome = true) by simp), if_neg (show ¬ ((none : Option Nat).isSome = true) by simp)]
        have cb := dbegin_any L S w h hf
        have hk := beginS_keeps S
        by_cases h8 : beginC S = 8
        · rw [if_pos h8]
          rw [h8] at cb ⊢
          have CB := Box.mk cb
          clear h hg h8 hk cb
          go_enter Tryz.func7, Tryz.ntmps7
          go_wp2_with (go_at_call 19; ((with_reducible refine CB.out.mono ?_); rintro e w1 ⟨rfl, d1, o1⟩; have D1 := Box.mk d1; have O1 := Box.mk o1; clear d1 o1))
          go_ret
          exact ⟨rfl, Ran.of D1.out O1.out (fun t e => by rw [e]; simp)⟩
        · rw [if_neg h8]
          obtain ⟨r, hr⟩ : ∃ r, r = beginC S := ⟨_, rfl⟩
          rw [← hr] at cb ⊢
          have e2 : (r != 8) = true := by rw [hr]; simpa using h8
          have hm := hf.made
          have hok := hf.ren
          have hrf := hf.refs
          obtain ⟨N, hN⟩ : ∃ N, N = S.made + 1 := ⟨_, rfl⟩
          have hmade : (beginS S).made = S.made := hk.2.2.2.1
          have r1 : Refs (beginS S) := ⟨by rw [hk.1, hmade]; exact hrf.nref, by rw [hk.2.1, hmade]; exact hrf.sref, by rw [hk.2.2.1, hmade]; exact hrf.cref⟩
          have hnf : newF (beginS S) name = renS ({ beginS S with made := N }.setF N ⟨[], 0, false⟩) ⟨#[]⟩ name N := by unfold newF; rw [hmade, ← hN]
          rw [hnf]
          have hok1 : RenOk ({ beginS S with made := N }.setF N ⟨[], 0, false⟩) := hok.of hk.1 hk.2.2.1 (by show S.made ≤ N; omega)
          have hre : ∀ w1, DiskAt w1 L (beginS S) → (Calls Tryz.prog 20 #[.pointer (some ⟨L.b, 0, none⟩), .string ⟨#[]⟩, .string name, .pointer (some ⟨w1.heap.size, 0, none⟩)] ((w1.setCell ⟨L.b, 3, none⟩ (.int .i64 (N : Int))).alloc (.cells #[.int .i64 (N : Int), .slice none 0 0, .int .i64 0, .bool false] 54)) fun e w2 => e = .returned (.tuple #[]) ∧
              Ran w1 L (renS ({ beginS S with made := N }.setF N ⟨[], 0, false⟩) ⟨#[]⟩ name N) w2) := fun w1 d1 => by
            have q := d1.newFile r1
            rw [hmade, ← hN] at q
            have c := ren_any (newLay L N w1.heap.size) _ ⟨#[]⟩ name N _ q.1 hok1 (by omega) (Nat.le_refl N) (by unfold maxLen; show 0 ≤ _; omega) hn
            have hl : (newLay L N w1.heap.size).loc N = w1.heap.size := if_pos rfl
            rw [hl] at c
            refine c.mono fun e w2 ⟨he, hr⟩ => ⟨he, Ran.after (L1 := newLay L N w1.heap.size) q.2 rfl (fun k hk => ?_) hr⟩
            show (if k = w1.heap.size then Tag.file N else L.own k) = L.own k
            rw [if_neg (by omega)]
          have CB := Box.mk cb; have HRE := Box.mk hre; have HM := Box.mk hmade
          have e3 : (S.made : Int) + 1 = (N : Int) := by omega
          clear h hg h8 hk cb hr hf hok hrf hN r1 hnf hok1 hre hmade
          go_enter Tryz.func7, Tryz.ntmps7
          go_wp2_with (first
            | (go_at_call 19; ((with_reducible refine CB.out.mono ?_); rintro e w1 ⟨rfl, d1, o1⟩; have D1 := Box.mk d1; have O1 := Box.mk o1; have y3 := d1.head.c3; have yz := d1.head.fz 3; have yb := d1.b_lt; rw [HM.out] at y3; have RE := Box.mk (HRE.out w1 d1); clear d1 o1))
            | (go_at_call 20; ((with_reducible refine RE.out.mono ?_); rintro e w2 ⟨rfl, r2⟩; have R2 := Box.mk r2; clear r2)))
          go_ret
          exact ⟨rfl, Ran.after (O1.out.mono (fun t e => by rw [e]; simp)) rfl (fun _ _ => rfl) R2.out⟩

end Go.Proofs.YtdffpbfllekcgaaGreatDoor
namespace Go.Proofs.YtdffpbfllekcgaaGreatDoor
set_option maxRecDepth 100000
open Go.RowKit M

theorem d_slice {w : World} {B e z : Nat} {v : Value} {n : Nat} {xs : List Value} (h : w.ownsRow B e z v n xs) : ∃ p c, v = .slice p n c := by
  rcases h.2 with ⟨h2, h0⟩ | ⟨g, cap, cur, hv, _⟩
  · exact ⟨none, 0, by rw [h2, h0]⟩
  · exact ⟨_, _, hv⟩
/-- where the row lies behind an append -/
theorem d_append_block {P : Program} (w : World) (base : Nat) (t u ty e : TypeId) (i : TypeInfo) (ht : P.underlying t = some (.slice e)) (hu : P.underlying u = some .string) (hi : P.info? e = some i) (hz : i.zero = some (.int .u8 0))
    (hsize : i.size = 1) (hby : i.bytes = 1) (v : Value) (n : Nat) (xs : List Value) (hown : w.ownsRow base e 1 v n xs) (s : ByteArray)
    (h63 : n + s.size ≤ maxLen) (hbytes : n + s.size ≤ 140737488355328) :
    ∃ v' w', (Builtin.append_ #[t, u] ty #[v, .string s]).run P w = .ok v' w' ∧ (v'.ownBlock = v.ownBlock ∨ v'.ownBlock = some w.heap.size) := by
  have hsmall : n + s.size ≤ 9223372036854775807 := by simp only [maxLen] at h63; omega
  have hxl : xs.length = n := by simpa using hown.1
  rcases hown.2 with ⟨rfl, rfl⟩ | ⟨g, cap, cur, rfl, hbg, hg, hnc, hcm, hcs, htake⟩
  · by_cases hm : s.size = 0
    · refine ⟨.slice none 0 0, w, ?_, .inl rfl⟩
      have hf := Lib.run_firstCells_string (P := P) w 1 s
      rw [hm] at hf
      simp [Builtin.append_, run_underlying ht, run_underlying hu, sizeOf, typeInfo, hi, hsize, Builtin.lenOf, hm, hf]
    · exact ⟨_, _, run_append_nil_string (P := P) w t u ty e i (.int .u8 0) ht hu hi hz s (by omega) (by omega) (by rw [hby]; omega), .inr rfl⟩
  · by_cases hroom : n + s.size ≤ cap
    · have hcs' : cur.size = cap := by simpa using hcs
      exact ⟨_, _, Lib.run_append_room_string (P := P) w t u ty e i ht hu hi hsize g n cap cur hg s hroom (by omega), .inl rfl⟩
    · have holds : ∀ j u, xs[j]? = some u → w.cell? ((⟨g, 0, none⟩ : Addr).add j) = some u := hown.cells (g := g) rfl
      exact ⟨_, _, Lib.run_append_grow_string (P := P) w t u ty e i (.int .u8 0) ht hu hi hz ⟨g, 0, none⟩ n cap xs (by rw [hsize]; simpa using hxl) holds s (by omega) (by omega) (by rw [hby]; exact growslice_fits (by omega) (by omega)), .inr rfl⟩
theorem d_append_string {P : Program} {w : World} {ops : Array Oper} {rest : List Oper} {o : Oper} {a : Act} {Q : Exit → Act → World → Prop} (hgd : o.guard = none) (sl x : Operand) (t u : TypeId)
    (ho : o.op = .call { callee := .builtin .append, args := #[sl, x], argTypes := #[t, u] })
    (base : Nat) (e : TypeId) (i : TypeInfo) (ht : P.underlying t = some (.slice e)) (hu : P.underlying u = some .string) (hi : P.info? e = some i) (hz : i.zero = some (.int .u8 0))
    (hsize : i.size = 1) (hby : i.bytes = 1)
    (v : Value) (n : Nat) (xs : List Value) (hs : a.eval sl = v) (hown : w.ownsRow base e 1 v n xs) (s : ByteArray) (hx : a.eval x = .string s)
    (h63 : n + s.size ≤ maxLen) (hbytes : n + s.size ≤ 140737488355328) (hbase : base ≤ w.heap.size)
    (h : ∀ v' w', w'.ownsRow base e 1 v' (n + s.size) (xs ++ Lib.strCells s) → w.grownBy w' v.ownBlock → (v'.ownBlock = v.ownBlock ∨ v'.ownBlock = some w.heap.size) → wpList P ops Q rest (a.put o.dst v') w') : wpList P ops Q (o :: rest) a w := by
  refine wpList_plain hgd fun K hK => ?_
  obtain ⟨v', w', hr, h2, h3, _⟩ := Lib.run_append_own_string (P := P) w base t u o.type e i ht hu hi hz hsize hby v n xs hown s h63 hbytes hbase
  obtain ⟨v2, w2, hr2, h4⟩ := d_append_block (P := P) w base t u o.type e i ht hu hi hz hsize hby v n xs hown s h63 hbytes
  rw [hr] at hr2
  injection hr2 with e1 e2
  subst e1
  unfold Oper.wp execOp
  simp only [ho, resolve, invoke, builtin, Sem.run_bind, Sem.run_pure, Result.andThen_ok, List.map_toArray, List.map_cons, List.map_nil, hs, hx, hr]
  exact hK _ _ (h v' w' h2 h3 h4)

theorem DiskAt.appData {w w' : World} {L : Lay} {S : DS} (h : DiskAt w L S) {n : Nat} (h1 : 1 ≤ n) (h2 : n ≤ S.made) {v' : Value} {s : ByteArray}
    (hown : w'.ownsRow 0 5 1 v' ((S.file n).data.length + s.size) (byts (S.file n).data ++ Lib.strCells s)) (hg : w.grownBy w' (L.dat n).ownBlock) (hn : v'.ownBlock = (L.dat n).ownBlock ∨ v'.ownBlock = some w.heap.size) :
    DiskAt (w'.setCell ⟨L.loc n, 1, none⟩ v') { L with dat := fun i => if i = n then v' else L.dat i, own := retag L.own v' (.data n) } (S.setF n { S.file n with data := (S.file n).data ++ sb s }) ∧
    (∀ k, k < w.heap.size → retag L.own v' (.data n) k = L.own k) ∧ Chn (fun t => t ≠ .free) L.own w (w'.setCell ⟨L.loc n, 1, none⟩ v') := by
  have t := h.tags
  have hll := h.loc_lt h1 h2
  have hC : Chn (fun t => t = .file n ∨ t = .data n) L.own w (w'.setCell ⟨L.loc n, 1, none⟩ v') :=
    ((Chn.refl _ _ _).grown hg (fun k e _ => .inr (t.dat n h1 h2 k e))).setCell (fun _ => .inl (t.loc n h1 h2)) _
  have hp : w'.heap[L.loc n]? = w.heap[L.loc n]? := hg.block _ hll (fun e => h.apart h1 h2 e.symm)
  have F := h.file n h1 h2
  have hne : v'.ownBlock ≠ some (L.loc n) := by
    rcases hn with e | e
    · rw [e]; exact h.apart h1 h2
    · rw [e]; intro e2; injection e2 with e2; omega
  have hf : FileAt (w'.setCell ⟨L.loc n, 1, none⟩ v') (L.loc n) n v' { S.file n with data := (S.file n).data ++ sb s } := by
    refine ⟨(World.cell?_setCell_other _ _ _ _ (by simp)).trans ((cell_keep hp).trans F.c0), World.cell?_setCell_same _ _ _ ((cell_keep hp).trans F.c1), (World.cell?_setCell_other _ _ _ _ (by simp)).trans ((cell_keep hp).trans F.c2), (World.cell?_setCell_other _ _ _ _ (by simp)).trans ((cell_keep hp).trans F.c3), fun o => by rw [frozen_setCell]; exact (frozen_keep hp).trans (F.fz o), ?_⟩
    show World.ownsRow _ 0 _ 1 v' ((S.file n).data ++ sb s).length (byts ((S.file n).data ++ sb s))
    rw [List.length_append, sb_length, ← byts_append, ← strCells_sb]
    exact row_keep hown fun k e => Below.heap_setCell _ _ _ _ (fun e2 => hne (by rw [e, e2]))
  have fin := h.reData h1 h2 hC hf (by
    rcases hn with e | e
    · exact .inl e
    · exact .inr (.inr (fun k ek => by rw [e] at ek; cases ek; exact Nat.le_refl _)))
  exact ⟨fin.1, fin.2, hC.mono (fun t e => by rcases e with e | e <;> rw [e] <;> simp)⟩

theorem beginS_used (S : DS) : (beginS S).used = S.used := by
  unfold beginS
  split
  · rfl
  · split <;> rfl
theorem DiskAt.dat_ne {w : World} {L : Lay} {S : DS} (h : DiskAt w L S) {n : Nat} (h1 : 1 ≤ n) (h2 : n ≤ S.made) : (L.dat n).ownBlock ≠ some L.b := fun e => by
  have a := h.tags.dat n h1 h2 _ e
  rw [h.tags.b] at a
  cases a
theorem findC_zero {S : DS} {name : ByteArray} {n : Nat} (h : findN S name = some n) : findC S name = 0 := by
  unfold findN at h
  unfold findC
  split at h
  · cases h
  · rename_i hd
    rw [if_neg hd, if_pos (by rw [h]; rfl)]
theorem findC_ne {S : DS} {name : ByteArray} (h : findN S name = none) : findC S name = 9 ∨ findC S name = 5 := by
  unfold findN at h
  unfold findC
  split at h
  · rename_i hd
    rw [if_pos hd]; exact .inl rfl
  · rename_i hd
    rw [if_neg hd, if_neg (by rw [h]; simp)]; exact .inr rfl
theorem findN_ref {S : DS} {name : ByteArray} {n : Nat} (h : findN S name = some n) (hr : ∀ p ∈ S.names, 1 ≤ p.2 ∧ p.2 ≤ S.made) : 1 ≤ n ∧ n ≤ S.made := by
  unfold findN at h
  split at h
  · cases h
  · exact hr _ (kget_some h)

set_option maxRecDepth 100000 in
set_option maxHeartbeats 1000000 in
theorem append_any (L : Lay) (S : DS) (name s : ByteArray) (w : World) (h : DiskAt w L S) (hf : Fine S) (hn : name.size ≤ maxLen) (hs : s.size ≤ 1099511627776) :
    Calls Tryz.prog 8 #[.pointer (some ⟨L.b, 0, none⟩), .string name, .string s] w (RanP L w (.int .i64 (appendC S name (sb s))) (appendS S name (sb s))) := by
  have cf := find_any L S w h name hn
  unfold appendC appendS
  rw [sb_length]
  have HD := Box.mk h
  cases hg : findN S name with
  | none =>
    rw [hg] at cf
    have hc := findC_ne hg
    obtain ⟨r, hr⟩ : ∃ r, r = findC S name := ⟨_, rfl⟩
    rw [← hr] at cf hc ⊢
    have e1 : (r != 0) = true := by rcases hc with e | e <;> rw [e] <;> rfl
    rw [if_pos (by rcases hc with e | e <;> rw [e] <;> decide)]
    have CF := Box.mk cf
    clear h hg hr hc cf
    go_enter Tryz.func8, Tryz.ntmps8
    go_wp2_with (go_at_call 21; ((with_reducible refine CF.out.mono ?_); rintro e w1 ⟨rfl, rfl⟩))
    go_ret
    exact ⟨rfl, Ran.refl HD.out⟩
  | some n =>
    rw [hg] at cf
    rw [findC_zero hg] at cf ⊢
    rw [if_neg (show ¬ ((0 : Int) ≠ 0) by simp)]
    have CF := Box.mk cf
    have cr := dfree_any L S w h hf
    obtain ⟨fr, hfr⟩ : ∃ x, x = S.free := ⟨_, rfl⟩
    rw [← hfr] at cr ⊢
    have CR := Box.mk cr
    simp only
    have hfb : -1 ≤ fr ∧ fr ≤ 9223372036854775807 := by rw [hfr]; unfold DS.free; have := hf.room1; have := hf.used0; omega
    obtain ⟨fb1, fb2⟩ := hfb
    by_cases hlt : fr < (s.size : Int)
    · rw [if_pos hlt, if_pos hlt]
      clear h hg hfr cf cr
      go_enter Tryz.func8, Tryz.ntmps8
      go_wp2_with (first
        | (go_at_call 21; ((with_reducible refine CF.out.mono ?_); rintro e w1 ⟨rfl, rfl⟩))
        | (go_at_call 22; ((with_reducible refine CR.out.mono ?_); rintro e w1 ⟨rfl, nn, rfl⟩)))
      go_ret
      exact ⟨rfl, Ran.of (HD.out.drewN nn) (T := fun _ => False) ⟨rfl, rfl, rfl, Nat.le_refl _, fun _ _ _ => rfl⟩ (fun t e => e.elim)⟩
    · rw [if_neg hlt, if_neg hlt]
      have cb := fun nn => dbegin_any L S (w.drewN nn) (h.drewN nn) hf
      have hk := beginS_keeps S
      have hku := beginS_used S
      have hnr := findN_ref hg hf.nref
      obtain ⟨h1, h2⟩ := hnr
      by_cases h8 : beginC S = 8
      · rw [if_pos h8]
        rw [h8] at cb ⊢
        have CB := Box.mk cb
        clear h hg h8 hk cb hku hfr cf cr
        go_enter Tryz.func8, Tryz.ntmps8
        go_wp2_with (first
          | (go_at_call 21; ((with_reducible refine CF.out.mono ?_); rintro e w1 ⟨rfl, rfl⟩))
          | (go_at_call 22; ((with_reducible refine CR.out.mono ?_); rintro e w1 ⟨rfl, nn, rfl⟩))
          | (go_at_call 19; ((with_reducible refine (CB.out nn).mono ?_); rintro e w1 ⟨rfl, d1, o1⟩; have D1 := Box.mk d1; have O1 := Box.mk o1; clear d1 o1)))
        go_ret
        exact ⟨rfl, Ran.of D1.out (T := fun t => t = .disk) ⟨O1.out.os, O1.out.tape, O1.out.output, O1.out.size, O1.out.block⟩ (fun t e => by rw [e]; simp)⟩
      · rw [if_neg h8]
        obtain ⟨r, hr⟩ : ∃ r, r = beginC S := ⟨_, rfl⟩
        rw [← hr] at cb ⊢
        have e2 : (r != 8) = true := by rw [hr]; simpa using h8
        have q1 := hf.used0; have q2 := hf.used1; have q3 := hf.data n h1 h2
        have hdl : ((beginS S).file n).data.length = (S.file n).data.length := by rw [hk.2.2.2.2]
        obtain ⟨i0, hi, hz0, hz1, hz2⟩ := info_parts info_byte
        have h2' : n ≤ (beginS S).made := by rw [hk.2.2.2.1]; exact h2
        have CB := Box.mk cb; have HDL := Box.mk hdl; have HU := Box.mk hku
        clear h hg h8 hk cb hku hfr cf cr hr hdl
        have fin : ∀ w1 w2 v' p l c, v' = .slice p l c → DiskAt w1 L (beginS S) → Chn (fun t => t = .disk) L.own w w1 → w2.ownsRow 0 5 1 v' (((beginS S).file n).data.length + s.size) (byts ((beginS S).file n).data ++ Lib.strCells s) → w1.grownBy w2 (L.dat n).ownBlock → (v'.ownBlock = (L.dat n).ownBlock ∨ v'.ownBlock = some w1.heap.size) →
            Ran w L (appF (beginS S) n (sb s)) ((w2.setCell ⟨L.loc n, 1, none⟩ v').setCell ⟨L.b, 5, none⟩ (.int .i64 (S.used + (s.size : Int)))) := fun w1 w2 v' p l c _ d1 o1 hown hg hn => by
          have A := d1.appData h1 h2' hown hg hn
          have D2 := A.1
          have e : (beginS S).used + ((sb s).length : Int) = S.used + (s.size : Int) := by rw [HU.out, sb_length]
          have D3 : DiskAt ((w2.setCell ⟨L.loc n, 1, none⟩ v').setCell ⟨L.b, 5, none⟩ (.int .i64 (S.used + (s.size : Int)))) { L with dat := fun i => if i = n then v' else L.dat i, own := retag L.own v' (.data n) } (appF (beginS S) n (sb s)) := by
            unfold appF
            rw [e]
            exact D2.reHead ((Chn.refl _ _ _).setCell (fun _ => D2.tags.b) _) (D2.head.s5 _) rfl rfl rfl rfl rfl
          refine ⟨_, D3, rfl, fun k hk => A.2.1 k (Nat.lt_of_lt_of_le hk o1.size), ?_⟩
          exact ((o1.mono (fun t e => by rw [e]; simp)).trans A.2.2).setCell (fun _ => by show L.own L.b ≠ .free; rw [d1.tags.b]; simp) _
        have FIN := Box.mk fin; clear fin
        go_enter Tryz.func8, Tryz.ntmps8
        go_wp2_with (first
          | (go_at_call 21; ((with_reducible refine CF.out.mono ?_); rintro e w1 ⟨rfl, rfl⟩))
          | (go_at_call 22; ((with_reducible refine CR.out.mono ?_); rintro e w1 ⟨rfl, nn, rfl⟩))
          | (go_at_call 19; ((with_reducible refine (CB.out nn).mono ?_); rintro e w1 ⟨rfl, d1, o1⟩; have y1 := (d1.file n h1 h2').c1; have hrow := (d1.file n h1 h2').row; have HROW := Box.mk hrow; have D1 := Box.mk d1; have O1 := Box.mk o1; clear d1 o1 hrow))
          | (at_builtin; (refine d_append_string rfl _ _ 52 9 rfl 0 5 i0 Tryz.underlying52 Tryz.underlying9 hi hz0 hz1 hz2 (L.dat n) ((beginS S).file n).data.length (byts ((beginS S).file n).data) rfl HROW.out s rfl (by have := HDL.out; unfold maxLen; omega) (by have := HDL.out; omega) (by omega) ?_; intro v' w2 hown hg hn; obtain ⟨p', l', c', rfl⟩ := d_slice hown; have z1 := cell_grown (Below.refl _ _) hg y1 (D1.out.apart h1 h2'); have z2 := frozen_grown (Below.refl _ _) hg (D1.out.loc_lt h1 h2') ((D1.out.file n h1 h2').fz 1) (D1.out.apart h1 h2'); have nb : (L.dat n).ownBlock ≠ some L.b := D1.out.dat_ne h1 h2'; have z5 := cell_grown (Below.refl _ _) hg D1.out.head.c5 nb; have z6 := frozen_grown (Below.refl _ _) hg D1.out.b_lt (D1.out.head.fz 5) nb; rw [HU.out] at z5; have nl := D1.out.loc_ne h1 h2'; have nl2 := Ne.symm nl; clear nb; have HO := Box.mk hown; have HG := Box.mk hg; have HN := Box.mk hn; clear hown hg hn)))
        go_ret
        exact ⟨rfl, FIN.out _ _ _ _ _ _ rfl D1.out ⟨O1.out.os, O1.out.tape, O1.out.output, O1.out.size, O1.out.block⟩ HO.out HG.out HN.out⟩

end Go.Proofs.YtdffpbfllekcgaaGreatDoor
