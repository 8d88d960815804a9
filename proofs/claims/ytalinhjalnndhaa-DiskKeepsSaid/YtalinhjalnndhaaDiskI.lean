/- Contracts of disk: Append. -/
import Derived.Test.YtalinhjalnndhaaDiskH
import Derived.Lib.AppendStr
namespace Go.Proofs.Ytalinhjalnndhaa
set_option maxRecDepth 100000
open Go.RowKit M

theorem d_slice {w : World} {B e z : Nat} {v : Value} {n : Nat} {xs : List Value} (h : w.ownsRow B e z v n xs) : ∃ p c, v = .slice p n c := by
  rcases h.2 with ⟨h2, h0⟩ | ⟨g, cap, cur, hv, _⟩
  · exact ⟨none, 0, by rw [h2, h0]⟩
  · exact ⟨_, _, hv⟩
/-- where the row lies behind an append -/
theorem d_append_block {P : Program} (w : World) (base : Nat) (t u ty e : TypeId) (i : TypeInfo) (ht : P.underlying t = some (.slice e)) (hu : P.underlying u = some .string) (hi : P.info? e = some i) (hz : i.zero = some (.int .u8 0))
    (hsize : i.size = 1) (hby : i.bytes = 1) (v : Value) (n : Nat) (xs : List Value) (hown : w.ownsRow base e 1 v n xs) (s : ByteArray)
    (h63 : n + s.size ≤ maxLen) (hbytes : n + s.size ≤ 140737488355328) :
    ∃ v' w', (Builtin.append_ #[t, u] ty #[v, .string s]).run P w = .ok v' w' ∧ (v'.ownBlock = v.ownBlock ∨ v'.ownBlock = some w.heap.size) := by
  have hsmall : n + s.size ≤ 9223372036854775807 := by simp only [maxLen] at h63; omega
  have hxl : xs.length = n := by simpa using hown.1
  rcases hown.2 with ⟨rfl, rfl⟩ | ⟨g, cap, cur, rfl, hbg, hg, hnc, hcm, hcs, htake⟩
  · by_cases hm : s.size = 0
    · refine ⟨.slice none 0 0, w, ?_, .inl rfl⟩
      have hf := Lib.run_firstCells_string (P := P) w 1 s
      rw [hm] at hf
      simp [Builtin.append_, run_underlying ht, run_underlying hu, sizeOf, typeInfo, hi, hsize, Builtin.lenOf, hm, hf]
    · exact ⟨_, _, run_append_nil_string (P := P) w t u ty e i (.int .u8 0) ht hu hi hz s (by omega) (by omega) (by rw [hby]; omega), .inr rfl⟩
  · by_cases hroom : n + s.size ≤ cap
    · have hcs' : cur.size = cap := by simpa using hcs
      exact ⟨_, _, Lib.run_append_room_string (P := P) w t u ty e i ht hu hi hsize g n cap cur hg s hroom (by omega), .inl rfl⟩
    · have holds : ∀ j u, xs[j]? = some u → w.cell? ((⟨g, 0, none⟩ : Addr).add j) = some u := hown.cells (g := g) rfl
      exact ⟨_, _, Lib.run_append_grow_string (P := P) w t u ty e i (.int .u8 0) ht hu hi hz ⟨g, 0, none⟩ n cap xs (by rw [hsize]; simpa using hxl) holds s (by omega) (by omega) (by rw [hby]; exact growslice_fits (by omega) (by omega)), .inr rfl⟩
theorem d_append_string {P : Program} {w : World} {ops : Array Oper} {rest : List Oper} {o : Oper} {a : Act} {Q : Exit → Act → World → Prop} (hgd : o.guard = none) (sl x : Operand) (t u : TypeId)
    (ho : o.op = .call { callee := .builtin .append, args := #[sl, x], argTypes := #[t, u] })
    (base : Nat) (e : TypeId) (i : TypeInfo) (ht : P.underlying t = some (.slice e)) (hu : P.underlying u = some .string) (hi : P.info? e = some i) (hz : i.zero = some (.int .u8 0))
    (hsize : i.size = 1) (hby : i.bytes = 1)
    (v : Value) (n : Nat) (xs : List Value) (hs : a.eval sl = v) (hown : w.ownsRow base e 1 v n xs) (s : ByteArray) (hx : a.eval x = .string s)
    (h63 : n + s.size ≤ maxLen) (hbytes : n + s.size ≤ 140737488355328) (hbase : base ≤ w.heap.size)
    (h : ∀ v' w', w'.ownsRow base e 1 v' (n + s.size) (xs ++ Lib.strCells s) → w.grownBy w' v.ownBlock → (v'.ownBlock = v.ownBlock ∨ v'.ownBlock = some w.heap.size) → wpList P ops Q rest (a.put o.dst v') w') : wpList P ops Q (o :: rest) a w := by
  refine wpList_plain hgd fun K hK => ?_
  obtain ⟨v', w', hr, h2, h3, _⟩ := Lib.run_append_own_string (P := P) w base t u o.type e i ht hu hi hz hsize hby v n xs hown s h63 hbytes hbase
  obtain ⟨v2, w2, hr2, h4⟩ := d_append_block (P := P) w base t u o.type e i ht hu hi hz hsize hby v n xs hown s h63 hbytes
  rw [hr] at hr2
  injection hr2 with e1 e2
  subst e1
  unfold Oper.wp execOp
  simp only [ho, resolve, invoke, builtin, Sem.run_bind, Sem.run_pure, Result.andThen_ok, List.map_toArray, List.map_cons, List.map_nil, hs, hx, hr]
  exact hK _ _ (h v' w' h2 h3 h4)

theorem DiskAt.appData {w w' : World} {L : Lay} {S : DS} (h : DiskAt w L S) {n : Nat} (h1 : 1 ≤ n) (h2 : n ≤ S.made) {v' : Value} {s : ByteArray}
    (hown : w'.ownsRow 0 5 1 v' ((S.file n).data.length + s.size) (byts (S.file n).data ++ Lib.strCells s)) (hg : w.grownBy w' (L.dat n).ownBlock) (hn : v'.ownBlock = (L.dat n).ownBlock ∨ v'.ownBlock = some w.heap.size) :
    DiskAt (w'.setCell ⟨L.loc n, 1, none⟩ v') { L with dat := fun i => if i = n then v' else L.dat i, own := retag L.own v' (.data n) } (S.setF n { S.file n with data := (S.file n).data ++ sb s }) ∧
    (∀ k, k < w.heap.size → retag L.own v' (.data n) k = L.own k) ∧ Chn (fun t => t ≠ .free) L.own w (w'.setCell ⟨L.loc n, 1, none⟩ v') := by
  have t := h.tags
  have hll := h.loc_lt h1 h2
  have hC : Chn (fun t => t = .file n ∨ t = .data n) L.own w (w'.setCell ⟨L.loc n, 1, none⟩ v') :=
    ((Chn.refl _ _ _).grown hg (fun k e _ => .inr (t.dat n h1 h2 k e))).setCell (fun _ => .inl (t.loc n h1 h2)) _
  have hp : w'.heap[L.loc n]? = w.heap[L.loc n]? := hg.block _ hll (fun e => h.apart h1 h2 e.symm)
  have F := h.file n h1 h2
  have hne : v'.ownBlock ≠ some (L.loc n) := by
    rcases hn with e | e
    · rw [e]; exact h.apart h1 h2
    · rw [e]; intro e2; injection e2 with e2; omega
  have hf : FileAt (w'.setCell ⟨L.loc n, 1, none⟩ v') (L.loc n) n v' { S.file n with data := (S.file n).data ++ sb s } := by
    refine ⟨(World.cell?_setCell_other _ _ _ _ (by simp)).trans ((cell_keep hp).trans F.c0), World.cell?_setCell_same _ _ _ ((cell_keep hp).trans F.c1), (World.cell?_setCell_other _ _ _ _ (by simp)).trans ((cell_keep hp).trans F.c2), (World.cell?_setCell_other _ _ _ _ (by simp)).trans ((cell_keep hp).trans F.c3), fun o => by rw [frozen_setCell]; exact (frozen_keep hp).trans (F.fz o), ?_⟩
    show World.ownsRow _ 0 _ 1 v' ((S.file n).data ++ sb s).length (byts ((S.file n).data ++ sb s))
    rw [List.length_append, sb_length, ← byts_append, ← strCells_sb]
    exact row_keep hown fun k e => Below.heap_setCell _ _ _ _ (fun e2 => hne (by rw [e, e2]))
  have fin := h.reData h1 h2 hC hf (by
    rcases hn with e | e
    · exact .inl e
    · exact .inr (.inr (fun k ek => by rw [e] at ek; cases ek; exact Nat.le_refl _)))
  exact ⟨fin.1, fin.2, hC.mono (fun t e => by rcases e with e | e <;> rw [e] <;> simp)⟩

theorem beginS_used (S : DS) : (beginS S).used = S.used := by
  unfold beginS
  split
  · rfl
  · split <;> rfl
theorem DiskAt.dat_ne {w : World} {L : Lay} {S : DS} (h : DiskAt w L S) {n : Nat} (h1 : 1 ≤ n) (h2 : n ≤ S.made) : (L.dat n).ownBlock ≠ some L.b := fun e => by
  have a := h.tags.dat n h1 h2 _ e
  rw [h.tags.b] at a
  cases a
theorem findC_zero {S : DS} {name : ByteArray} {n : Nat} (h : findN S name = some n) : findC S name = 0 := by
  unfold findN at h
  unfold findC
  split at h
  · cases h
  · rename_i hd
    rw [if_neg hd, if_pos (by rw [h]; rfl)]
theorem findC_ne {S : DS} {name : ByteArray} (h : findN S name = none) : findC S name = 9 ∨ findC S name = 5 := by
  unfold findN at h
  unfold findC
  split at h
  · rename_i hd
    rw [if_pos hd]; exact .inl rfl
  · rename_i hd
    rw [if_neg hd, if_neg (by rw [h]; simp)]; exact .inr rfl
theorem findN_ref {S : DS} {name : ByteArray} {n : Nat} (h : findN S name = some n) (hr : ∀ p ∈ S.names, 1 ≤ p.2 ∧ p.2 ≤ S.made) : 1 ≤ n ∧ n ≤ S.made := by
  unfold findN at h
  split at h
  · cases h
  · exact hr _ (kget_some h)

set_option maxRecDepth 100000 in
set_option maxHeartbeats 1000000 in
theorem append_any (L : Lay) (S : DS) (name s : ByteArray) (w : World) (h : DiskAt w L S) (hf : Fine S) (hn : name.size ≤ maxLen) (hs : s.size ≤ 1099511627776) :
    Calls Try.prog 14 #[.pointer (some ⟨L.b, 0, none⟩), .string name, .string s] w (RanP L w (.int .i64 (appendC S name (sb s))) (appendS S name (sb s))) := by
  have cf := find_any L S w h name hn
  unfold appendC appendS
  rw [sb_length]
  have HD := Box.mk h
  cases hg : findN S name with
  | none =>
    rw [hg] at cf
    have hc := findC_ne hg
    obtain ⟨r, hr⟩ : ∃ r, r = findC S name := ⟨_, rfl⟩
    rw [← hr] at cf hc ⊢
    have e1 : (r != 0) = true := by rcases hc with e | e <;> rw [e] <;> rfl
    rw [if_pos (by rcases hc with e | e <;> rw [e] <;> decide)]
    have CF := Box.mk cf
    clear h hg hr hc cf
    go_enter Try.func14, Try.ntmps14
    go_wp2_with (go_at_call 41; ((with_reducible refine CF.out.mono ?_); rintro e w1 ⟨rfl, rfl⟩))
    go_ret
    exact ⟨rfl, Ran.refl HD.out⟩
  | some n =>
    rw [hg] at cf
    rw [findC_zero hg] at cf ⊢
    rw [if_neg (show ¬ ((0 : Int) ≠ 0) by simp)]
    have CF := Box.mk cf
    have cr := dfree_any L S w h hf
    obtain ⟨fr, hfr⟩ : ∃ x, x = S.free := ⟨_, rfl⟩
    rw [← hfr] at cr ⊢
    have CR := Box.mk cr
    simp only
    have hfb : -1 ≤ fr ∧ fr ≤ 9223372036854775807 := by rw [hfr]; unfold DS.free; have := hf.room1; have := hf.used0; omega
    obtain ⟨fb1, fb2⟩ := hfb
    by_cases hlt : fr < (s.size : Int)
    · rw [if_pos hlt, if_pos hlt]
      clear h hg hfr cf cr
      go_enter Try.func14, Try.ntmps14
      go_wp2_with (first
        | (go_at_call 41; ((with_reducible refine CF.out.mono ?_); rintro e w1 ⟨rfl, rfl⟩))
        | (go_at_call 24; ((with_reducible refine CR.out.mono ?_); rintro e w1 ⟨rfl, nn, rfl⟩)))
      go_ret
      exact ⟨rfl, Ran.of (HD.out.drewN nn) (T := fun _ => False) ⟨rfl, rfl, rfl, Nat.le_refl _, fun _ _ _ => rfl⟩ (fun t e => e.elim)⟩
    · rw [if_neg hlt, if_neg hlt]
      have cb := fun nn => dbegin_any L S (w.drewN nn) (h.drewN nn) hf
      have hk := beginS_keeps S
      have hku := beginS_used S
      have hnr := findN_ref hg hf.nref
      obtain ⟨h1, h2⟩ := hnr
      by_cases h8 : beginC S = 8
      · rw [if_pos h8]
        rw [h8] at cb ⊢
        have CB := Box.mk cb
        clear h hg h8 hk cb hku hfr cf cr
        go_enter Try.func14, Try.ntmps14
        go_wp2_with (first
          | (go_at_call 41; ((with_reducible refine CF.out.mono ?_); rintro e w1 ⟨rfl, rfl⟩))
          | (go_at_call 24; ((with_reducible refine CR.out.mono ?_); rintro e w1 ⟨rfl, nn, rfl⟩))
          | (go_at_call 39; ((with_reducible refine (CB.out nn).mono ?_); rintro e w1 ⟨rfl, d1, o1⟩; have D1 := Box.mk d1; have O1 := Box.mk o1; clear d1 o1)))
        go_ret
        exact ⟨rfl, Ran.of D1.out (T := fun t => t = .disk) ⟨O1.out.os, O1.out.tape, O1.out.output, O1.out.size, O1.out.block⟩ (fun t e => by rw [e]; simp)⟩
      · rw [if_neg h8]
        obtain ⟨r, hr⟩ : ∃ r, r = beginC S := ⟨_, rfl⟩
        rw [← hr] at cb ⊢
        have e2 : (r != 8) = true := by rw [hr]; simpa using h8
        have q1 := hf.used0; have q2 := hf.used1; have q3 := hf.data n h1 h2
        have hdl : ((beginS S).file n).data.length = (S.file n).data.length := by rw [hk.2.2.2.2]
        obtain ⟨i0, hi, hz0, hz1, hz2⟩ := info_parts info_byte
        have h2' : n ≤ (beginS S).made := by rw [hk.2.2.2.1]; exact h2
        have CB := Box.mk cb; have HDL := Box.mk hdl; have HU := Box.mk hku
        clear h hg h8 hk cb hku hfr cf cr hr hdl
        have fin : ∀ w1 w2 v' p l c, v' = .slice p l c → DiskAt w1 L (beginS S) → Chn (fun t => t = .disk) L.own w w1 → w2.ownsRow 0 5 1 v' (((beginS S).file n).data.length + s.size) (byts ((beginS S).file n).data ++ Lib.strCells s) → w1.grownBy w2 (L.dat n).ownBlock → (v'.ownBlock = (L.dat n).ownBlock ∨ v'.ownBlock = some w1.heap.size) →
            Ran w L (appF (beginS S) n (sb s)) ((w2.setCell ⟨L.loc n, 1, none⟩ v').setCell ⟨L.b, 5, none⟩ (.int .i64 (S.used + (s.size : Int)))) := fun w1 w2 v' p l c _ d1 o1 hown hg hn => by
          have A := d1.appData h1 h2' hown hg hn
          have D2 := A.1
          have e : (beginS S).used + ((sb s).length : Int) = S.used + (s.size : Int) := by rw [HU.out, sb_length]
          have D3 : DiskAt ((w2.setCell ⟨L.loc n, 1, none⟩ v').setCell ⟨L.b, 5, none⟩ (.int .i64 (S.used + (s.size : Int)))) { L with dat := fun i => if i = n then v' else L.dat i, own := retag L.own v' (.data n) } (appF (beginS S) n (sb s)) := by
            unfold appF
            rw [e]
            exact D2.reHead ((Chn.refl _ _ _).setCell (fun _ => D2.tags.b) _) (D2.head.s5 _) rfl rfl rfl rfl rfl
          refine ⟨_, D3, rfl, fun k hk => A.2.1 k (Nat.lt_of_lt_of_le hk o1.size), ?_⟩
          exact ((o1.mono (fun t e => by rw [e]; simp)).trans A.2.2).setCell (fun _ => by show L.own L.b ≠ .free; rw [d1.tags.b]; simp) _
        have FIN := Box.mk fin; clear fin
        go_enter Try.func14, Try.ntmps14
        go_wp2_with (first
          | (go_at_call 41; ((with_reducible refine CF.out.mono ?_); rintro e w1 ⟨rfl, rfl⟩))
          | (go_at_call 24; ((with_reducible refine CR.out.mono ?_); rintro e w1 ⟨rfl, nn, rfl⟩))
          | (go_at_call 39; ((with_reducible refine (CB.out nn).mono ?_); rintro e w1 ⟨rfl, d1, o1⟩; have y1 := (d1.file n h1 h2').c1; have hrow := (d1.file n h1 h2').row; have HROW := Box.mk hrow; have D1 := Box.mk d1; have O1 := Box.mk o1; clear d1 o1 hrow))
          | (at_builtin; (refine d_append_string rfl _ _ 76 9 rfl 0 5 i0 Try.underlying76 Try.underlying9 hi hz0 hz1 hz2 (L.dat n) ((beginS S).file n).data.length (byts ((beginS S).file n).data) rfl HROW.out s rfl (by have := HDL.out; unfold maxLen; omega) (by have := HDL.out; omega) (by omega) ?_; intro v' w2 hown hg hn; obtain ⟨p', l', c', rfl⟩ := d_slice hown; have z1 := cell_grown (Below.refl _ _) hg y1 (D1.out.apart h1 h2'); have z2 := frozen_grown (Below.refl _ _) hg (D1.out.loc_lt h1 h2') ((D1.out.file n h1 h2').fz 1) (D1.out.apart h1 h2'); have nb : (L.dat n).ownBlock ≠ some L.b := D1.out.dat_ne h1 h2'; have z5 := cell_grown (Below.refl _ _) hg D1.out.head.c5 nb; have z6 := frozen_grown (Below.refl _ _) hg D1.out.b_lt (D1.out.head.fz 5) nb; rw [HU.out] at z5; have nl := D1.out.loc_ne h1 h2'; have nl2 := Ne.symm nl; clear nb; have HO := Box.mk hown; have HG := Box.mk hg; have HN := Box.mk hn; clear hown hg hn)))
        go_ret
        exact ⟨rfl, FIN.out _ _ _ _ _ _ rfl D1.out ⟨O1.out.os, O1.out.tape, O1.out.output, O1.out.size, O1.out.block⟩ HO.out HG.out HN.out⟩

end Go.Proofs.Ytalinhjalnndhaa
