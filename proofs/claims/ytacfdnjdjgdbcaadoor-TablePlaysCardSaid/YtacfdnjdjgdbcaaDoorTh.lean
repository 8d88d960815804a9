/- TabS, TabT, in one text. -/
import Derived.Test.YtacfdnjdjgdbcaaDoorTg
import Derived.BigQuiet
import Derived.Maps.RangeWalk
namespace Go.Proofs.YtacfdnjdjgdbcaaDoor
set_option maxRecDepth 100000
open Go.RowKit Go.Maps Go.Sort M

set_option maxRecDepth 100000 in
set_option maxHeartbeats 4000000 in
theorem grow_any (v : Value) (n : Nat) (A B : Nat → ByteArray) (w : World) (h : IIn w v n A B) (hn : n ≤ 9223372036854775807) (hK : KTab w) :
    Calls Tryd.prog 4 #[v] w (GrowP w n A B) := by
  obtain ⟨vp, vc, rfl⟩ := h.shape
  have hbl : ∀ i, (byts (itE A B i).key).length = 32 := fun i => by rw [byts_length]; exact (itE A B i).kl
  have ht : ∀ (W : World) (Z : Array Value), Z.size = 32 → (W.alloc (.cells Z 24)).there W.heap.size 0 32 := fun W Z hZ => by
    have := there_new W 24 Z.toList W.heap.size 0 32 rfl (by simp [hZ])
    simpa using this
  have H := Box.mk h; have HK := Box.mk hK
  obtain ⟨V, hV⟩ : ∃ V, V = w.alloc (.cells #[.map none] 52) := ⟨_, rfl⟩
  have bV : Below w.heap.size w V := by rw [hV]; exact aset22 _ _
  have sV : V.heap.size = w.heap.size + 1 := by rw [hV]; simp
  have tV : V.heap[w.heap.size]? = some (.cells #[.map none] 52 (0, 0)) := by rw [hV]; exact heap_alloc_new w _
  have T0 : Tab V w.heap.size none [] := ⟨by simp only [World.cell?, tV]; rfl, by simp only [World.frozen?, tV]; rfl, fun _ => rfl, fun m e => by cases e⟩
  have b0 : Below w.heap.size w (V.alloc (.cells #[] 42)) := bV.alloc (by omega) _
  have TT0 := Box.mk (T0.below (aset22 V (.cells #[] 42)))
  have B0 := Box.mk b0; have HV := Box.mk hV
  clear h hK bV tV T0 b0 sV hV
  go_enter Tryd.func4, Tryd.ntmps4
  go_wp2_with fail
  rw [← HV.out]
  clear HV
  go_loopw [5, 6] (fun v i wr => ∃ (k : Nat) (l R : List Ent) (mo : Option Nat), i = .int .i64 (k : Int) ∧ k ≤ n ∧ k ≤ 12 ∧ Box (Tab wr w.heap.size mo l) ∧ Box (RefIn wr v R) ∧ Box (R.Perm l) ∧ Box (Rising R) ∧ Box (l.Sublist (itL A B k)) ∧ Box (Below w.heap.size w wr) ∧ Box (∀ m, mo = some m → w.heap.size ≤ m) ∧ Box (∀ k, v.ownBlock = some k → w.heap.size ≤ k)) (fun _ i _ => min n 12 - (intOf i).toNat)
  case atStart => exact ⟨0, [], [], none, rfl, by omega, by omega, TT0, ⟨⟨⟨_, _, rfl⟩, fun h => absurd h (by simp)⟩⟩, ⟨List.Perm.refl _⟩, ⟨List.Pairwise.nil⟩, ⟨List.Sublist.refl _⟩, B0, ⟨fun m e => by cases e⟩, ⟨fun k e => by cases e; exact Nat.le_succ _⟩⟩
  case round =>
    obtain ⟨k, l, R, mo, rfl, hkn, hk12, hT, hR, hP, hS, hL, hB, hM, hV⟩ := hrel
    by_cases hlt : k < n ∧ k < 12
    · obtain ⟨ib, io, ic, hv, hib, hc⟩ := H.out.cells (by omega)
      obtain ⟨rfl, _, rfl⟩ := Value.slice.inj hv
      obtain ⟨hlt1, hlt2⟩ := hlt
      obtain ⟨c0, c1⟩ := hc k hlt1
      have q0 : wr.cell? ⟨ib, io + k * 2, none⟩ = some (.string (A k)) := (hB.out.cell hib).trans c0
      have hll : l.length ≤ 12 := by have := hL.out.length_le; rw [itL_length] at this; omega
      have hRl : R.length ≤ 12 := by have := hP.out.length_eq; omega
      obtain ⟨x, hx⟩ : ∃ x, x = itE A B k := ⟨_, rfl⟩
      have hbx := hbl k
      have cu1 : ∀ W : World, Calls Tryd.prog 11 #[.string (A k), .int .i64 20] W fun e w' => e = .returned (.string ((A k).extract 0 20)) ∧ W = w' := fun W => cut_any (A k) 20 W
      have cu2 : ∀ W : World, Calls Tryd.prog 11 #[.string (B k), .int .i64 60] W fun e w' => e = .returned (.string x.text) ∧ W = w' := fun W => by rw [hx]; exact cut_any (B k) 60 W
      have co : ∀ W, Below w.heap.size w W → Calls Tryd.prog 10 #[.string ((A k).extract 0 20)] W fun e w' => e = .returned (.agg (byts x.key).toArray) ∧ Below W.heap.size W w' := fun W hb => by
        rw [hx]; exact shaOf_any _ (by rw [ByteArray.size_extract]; omega) W (ktab_below HK.out hb)
      rw [← hx] at hbx
      have cp : ∀ W, Tab W w.heap.size mo l → Calls Tryd.prog 17 #[.pointer (some ⟨w.heap.size, 0, none⟩), .agg (byts x.key).toArray, .string x.text] W (TPutP w.heap.size mo l x W) := fun W h => tput_any w.heap.size mo l x W h (by omega)
      have cr : ∀ W, RefIn W u5 R → Calls Tryd.prog 18 #[u5, .agg #[.string (bs x.key), .string x.text]] W fun e w' => ∃ v' bl R', e = .returned (.tuple #[v', .bool bl]) ∧ RefIn w' v' R' ∧ Below W.heap.size W w' ∧ (((∃ y ∈ R, y.key = x.key) ∧ R' = R) ∨ ((∀ y ∈ R, y.key ≠ x.key) ∧ R' = insR x R)) ∧ ∀ k, v'.ownBlock = some k → v' = u5 ∨ W.heap.size ≤ k := fun W h => rput2_any R x u5 W h (by omega)
      have hcv : ∀ W (g : Nat), W.rangeAt g 0 (byts x.key) → (convert 40 9 (.slice (some ⟨g, 0, none⟩) 32 32)).run Tryd.prog W = .ok (.string (bs x.key)) W := fun W g h => conv_rangeI (cap := 32) x.kl h
      have hb1 := byts_one x.key
      have st := fun l' R' bl h1 h2 => grow_step (l' := l') (R' := R') (bl := bl) hx hP.out hS.out hL.out h1 h2
      obtain ⟨C, hC⟩ : ∃ C, C = byts x.key := ⟨_, rfl⟩
      rw [← hC] at hbx hb1 co cp hcv
      obtain ⟨S, hSs⟩ : ∃ S, S = bs x.key := ⟨_, rfl⟩
      rw [← hSs] at cr hcv
      obtain ⟨A2, hA2⟩ : ∃ A2, A2 = (A k).extract 0 20 := ⟨_, rfl⟩
      rw [← hA2] at cu1 co
      obtain ⟨Tx, hTx⟩ : ∃ T, T = x.text := ⟨_, rfl⟩
      rw [← hTx] at cu2 cp cr
      obtain ⟨Ak, hAk⟩ : ∃ a, a = A k := ⟨_, rfl⟩
      rw [← hAk] at q0 cu1
      obtain ⟨Bk, hBk⟩ : ∃ a, a = B k := ⟨_, rfl⟩
      rw [← hBk] at c1 cu2
      have CU1 := Box.mk cu1; have CU2 := Box.mk cu2; have CO := Box.mk co; have CP := Box.mk cp; have CR := Box.mk cr; have HCV := Box.mk hcv; have ST := Box.mk st; have CC1 := Box.mk c1
      clear cu1 cu2 co cp cr hcv st c0 c1 hc hv hx hC hSs hA2 hTx hAk hBk
      go_wp2_with (first
        | (go_at_call 11; ((with_reducible refine (CU1.out _).mono ?_); rintro e w' ⟨rfl, rfl⟩; clear CU1))
        | (go_at_call 11; ((with_reducible refine (CU2.out _).mono ?_); rintro e w' ⟨rfl, rfl⟩; clear CU2))
        | (go_at_call 10; ((with_reducible refine (CO.out _ hB.out).mono ?_); rintro e w1 ⟨rfl, b1⟩; have T1 := Box.mk (hT.out.below (b1.alloc b1.size (.cells C.toArray 24))); have R1 := Box.mk (hR.out.below (b1.alloc b1.size (.cells C.toArray 24))); have B1 := Box.mk (hB.out.trans ((b1.alloc b1.size (.cells C.toArray 24)).mono hB.out.size)); have RR := Box.mk (range_new w1 24 C w1.heap.size rfl); have LW := Box.mk (show wr.heap.size ≤ w1.heap.size from b1.size); have SA := Box.mk (show (w1.alloc (.cells C.toArray 24)).heap.size = w1.heap.size + 1 by simp); clear b1 CO))
        | ((with_reducible refine at_store 24 (.tmp 7) (.tmp 30) ?_); refine wpList_store_mid rfl 24 (.tmp 7) (.tmp 30) rfl w1.heap.size 0 C.toArray rfl rfl (by have e : C.toArray.size = 32 := (by simp [hbx]); rw [e]; exact ht w1 _ rfl) (by have e : C.toArray.size = 32 := (by simp [hbx]); rw [e]; exact info_hash) (all_oneCell_toArray hb1) ?_; rw [show (w1.alloc _).setCells w1.heap.size 0 C.toArray.toList = w1.alloc (.cells C.toArray 24) from fillE w1 _ _ _ (by simp [hbx])]; obtain ⟨W2, hW2⟩ : ∃ W2, W2 = w1.alloc (.cells C.toArray 24) := ⟨_, rfl⟩; rw [← hW2]; rw [← hW2] at T1 R1 B1 RR SA; have q1 : W2.cell? ⟨ib, io + k * 2 + 1, none⟩ = some (.string Bk) := (B1.out.cell hib).trans CC1.out; clear hW2)
        | ((with_reducible refine at_load 24 (.tmp 7) ?_); refine wpList_load_mid rfl 24 (.tmp 7) rfl w1.heap.size 0 rfl C _ RR.out und_hash rfl (by rw [hbx]; exact info_hash) ?_)
        | (go_at_call 17; ((with_reducible refine (CP.out _ T1.out).mono ?_); rintro e w3 ⟨bl, mo3, l3, rfl, t3, x3, d3⟩; have T3 := Box.mk t3; have R3 := Box.mk (R1.out.text T1.out x3); have B3 := Box.mk (B1.out.trans (x3.below (B := w.heap.size) (Nat.le_refl _) B1.out.size hM.out)); have RR3 := range_keep RR.out (x3.block w1.heap.size (by have := SA.out; omega) (by have := LW.out; have := hT.out.lt; omega) (fun e => by have a := (hT.out.mapd _ e).2.lt; have := LW.out; omega)); have M3 := Box.mk (show ∀ m, mo3 = some m → w.heap.size ≤ m from fun m e => by rcases x3.lies with q | q; exact hM.out m (q ▸ e); have := q m e; have := B1.out.size; omega); have hcv3 := HCV.out w3 _ RR3; have D3 := Box.mk d3; clear t3 x3 d3 RR3 CP))
        | (go_at_call 18; ((with_reducible refine (CR.out _ R3.out).mono ?_); rintro e w4 ⟨v4, bl4, R4, rfl, r4, b4, d4, o4⟩; have O4 := Box.mk (show ∀ k, v4.ownBlock = some k → w.heap.size ≤ k from fun k hk => by rcases o4 k hk with q | q; exact hV.out k (q ▸ hk); exact Nat.le_trans B3.out.size q); have T4 := Box.mk (T3.out.below b4); have B4 := Box.mk (B3.out.trans (b4.mono B3.out.size)); have RI4 := Box.mk r4; have F4 := Box.mk (ST.out l3 R4 bl D3.out d4); clear r4 b4 d4 o4 CR)))
      go_roundw
      case rel => exact ⟨k + 1, l3, R4, mo3, by go_num, by omega, by omega, T4, RI4, ⟨F4.out.1⟩, ⟨F4.out.2.1⟩, ⟨F4.out.2.2⟩, B4, M3, O4⟩
      case measure => simp [intOf] <;> omega
    · have hkm : k = min n 12 := by omega
      have hL2 := hL.out
      rw [hkm] at hL2
      have L2 := Box.mk hL2
      clear hL2 hkm
      go_wp2_with fail
      all_goals exact bodyPost_ret (v := .tuple #[.pointer (some ⟨w.heap.size, 0, none⟩), u5]) (by simp [results, go_sem]) rfl ⟨w.heap.size, mo, l, u5, R, rfl, hT.out, hR.out, hP.out, hS.out, L2.out, hB.out, Nat.le_refl _, hM.out, hV.out⟩
end Go.Proofs.YtacfdnjdjgdbcaaDoor
namespace Go.Proofs.YtacfdnjdjgdbcaaDoor
set_option maxRecDepth 100000
open Go.RowKit Go.Maps Go.Sort M

/-- what Get tells of an entry -/
def TGetP (x : Ent) (l : List Ent) (w : World) (e : Ending) (w' : World) : Prop :=
  ∃ s f, e = .returned (.tuple #[.string s, .bool f]) ∧ Below w.heap.size w w' ∧ ((f = true ∧ s = x.text) ↔ x ∈ l)
theorem tget_any (b : Nat) (mo : Option Nat) (l : List Ent) (x : Ent) (w : World) (h : Tab w b mo l) :
    Calls Tryd.prog 12 #[.pointer (some ⟨b, 0, none⟩), ekE x] w (TGetP x l w) := by
  by_cases hy : ∃ y ∈ l, kkE y = kkE x
  · obtain ⟨y, hy, he⟩ := hy
    exact (get_there b mo l x y w h hy he).mono fun e w' ⟨h1, h2⟩ => ⟨y.text, true, h1, h2, fun hh => by
      have : y = x := Ent.eq (kkE_eq he) hh.2
      rw [← this]; exact hy, fun hx => ⟨rfl, by rw [h.uniq y hy x hx he]⟩⟩
  · exact (get_none b mo l x w h (fun y h1 h2 => hy ⟨y, h1, h2⟩)).mono fun e w' ⟨h1, h2⟩ => ⟨⟨#[]⟩, false, h1, h2, fun hh => absurd hh.1 (by decide), fun hx => absurd ⟨x, hx, rfl⟩ hy⟩
theorem grown_of {b : Nat} {w w' : World} (h : Below b w w') (hb : w.heap.size ≤ b) : w.grownBy w' none := ⟨h.os, h.tape, h.output, h.size, fun i hi _ => h.block i (by omega)⟩
theorem below_grown {b : Nat} {w w' : World} {r : Nat} (h : w.grownBy w' (some r)) (hb : b ≤ r) (hw : b ≤ w.heap.size) : Below b w w' := ⟨h.os, h.tape, h.output, h.size, fun i hi => h.block i (by omega) (fun e => by injection e with e; omega)⟩
theorem fillN (w : World) (T : TypeId) (Z : Array Value) (cs : List Value) (n : Nat) (hn : n = w.heap.size) (h : Z.size = cs.length) : (w.alloc (.cells Z T)).setCells n 0 cs = w.alloc (.cells cs.toArray T) := by
  rw [hn]; exact fillE w T Z cs h
theorem setCells_past (o : Obj) (n : Nat) : ∀ (cs : List Value) (i : Nat) (w : World), n < w.heap.size → (w.alloc o).setCells n i cs = (w.setCells n i cs).alloc o
  | [], _, _, _ => rfl
  | c :: cs, i, w, h => by
    rw [World.setCells, World.setCells, World.setCell_alloc_past o n i c h]
    exact setCells_past o n cs (i + 1) _ (by simpa [World.setCell] using h)
theorem fillP (w : World) (T : TypeId) (Z : Array Value) (cs : List Value) (o : Obj) (h : Z.size = cs.length) : ((w.alloc (.cells Z T)).alloc o).setCells w.heap.size 0 cs = (w.alloc (.cells cs.toArray T)).alloc o := by
  rw [setCells_past o _ _ _ _ (by simp), fillE w T Z cs h]
theorem there_past {w : World} {b n : Nat} (o : Obj) (h : w.there b 0 n) (hb : b < w.heap.size) : (w.alloc o).there b 0 n := fun j hj => by
  obtain ⟨a, f⟩ := h j hj
  exact ⟨by rw [(aset22 w o).cell hb]; exact a, by rw [World.frozen?_of_block (w := w) (a := ⟨b, 0 + j, none⟩) ((aset22 w o).block b hb)]; exact f⟩

/-- what Within answers -/
def WithinP (l1 l2 : List Ent) (w : World) (e : Ending) (w' : World) : Prop :=
  ∃ β : Bool, e = .returned (.bool β) ∧ (β = true ↔ ∀ x ∈ l1, x ∈ l2) ∧ Below w.heap.size w w'

set_option maxRecDepth 100000 in
set_option maxHeartbeats 2000000 in
theorem within_any (b1 : Nat) (mo1 : Option Nat) (l1 : List Ent) (b2 : Nat) (mo2 : Option Nat) (l2 : List Ent) (w : World) (h1 : Tab w b1 mo1 l1) (h2 : Tab w b2 mo2 l2) :
    Calls Tryd.prog 7 #[.pointer (some ⟨b1, 0, none⟩), .pointer (some ⟨b2, 0, none⟩)] w (WithinP l1 l2 w) := by
  have c0 := h1.cell
  cases mo1 with
  | none =>
    rw [h1.empt rfl]
    have hrg := run_range_nilMap (P := Tryd.prog) w 50 24 62 Tryd.underlying50
    have hnx : ∀ ty, (Instr.next (.pointer (some ⟨w.heap.size, 0, none⟩)) false ty).run Tryd.prog (w.alloc (.mapIter none 0 #[] 0)) = _ := fun ty => run_next_nilMap _ ty 0 0 #[]
    clear h1 h2
    go_enter Tryd.func7, Tryd.ntmps7
    go_wp2_with fail
    refine wp_loop_rounds 1 ?_
    rw [rounds_succ]
    go_wp2_with fail
    go_ret
    exact ⟨true, rfl, by simp, aset22 w _⟩
  | some m =>
    obtain ⟨hmb, hmap⟩ := h1.mapd m rfl
    obtain ⟨D0, hown⟩ := hmap.owns (H := Unit) codedE
    have H2 := Box.mk h2
    clear h1 h2 hmb
    go_enter Tryd.func7, Tryd.ntmps7
    go_wp2_with (first
      | (at_range; refine wpList_range_own _ rfl _ 50 rfl 24 62 codedE.keyed Tryd.underlying50 _ m l1.length _ rfl hown ?_; intro w0 hrg0 hg0 hs0))
    go_frame
    go_loopw [5] (fun _ wr => ∃ (left : Lit → Bool) (cnt : Nat) (ps : List Ent), wr.ranges Tryd.prog 24 (rdG (H := Unit) evE ccE) m w.heap.size l1.length D0 left cnt ∧ Collected D0 left (ps.map kkE) ∧ (∀ p ∈ ps, p ∈ l1) ∧ (∀ p ∈ ps, p ∈ l2) ∧ Box (Below w.heap.size w wr))
      (fun _ wr => wr.rangeLeft m w.heap.size)
    case atStart =>
      exact ⟨_, _, [], hrg0, Collected.start D0, by simp, by simp, ⟨hg0.os, hg0.tape, hg0.output, hg0.size, fun i hi => hg0.block i hi (by simp)⟩⟩
    case round =>
      obtain ⟨left, cnt, ps, hrg, hC, hV, hV2, hB⟩ := hrel
      go_wp2_with (first
        | (at_next; refine wpList_next_ranges _ rfl _ rfl 24 codedE.keyed (rdG (H := Unit) evE ccE) id id (fun key kl hk => ⟨key, rfl⟩) (fun v y hv => ⟨v, rfl⟩) m w.heap.size l1.length _ _ _ rfl hrg ?_ ?_))
      · intro _ hl0
        have hpp := hmap.all_come codedE hown Tryd.underlying50 (zero_entry w) hC hl0 hV
        have HP := Box.mk (show ∀ x ∈ l1, x ∈ l2 from fun x hx => hV2 x (hpp.mem_iff.2 hx))
        clear hpp hV hV2 hC
        go_wp2_with fail
        go_ret
        exact ⟨true, rfl, ⟨fun _ => HP.out, fun _ => rfl⟩, hB.out⟩
      · intro x c kl yd yp w2 cnt2 hkey hlk hv hat hrg2 hlt hg2 hs2 hen
        obtain ⟨p, hp, ex, ec, rfl⟩ := hmap.entry codedE hown Tryd.underlying50 (zero_entry w) hkey hv hat
        have ex : x = ekE p := ex
        have ec : c = evE p := ec
        subst ex; subst ec
        have hb2 : Below w.heap.size w w2 := hB.out.trans (below_grown hg2 (Nat.le_refl _) hB.out.size)
        obtain ⟨Wa, hWa⟩ : ∃ W, W = w2.alloc (.cells (byts p.key).toArray 24) := ⟨_, rfl⟩
        have sa : Wa.heap.size = w2.heap.size + 1 := by rw [hWa]; simp
        obtain ⟨W3, hW3⟩ : ∃ W, W = Wa.alloc (.cells (encE p).toArray 62) := ⟨_, rfl⟩
        have s3 : W3.heap.size = w2.heap.size + 2 := by rw [hW3]; simp [sa]
        have ba : Below w2.heap.size w2 Wa := by rw [hWa]; exact aset22 _ _
        have b3 : Below Wa.heap.size Wa W3 := by rw [hW3]; exact aset22 _ _
        have b23 : Below w2.heap.size w2 W3 := ba.trans (b3.mono (by omega))
        have bw3 : Below w.heap.size w W3 := hb2.trans (b23.mono hb2.size)
        have hrg3 := hrg2.kept (grown_of b23 (Nat.le_refl _)) (by simp) (by simp)
        have ra : Wa.rangeAt w2.heap.size 0 (byts p.key) := by rw [hWa]; exact range_new _ _ _ _ rfl
        have r3 : W3.rangeAt w2.heap.size 0 (byts p.key) := range_below b3 (by
          have := ra; exact this) |> fun h => h
        have t3 : W3.rangeAt (w2.heap.size + 1) 0 (encE p) := by rw [hW3]; exact range_new _ _ _ _ (by rw [sa])
        have c32 : W3.cell? ⟨w2.heap.size + 1, 32, none⟩ = some (.string p.text) := by have := t3 32 _ (encE_last p); rwa [Nat.zero_add] at this
        have ht24 : ∀ (Z : Array Value) (o : Obj), Z.size = 32 → ((w2.alloc (.cells Z 24)).alloc o).there w2.heap.size 0 32 := fun Z o hZ => by
          have := there_new w2 24 Z.toList w2.heap.size 0 32 rfl (by simp [hZ])
          exact there_past o (by simpa using this) (by simp)
        have ht69 : ∀ Z : Array Value, Z.size = 33 → (Wa.alloc (.cells Z 62)).there (w2.heap.size + 1) 0 33 := fun Z hZ => by
          have := there_new Wa 62 Z.toList (w2.heap.size + 1) 0 33 (by rw [sa]) (by simp [hZ])
          simpa using this
        have hkl : (byts p.key).length = 32 := by rw [byts_length]; exact p.kl
        have hk1 := byts_one p.key
        have hen2 : (Instr.entry (.pointer (some ⟨w.heap.size, 0, none⟩))).run Tryd.prog w2 = .ok (.tuple #[.agg (byts p.key).toArray, .agg (encE p).toArray]) w2 := hen
        have cg : ∀ W, Tab W b2 mo2 l2 → Calls Tryd.prog 12 #[.pointer (some ⟨b2, 0, none⟩), .agg (byts p.key).toArray] W (TGetP p l2 W) := fun W h => tget_any b2 mo2 l2 p W h
        have CG := Box.mk cg; have T3 := Box.mk (H2.out.below bw3); have BW3 := Box.mk bw3; have HRG3 := Box.mk hrg3; have R3 := Box.mk r3; have HWa := Box.mk hWa; have HW3 := Box.mk hW3; have S3 := Box.mk s3; have SA := Box.mk sa; have C32 := Box.mk c32; have HAT := Box.mk hat; have HLT := Box.mk hlt; have HLK := Box.mk hlk; have HRG := Box.mk hrg
        obtain ⟨K, hK⟩ : ∃ K, K = byts p.key := ⟨_, rfl⟩
        rw [← hK] at CG R3 HWa hkl hk1 hen2
        clear cg hen bw3 hrg3 r3 hWa hW3 s3 sa c32 ba b3 b23 ra t3 hs2 hg2 hrg2 hat hlt hlk hkey hv hrg hK hb2
        go_upto_region 5 with (first
          | ((with_reducible refine at_store 24 (.tmp 5) (.tmp 17) ?_); refine wpList_store_mid rfl 24 (.tmp 5) (.tmp 17) rfl w2.heap.size 0 K.toArray rfl rfl (by have e : K.toArray.size = 32 := (by simp [hkl]); rw [e]; exact ht24 _ _ rfl) (by have e : K.toArray.size = 32 := (by simp [hkl]); rw [e]; exact info_hash) (all_oneCell_toArray hk1) ?_; rw [show ((w2.alloc _).alloc _).setCells w2.heap.size 0 K.toArray.toList = Wa.alloc _ from (by rw [HWa.out]; exact fillP w2 _ _ _ _ (by simp [hkl]))])
          | ((with_reducible refine at_store 62 (.tmp 6) (.tmp 18) ?_); refine wpList_store_mid rfl 62 (.tmp 6) (.tmp 18) rfl (w2.heap.size + 1) 0 (encE p).toArray rfl rfl (by have e : (encE p).toArray.size = 33 := (by simp [encE_len]); rw [e]; exact ht69 _ rfl) (by have e : (encE p).toArray.size = 33 := (by simp [encE_len]); rw [e]; exact info_entry) (all_oneCell_toArray (encE_one p)) ?_; rw [show (Wa.alloc _).setCells (w2.heap.size + 1) 0 (encE p).toArray.toList = W3 from (by rw [HW3.out]; exact fillN Wa _ _ _ _ (by rw [SA.out]) (by simp [encE_len]))])
          | ((with_reducible refine at_load 24 (.tmp 5) ?_); refine wpList_load_mid rfl 24 (.tmp 5) rfl w2.heap.size 0 rfl K _ R3.out und_hash rfl (by rw [hkl]; exact info_hash) ?_)
          | (go_at_call 12; ((with_reducible refine (CG.out _ T3.out).mono ?_); rintro e w4 ⟨s, f, rfl, b4, hsf⟩; have B4 := Box.mk b4; have SF := Box.mk hsf; have BW4 := Box.mk (BW3.out.trans (b4.mono BW3.out.size)); have q32 : w4.cell? ⟨w2.heap.size + 1, 32, none⟩ = some (.string p.text) := (b4.cell (show w2.heap.size + 1 < W3.heap.size by rw [S3.out]; omega)).trans C32.out; clear b4 hsf CG)))
        have hno : ∀ β : Bool, ¬ (f = true ∧ s = p.text) → (false = true ↔ ∀ x ∈ l1, x ∈ l2) := fun _ hn => ⟨fun h => absurd h (by decide), fun h => absurd (SF.out.2 (h p hp)) hn⟩
        have HNO := Box.mk hno
        clear hno
        cases f with
        | false =>
          go_wp2_with fail
          go_ret
          exact ⟨false, rfl, HNO.out true (by simp), BW4.out⟩
        | true =>
          obtain ⟨E, hE⟩ : ∃ E, E = (s.toList == p.text.toList) := ⟨_, rfl⟩
          have hEs : E = decide (s = p.text) := by rw [hE]; exact str_beq _ _
          have hEq : (s.toList == p.text.toList) = E := hE.symm
          have HES := Box.mk hEs
          clear hE hEs
          cases E with
          | false =>
            go_wp2_with fail
            go_ret
            exact ⟨false, rfl, HNO.out true (fun h => of_decide_eq_false HES.out.symm h.2), BW4.out⟩
          | true =>
            have hin : p ∈ l2 := SF.out.1 ⟨rfl, of_decide_eq_true HES.out.symm⟩
            have hrg4 := HRG3.out.kept (grown_of B4.out (Nat.le_refl _)) (by simp) (by simp)
            have hC2 : Collected D0 (fun z => left z && !z.sameKey (.string (kkE p))) ((ps ++ [p]).map kkE) := by simpa using hC.step HLK.out HAT.out
            have hV3 : ∀ q ∈ ps ++ [p], q ∈ l1 := fun q hq => (List.mem_append.1 hq).elim (hV q) (fun e => by simp at e; subst e; exact hp)
            have hV4 : ∀ q ∈ ps ++ [p], q ∈ l2 := fun q hq => (List.mem_append.1 hq).elim (hV2 q) (fun e => by simp at e; subst e; exact hin)
            have HRG4 := Box.mk hrg4; have HC2 := Box.mk hC2; have HV3 := Box.mk hV3; have HV4 := Box.mk hV4
            clear hrg4 hC2 hV3 hV4 hC hV hV2 hin
            go_wp2_with fail
            go_roundw
            case rel => exact ⟨_, cnt2, ps ++ [p], HRG4.out, HC2.out, HV3.out, HV4.out, BW4⟩
            case measure => rw [HRG4.out.left_eq, HRG.out.left_eq]; exact HLT.out
end Go.Proofs.YtacfdnjdjgdbcaaDoor
