/- TabS, TabT, in one text. -/
import Derived.Test.YtacfdnjdjgdbcaaGreatDoorTg
import Derived.BigQuiet
import Derived.Maps.RangeWalk
namespace Go.Proofs.YtacfdnjdjgdbcaaGreatDoor
set_option maxRecDepth 100000
open Go.RowKit Go.Maps Go.Sort M

set_option maxRecDepth 100000 in
set_option maxHeartbeats 4000000 in
theorem grow_any (v : Value) (n : Nat) (A B : Nat → ByteArray) (w : World) (h : IIn w v n A B) (hn : n ≤ 9223372036854775807) (hK : KTab w) :
    Calls Tryz.prog 34 #[v] w (GrowP w n A B) := by
  obtain ⟨vp, vc, rfl⟩ := h.shape
  have hbl : ∀ i, (byts (itE A B i).key).length = 32 := fun i => by rw [byts_length]; exact (itE A B i).kl
  have ht : ∀ (W : World) (Z : Array Value), Z.size = 32 → (W.alloc (.cells Z 24)).there W.heap.size 0 32 := fun W Z hZ => by
    have := there_new W 24 Z.toList W.heap.size 0 32 rfl (by simp [hZ])
    simpa using this
  have H := Box.mk h; have HK := Box.mk hK
  obtain ⟨V, hV⟩ : ∃ V, V = w.alloc (.cells #[.map none] 78) := ⟨_, rfl⟩
  have bV : Below w.heap.size w V := by rw [hV]; exact aset22 _ _
  have sV : V.heap.size = w.heap.size + 1 := by rw [hV]; simp
  have tV : V.heap[w.heap.size]? = some (.cells #[.map none] 78 (0, 0)) := by rw [hV]; exact heap_alloc_new w _
  have T0 : Tab V w.heap.size none [] := ⟨by simp only [World.cell?, tV]; rfl, by simp only [World.frozen?, tV]; rfl, fun _ => rfl, fun m e => by cases e⟩
  have b0 : Below w.heap.size w (V.alloc (.cells #[] 71)) := bV.alloc (by omega) _
  have TT0 := Box.mk (T0.below (aset22 V (.cells #[] 71)))
  have B0 := Box.mk b0; have HV := Box.mk hV
  clear h hK bV tV T0 b0 sV hV
  go_enter Tryz.func34, Tryz.ntmps34
  go_wp2_with fail
  rw [← HV.out]
  clear HV
  go_loopw [5, 6] (fun v i wr => ∃ (k : Nat) (l R : List Ent) (mo : Option Nat), i = .int .i64 (k : Int) ∧ k ≤ n ∧ k ≤ 12 ∧ Box (Tab wr w.heap.size mo l) ∧ Box (RefIn wr v R) ∧ Box (R.Perm l) ∧ Box (Rising R) ∧ Box (l.Sublist (itL A B k)) ∧ Box (Below w.heap.size w wr) ∧ Box (∀ m, mo = some m → w.heap.size ≤ m) ∧ Box (∀ k, v.ownBlock = some k → w.heap.size ≤ k)) (fun _ i _ => min n 12 - (intOf i).toNat)
  case atStart => exact ⟨0, [], [], none, rfl, by omega, by omega, TT0, ⟨⟨⟨_, _, rfl⟩, fun h => absurd h (by simp)⟩⟩, ⟨List.Perm.refl _⟩, ⟨List.Pairwise.nil⟩, ⟨List.Sublist.refl _⟩, B0, ⟨fun m e => by cases e⟩, ⟨fun k e => by cases e; exact Nat.le_succ _⟩⟩
  case round =>
    obtain ⟨k, l, R, mo, rfl, hkn, hk12, hT, hR, hP, hS, hL, hB, hM, hV⟩ := hrel
    by_cases hlt : k < n ∧ k < 12
    · obtain ⟨ib, io, ic, hv, hib, hc⟩ := H.out.cells (by omega)
      obtain ⟨rfl, _, rfl⟩ := Value.slice.inj hv
      obtain ⟨hlt1, hlt2⟩ := hlt
      obtain ⟨c0, c1⟩ := hc k hlt1
      have q0 : wr.cell? ⟨ib, io + k * 2, none⟩ = some (.string (A k)) := (hB.out.cell hib).trans c0
      have hll : l.length ≤ 12 := by have := hL.out.length_le; rw [itL_length] at this; omega
      have hRl : R.length ≤ 12 := by have := hP.out.length_eq; omega
      obtain ⟨x, hx⟩ : ∃ x, x = itE A B k := ⟨_, rfl⟩
      have hbx := hbl k
      have cu1 : ∀ W : World, Calls Tryz.prog 5 #[.string (A k), .int .i64 20] W fun e w' => e = .returned (.string ((A k).extract 0 20)) ∧ W = w' := fun W => cut_any (A k) 20 W
      have cu2 : ∀ W : World, Calls Tryz.prog 5 #[.string (B k), .int .i64 60] W fun e w' => e = .returned (.string x.text) ∧ W = w' := fun W => by rw [hx]; exact cut_any (B k) 60 W
      have co : ∀ W, Below w.heap.size w W → Calls Tryz.prog 6 #[.string ((A k).extract 0 20)] W fun e w' => e = .returned (.agg (byts x.key).toArray) ∧ Below W.heap.size W w' := fun W hb => by
        rw [hx]; exact shaOf_any _ (by rw [ByteArray.size_extract]; omega) W (ktab_below HK.out hb)
      rw [← hx] at hbx
      have cp : ∀ W, Tab W w.heap.size mo l → Calls Tryz.prog 30 #[.pointer (some ⟨w.heap.size, 0, none⟩), .agg (byts x.key).toArray, .string x.text] W (TPutP w.heap.size mo l x W) := fun W h => tput_any w.heap.size mo l x W h (by omega)
      have cr : ∀ W, RefIn W u5 R → Calls Tryz.prog 60 #[u5, .agg #[.string (bs x.key), .string x.text]] W fun e w' => ∃ v' bl R', e = .returned (.tuple #[v', .bool bl]) ∧ RefIn w' v' R' ∧ Below W.heap.size W w' ∧ (((∃ y ∈ R, y.key = x.key) ∧ R' = R) ∨ ((∀ y ∈ R, y.key ≠ x.key) ∧ R' = insR x R)) ∧ ∀ k, v'.ownBlock = some k → v' = u5 ∨ W.heap.size ≤ k := fun W h => rput2_any R x u5 W h (by omega)
      have hcv : ∀ W (g : Nat), W.rangeAt g 0 (byts x.key) → (convert 26 9 (.slice (some ⟨g, 0, none⟩) 32 32)).run Tryz.prog W = .ok (.string (bs x.key)) W := fun W g h => conv_rangeI (cap := 32) x.kl h
      have hb1 := byts_one x.key
      have st := fun l' R' bl h1 h2 => grow_step (l' := l') (R' := R') (bl := bl) hx hP.out hS.out hL.out h1 h2
      obtain ⟨C, hC⟩ : ∃ C, C = byts x.key := ⟨_, rfl⟩
      rw [← hC] at hbx hb1 co cp hcv
      obtain ⟨S, hSs⟩ : ∃ S, S = bs x.key := ⟨_, rfl⟩
      rw [← hSs] at cr hcv
      obtain ⟨A2, hA2⟩ : ∃ A2, A2 = (A k).extract 0 20 := ⟨_, rfl⟩
      rw [← hA2] at cu1 co
      obtain ⟨Tx, hTx⟩ : ∃ T, T = x.text := ⟨_, rfl⟩
      rw [← hTx] at cu2 cp cr
      obtain ⟨Ak, hAk⟩ : ∃ a, a = A k := ⟨_, rfl⟩
      rw [← hAk] at q0 cu1
      obtain ⟨Bk, hBk⟩ : ∃ a, a = B k := ⟨_, rfl⟩
      rw [← hBk] at c1 cu2
      have CU1 := Box.mk cu1; have CU2 := Box.mk cu2; have CO := Box.mk co; have CP := Box.mk cp; have CR := Box.mk cr; have HCV := Box.mk hcv; have ST := Box.mk st; have CC1 := Box.mk c1
      clear cu1 cu2 co cp cr hcv st c0 c1 hc hv hx hC hSs hA2 hTx hAk hBk
      go_wp2_with (first
        | (go_at_call 5; ((with_reducible refine (CU1.out _).mono ?_); rintro e w' ⟨rfl, rfl⟩; clear CU1))
        | (go_at_call 5; ((with_reducible refine (CU2.out _).mono ?_); rintro e w' ⟨rfl, rfl⟩; clear CU2))
        | (go_at_call 6; ((with_reducible refine (CO.out _ hB.out).mono ?_); rintro e w1 ⟨rfl, b1⟩; have T1 := Box.mk (hT.out.below (b1.alloc b1.size (.cells C.toArray 24))); have R1 := Box.mk (hR.out.below (b1.alloc b1.size (.cells C.toArray 24))); have B1 := Box.mk (hB.out.trans ((b1.alloc b1.size (.cells C.toArray 24)).mono hB.out.size)); have RR := Box.mk (range_new w1 24 C w1.heap.size rfl); have LW := Box.mk (show wr.heap.size ≤ w1.heap.size from b1.size); have SA := Box.mk (show (w1.alloc (.cells C.toArray 24)).heap.size = w1.heap.size + 1 by simp); clear b1 CO))
        | ((with_reducible refine at_store 24 (.tmp 7) (.tmp 30) ?_); refine wpList_store_mid rfl 24 (.tmp 7) (.tmp 30) rfl w1.heap.size 0 C.toArray rfl rfl (by have e : C.toArray.size = 32 := (by simp [hbx]); rw [e]; exact ht w1 _ rfl) (by have e : C.toArray.size = 32 := (by simp [hbx]); rw [e]; exact info_hash) (all_oneCell_toArray hb1) ?_; rw [show (w1.alloc _).setCells w1.heap.size 0 C.toArray.toList = w1.alloc (.cells C.toArray 24) from fillE w1 _ _ _ (by simp [hbx])]; obtain ⟨W2, hW2⟩ : ∃ W2, W2 = w1.alloc (.cells C.toArray 24) := ⟨_, rfl⟩; rw [← hW2]; rw [← hW2] at T1 R1 B1 RR SA; have q1 : W2.cell? ⟨ib, io + k * 2 + 1, none⟩ = some (.string Bk) := (B1.out.cell hib).trans CC1.out; clear hW2)
        | ((with_reducible refine at_load 24 (.tmp 7) ?_); refine wpList_load_mid rfl 24 (.tmp 7) rfl w1.heap.size 0 rfl C _ RR.out und_hash rfl (by rw [hbx]; exact info_hash) ?_)
        | (go_at_call 30; ((with_reducible refine (CP.out _ T1.out).mono ?_); rintro e w3 ⟨bl, mo3, l3, rfl, t3, x3, d3⟩; have T3 := Box.mk t3; have R3 := Box.mk (R1.out.text T1.out x3); have B3 := Box.mk (B1.out.trans (x3.below (B := w.heap.size) (Nat.le_refl _) B1.out.size hM.out)); have RR3 := range_keep RR.out (x3.block w1.heap.size (by have := SA.out; omega) (by have := LW.out; have := hT.out.lt; omega) (fun e => by have a := (hT.out.mapd _ e).2.lt; have := LW.out; omega)); have M3 := Box.mk (show ∀ m, mo3 = some m → w.heap.size ≤ m from fun m e => by rcases x3.lies with q | q; exact hM.out m (q ▸ e); have := q m e; have := B1.out.size; omega); have hcv3 := HCV.out w3 _ RR3; have D3 := Box.mk d3; clear t3 x3 d3 RR3 CP))
        | (go_at_call 60; ((with_reducible refine (CR.out _ R3.out).mono ?_); rintro e w4 ⟨v4, bl4, R4, rfl, r4, b4, d4, o4⟩; have O4 := Box.mk (show ∀ k, v4.ownBlock = some k → w.heap.size ≤ k from fun k hk => by rcases o4 k hk with q | q; exact hV.out k (q ▸ hk); exact Nat.le_trans B3.out.size q); have T4 := Box.mk (T3.out.below b4); have B4 := Box.mk (B3.out.trans (b4.mono B3.out.size)); have RI4 := Box.mk r4; have F4 := Box.mk (ST.out l3 R4 bl D3.out d4); clear r4 b4 d4 o4 CR)))
      go_roundw
      case rel => exact ⟨k + 1, l3, R4, mo3, by go_num, by omega, by omega, T4, RI4, ⟨F4.out.1⟩, ⟨F4.out.2.1⟩, ⟨F4.out.2.2⟩, B4, M3, O4⟩
      case measure => simp [intOf] <;> omega
    · have hkm : k = min n 12 := by omega
      have hL2 := hL.out
      rw [hkm] at hL2
      have L2 := Box.mk hL2
      clear hL2 hkm
      go_wp2_with fail
      all_goals exact bodyPost_ret (v := .tuple #[.pointer (some ⟨w.heap.size, 0, none⟩), u5]) (by simp [results, go_sem]) rfl ⟨w.heap.size, mo, l, u5, R, rfl, hT.out, hR.out, hP.out, hS.out, L2.out, hB.out, Nat.le_refl _, hM.out, hV.out⟩
end Go.Proofs.YtacfdnjdjgdbcaaGreatDoor
namespace Go.Proofs.YtacfdnjdjgdbcaaGreatDoor
set_option maxRecDepth 100000
open Go.RowKit Go.Maps Go.Sort M

/-- what Get tells of an entry -/
def TGetP (x : Ent) (l : List Ent) (w : World) (e : Ending) (w' : World) : Prop :=
  ∃ s f, e = .returned (.tuple #[.string s, .bool f]) ∧ Below w.heap.size w w' ∧ ((f = true ∧ s = x.text) ↔ x ∈ l)
theorem tget_any (b : Nat) (mo : Option Nat) (l : List Ent) (x : Ent) (w : World) (h : Tab w b mo l) :
    Calls Tryz.prog 31 #[.pointer (some ⟨b, 0, none⟩), ekE x] w (TGetP x l w) := by
  by_cases hy : ∃ y ∈ l, kkE y = kkE x
  · obtain ⟨y, hy, he⟩ := hy
    exact (get_there b mo l x y w h hy he).mono fun e w' ⟨h1, h2⟩ => ⟨y.text, true, h1, h2, fun hh => by
      have : y = x := Ent.eq (kkE_eq he) hh.2
      rw [← this]; exact hy, fun hx => ⟨rfl, by rw [h.uniq y hy x hx he]⟩⟩
  · exact (get_none b mo l x w h (fun y h1 h2 => hy ⟨y, h1, h2⟩)).mono fun e w' ⟨h1, h2⟩ => ⟨⟨#[]⟩, false, h1, h2, fun hh => absurd hh.1 (by decide), fun hx => absurd ⟨x, hx, rfl⟩ hy⟩
theorem grown_of {b : Nat} {w w' : World} (h : Below b w w') (hb : w.heap.size ≤ b) : w.grownBy w' none := ⟨h.os, h.tape, h.output, h.size, fun i hi _ => h.block i (by omega)⟩
theorem below_grown {b : Nat} {w w' : World} {r : Nat} (h : w.grownBy w' (some r)) (hb : b ≤ r) (hw : b ≤ w.heap.size) : Below b w w' := ⟨h.os, h.tape, h.output, h.size, fun i hi => h.block i (by omega) (fun e => by injection e with e; omega)⟩
theorem fillN (w : World) (T : TypeId) (Z : Array Value) (cs : List Value) (n : Nat) (hn : n = w.heap.size) (h : Z.size = cs.length) : (w.alloc (.cells Z T)).setCells n 0 cs = w.alloc (.cells cs.toArray T) := by
  rw [hn]; exact fillE w T Z cs h
theorem setCells_past (o : Obj) (n : Nat) : ∀ (cs : List Value) (i : Nat) (w : World), n < w.heap.size → (w.alloc o).setCells n i cs = (w.setCells n i cs).alloc o
  | [], _, _, _ => rfl
  | c :: cs, i, w, h => by
    rw [World.setCells, World.setCells, World.setCell_alloc_past o n i c h]
    exact setCells_past o n cs (i + 1) _ (by simpa [World.setCell] using h)
theorem fillP (w : World) (T : TypeId) (Z : Array Value) (cs : List Value) (o : Obj) (h : Z.size = cs.length) : ((w.alloc (.cells Z T)).alloc o).setCells w.heap.size 0 cs = (w.alloc (.cells cs.toArray T)).alloc o := by
  rw [setCells_past o _ _ _ _ (by simp), fillE w T Z cs h]
theorem there_past {w : World} {b n : Nat} (o : Obj) (h : w.there b 0 n) (hb : b < w.heap.size) : (w.alloc o).there b 0 n := fun j hj => by
  obtain ⟨a, f⟩ := h j hj
  exact ⟨by rw [(aset22 w o).cell hb]; exact a, by rw [World.frozen?_of_block (w := w) (a := ⟨b, 0 + j, none⟩) ((aset22 w o).block b hb)]; exact f⟩

/-- what Within answers -/
def WithinP (l1 l2 : List Ent) (w : World) (e : Ending) (w' : World) : Prop :=
  ∃ β : Bool, e = .returned (.bool β) ∧ (β = true ↔ ∀ x ∈ l1, x ∈ l2) ∧ Below w.heap.size w w'

end Go.Proofs.YtacfdnjdjgdbcaaGreatDoor
