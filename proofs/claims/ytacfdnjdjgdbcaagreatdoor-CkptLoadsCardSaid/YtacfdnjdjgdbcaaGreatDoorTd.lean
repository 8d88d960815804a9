/- TabI, TabJ, in one text. -/
import Derived.Test.YtacfdnjdjgdbcaaGreatDoorTc
import Derived.Test.YtacfdnjdjgdbcaaGreatDoorHm
namespace Go.Proofs.YtacfdnjdjgdbcaaGreatDoor
set_option maxRecDepth 100000
open Go.RowKit Go.Maps Go.Sort M

def magL : List Nat := [79, 82, 68, 69, 65, 76, 84, 49]
def entL (x : Ent) : List Nat := x.key ++ txtL (sb x.text)
def preL (ys : List Ent) (i : Nat) : List Nat := magL ++ numL ys.length ++ (ys.take i).flatMap entL
/-- what is sealed -/
def encT (ys : List Ent) : List Nat := preL ys ys.length
/-- all as bytes -/
def bytT (ys : List Ent) : List Nat := encT ys ++ shaN (encT ys)
theorem entL_length (x : Ent) : (entL x).length ≤ 41 + x.text.size := by
  unfold entL txtL
  have := numL_length (sb x.text).length
  rw [List.length_append, List.length_append, x.kl, sb_length] at *
  omega
theorem entL_lt (x : Ent) : ∀ d ∈ entL x, d < 2 ^ 8 := by
  intro d hd
  unfold entL txtL at hd
  rcases List.mem_append.1 hd with h | h
  · exact x.kb d h
  · rcases List.mem_append.1 h with h | h
    · exact numL_lt _ d h
    · exact sb_lt _ d h
theorem flat_len (ys : List Ent) (M : Nat) (h : ∀ x ∈ ys, x.text.size ≤ M) : (ys.flatMap entL).length ≤ ys.length * (41 + M) := by
  induction ys with
  | nil => simp
  | cons y ys ih =>
    rw [List.flatMap_cons, List.length_append, List.length_cons, Nat.add_mul]
    have h1 := entL_length y
    have h2 := h y (by simp)
    have h3 := ih fun x hx => h x (by simp [hx])
    omega
theorem preL_len (ys : List Ent) (i : Nat) (h1 : ys.length ≤ 100) (h : ∀ x ∈ ys, x.text.size ≤ 1000) : (preL ys i).length ≤ 200000 := by
  unfold preL
  have a := flat_len (ys.take i) 1000 fun x hx => h x (List.mem_of_mem_take hx)
  have b := numL_length ys.length
  have c : (ys.take i).length ≤ 100 := by rw [List.length_take]; omega
  have d : (ys.take i).length * (41 + 1000) ≤ 100 * 1041 := Nat.mul_le_mul_right _ c
  rw [List.length_append, List.length_append]
  have e : magL.length = 8 := rfl
  omega
theorem preL_lt (ys : List Ent) (i : Nat) : ∀ d ∈ preL ys i, d < 2 ^ 8 := by
  intro d hd
  unfold preL at hd
  rcases List.mem_append.1 hd with h | h
  · rcases List.mem_append.1 h with h | h
    · have : ∀ d ∈ magL, d < 2 ^ 8 := by decide
      exact this d h
    · exact numL_lt _ d h
  · obtain ⟨x, _, hx⟩ := List.mem_flatMap.1 h
    exact entL_lt x d hx
theorem preL_succ (ys : List Ent) (i : Nat) (x : Ent) (h : ys[i]? = some x) : preL ys i ++ x.key ++ txtL (sb x.text) = preL ys (i + 1) := by
  unfold preL
  rw [List.take_add_one, h, Option.toList_some, List.flatMap_append, List.append_assoc, List.append_assoc, List.append_assoc]
  rw [show List.flatMap entL [x] = x.key ++ txtL (sb x.text) by simp [entL]]
  simp only [List.append_assoc]
theorem mag_sb : sb ⟨#[79, 82, 68, 69, 65, 76, 84, 49]⟩ = magL := by decide
theorem ents_keep {w W : World} {g : Nat} {ys : List Ent} (h : ∀ i x, ys[i]? = some x → w.rangeAt g (i * 33) (encE x)) (e : W.heap[g]? = w.heap[g]?) : ∀ i x, ys[i]? = some x → W.rangeAt g (i * 33) (encE x) :=
  fun i x hx j v hv => (tcell_keep (a := ⟨g, i * 33 + j, none⟩) e).trans (h i x hx j v hv)
theorem conv_rangeI {w : World} {g n cap : Nat} {l : List Nat} (hl : l.length = n) (h : w.rangeAt g 0 (byts l)) :
    (convert 26 9 (.slice (some ⟨g, 0, none⟩) n cap)).run Tryz.prog w = .ok (.string (bs l)) w := by
  refine run_convert_bytes_arg (P := Tryz.prog) w 26 5 Tryz.underlying26 Tryz.underlying5 g 0 n cap (l.map fun n => ((n : Nat) : Int)) (by simp [hl]) (fun i hi => ?_) 9 Tryz.underlying9
  have hi' : i < l.length := by omega
  have hg : (byts l)[i]? = some (.int .u8 ((l.getD i 0 : Nat) : Int)) := by simp [byts, List.getD, hi']
  have hc := h i _ hg
  rw [Nat.zero_add] at hc
  rw [Nat.zero_add, hc]
  simp [List.getD, hi']
/-- what Bytes leaves -/
def TBytP (l : List Ent) (w : World) (e : Ending) (w' : World) : Prop :=
  ∃ ys, ys.Perm l ∧ Rising ys ∧ e = .returned (.string (bs (bytT ys))) ∧ Below w.heap.size w w'
set_option maxHeartbeats 1000000 in
theorem tbytes_any (b : Nat) (mo : Option Nat) (l : List Ent) (w : World) (h : Tab w b mo l) (hl : l.length ≤ 100) (ht : ∀ x ∈ l, x.text.size ≤ 1000) (hK : KTab w) :
    Calls Tryz.prog 65 #[.pointer (some ⟨b, 0, none⟩)] w (TBytP l w) := by
  have wn := wr_new w w.heap.size rfl
  have b0 : Below w.heap.size w (w.alloc (.cells #[.slice none 0 0] 157)) := (Below.refl _ _).alloc (Nat.le_refl _) _
  have cmag := raw_any w.heap.size [] (.slice none 0 0) ⟨#[79, 82, 68, 69, 65, 76, 84, 49]⟩ _ wn (by decide)
  rw [mag_sb, List.nil_append] at cmag
  have H := Box.mk h; have HK := Box.mk hK; have WN := Box.mk wn; have B0 := Box.mk b0; have CM := Box.mk cmag
  have hln : ((l.length : Nat) : Int) = (l.length : Int) := rfl
  obtain ⟨m, hm⟩ : ∃ m, m = l.length := ⟨_, rfl⟩
  have cl : ∀ W, Below w.heap.size w W → Calls Tryz.prog 32 #[.pointer (some ⟨b, 0, none⟩)] W fun e w' => e = .returned (.int .i64 (m : Int)) ∧ W = w' := fun W hb => by rw [hm]; exact len_any b mo l W (h.below hb)
  have cn : ∀ W v, Wr W w.heap.size magL v → Calls Tryz.prog 95 #[.pointer (some ⟨w.heap.size, 0, none⟩), .int .u64 (m : Int)] W (WrP w.heap.size (magL ++ numL m) v W) := fun W v hW => num_any w.heap.size magL v m (by omega) W hW (by decide)
  have ca : ∀ W, Below w.heap.size w W → Calls Tryz.prog 33 #[.pointer (some ⟨b, 0, none⟩)] W (TAllP l W) := fun W hb => all_any b mo l W (h.below hb) (by omega)
  have um : IntKind.u64.wrap (m : Int) = (m : Int) := u64small (by omega)
  have hm100 : m ≤ 100 := by omega
  have HT := Box.mk ht; have HM := Box.mk hm
  have CL := Box.mk cl; have CN := Box.mk cn; have CA := Box.mk ca
  clear h hK wn b0 cmag cl cn ca hln hm ht hl
  go_enter Tryz.func65, Tryz.ntmps65
  go_wp2_with (first
    | (go_at_call 94; ((with_reducible refine CM.out.mono ?_); rintro e w1 ⟨rfl, v1, q1, x1⟩; have Q1 := Box.mk q1; have X1 := Box.mk x1; have BB1 := Box.mk (B0.out.trans (x1.below (B := w.heap.size) (Nat.le_refl _) B0.out.size (wr_ge WN.out))); clear q1 x1 CM))
    | (go_at_call 32; ((with_reducible refine (CL.out _ BB1.out).mono ?_); rintro e w' ⟨rfl, rfl⟩; clear CL))
    | (go_at_call 95; ((with_reducible refine (CN.out _ _ Q1.out).mono ?_); rintro e w2 ⟨rfl, v2, q2, x2⟩; have Q2 := Box.mk q2; have BB2 := Box.mk (BB1.out.trans (x2.below (B := w.heap.size) (Nat.le_refl _) BB1.out.size (wr_ge Q1.out))); clear q2 x2 CN))
    | (go_at_call 33; ((with_reducible refine (CA.out _ BB2.out).mono ?_); rintro e w3 ⟨v3, ys, rfl, hp, hr, hf, hb, hk⟩; have HP := Box.mk hp; have HR := Box.mk hr; have HF := Box.mk hf; have HB3 := Box.mk hb; have HO := Box.mk hk; have hyl : ys.length = m := (hp.length_eq.trans HM.out.symm); obtain ⟨q3, c3, rfl⟩ := hf.val; clear hp hr hf hb hk CA)))
  have hyt : ∀ x ∈ ys, x.text.size ≤ 1000 := fun x hx => HT.out x (HP.out.mem_iff.1 hx)
  have hy100 : ys.length ≤ 100 := by omega
  have e0 : magL ++ numL m = preL ys 0 := by unfold preL; rw [hyl]; simp
  rw [e0] at Q2
  have Q4 := Box.mk (Q2.out.below HB3.out)
  have BB4 := Box.mk (BB2.out.trans (HB3.out.mono BB2.out.size))
  have own2 : ∀ k, v2.ownBlock = some k → k < w2.heap.size := fun k hk => (Q2.out.own.lt k hk).2
  have hwb : w.heap.size < w2.heap.size := World.block_lt_of_cell? _ _ Q2.out.cell
  have FN : Box (m = 0 ∨ ∃ g, q3 = some ⟨g, 0, none⟩ ∧ g < w3.heap.size ∧ w2.heap.size ≤ g ∧ ∀ i x, ys[i]? = some x → w3.rangeAt g (i * 33) (encE x)) := ⟨by
    rcases Nat.eq_zero_or_pos m with h0 | h0
    · exact .inl h0
    · obtain ⟨g, c, e, hg, hc⟩ := HF.out.cells (by omega)
      injection e with e1 e2 e3
      refine .inr ⟨g, e1, hg, HO.out g ?_, hc⟩
      rw [e1]; rfl⟩
  have YL := Box.mk hyl; have YT := Box.mk hyt
  have hmy : ((ys.length : Nat) : Int) = (m : Int) := by rw [hyl]
  clear hyl hyt e0 HF HO
  go_loopw [5, 15] (fun _ q wx => ∃ (i : Nat) (v : Value), i ≤ m ∧ q = .int .i64 (i : Int) ∧ Box (Wr wx w.heap.size (preL ys i) v) ∧ Box (Below w.heap.size w wx) ∧ Box (∀ k, v.ownBlock = some k → k < w2.heap.size ∨ w3.heap.size ≤ k) ∧ w3.heap.size ≤ wx.heap.size ∧ Box (∀ k, w2.heap.size ≤ k → k < w3.heap.size → wx.heap[k]? = w3.heap[k]?))
    (fun _ q _ => m - (intOf q).toNat)
  case atStart => exact ⟨0, v2, by omega, rfl, Q4, BB4, ⟨fun k hk => .inl (own2 k hk)⟩, Nat.le_refl _, ⟨fun _ _ _ => rfl⟩⟩
  case round =>
    obtain ⟨i, v, hi, rfl, hQ, hB, hO, hs3, hkeep⟩ := hrel
    clear Q4 BB4 own2
    by_cases hlt : i < m
    · have dj : decide ((i : Int) < (m : Int)) = true := by simpa using hlt
      have hiy : i < ys.length := by have := YL.out; omega
      obtain ⟨x, hx⟩ : ∃ x, ys[i]? = some x := ⟨_, List.getElem?_eq_getElem hiy⟩
      have hxm : x ∈ ys := List.mem_of_getElem? hx
      have hxt := YT.out x hxm
      rcases FN.out with h0 | ⟨g, rfl, hg, hge, hc⟩
      · omega
      · have hrg := ents_keep hc (hkeep.out g hge hg) i x hx
        obtain ⟨du, hu, hdu⟩ := und_entry
        have hpl := preL_len ys i hy100 YT.out
        obtain ⟨P, hP⟩ : ∃ P, P = preL ys i := ⟨_, rfl⟩
        obtain ⟨P2, hP2⟩ : ∃ P2, P2 = preL ys (i + 1) := ⟨_, rfl⟩
        have hps := preL_succ ys i x hx
        rw [← hP, ← hP2] at hps
        rw [← hP] at hQ hpl
        obtain ⟨W3, hW3⟩ : ∃ W3, W3 = wr.alloc (.cells (encE x).toArray 86) := ⟨_, rfl⟩
        have ht : ∀ Z : Array Value, Z.size = 33 → (wr.alloc (.cells Z 86)).there wr.heap.size 0 33 := fun Z hZ => by
          have := there_new wr 86 Z.toList wr.heap.size 0 33 rfl (by simp [hZ])
          simpa using this
        have bW : Below wr.heap.size wr W3 := by rw [hW3]; exact (Below.refl _ _).alloc (Nat.le_refl _) _
        have rW : W3.rangeAt wr.heap.size 0 (encE x) := by rw [hW3]; exact range_new _ _ _ _ rfl
        have sW : W3.heap.size = wr.heap.size + 1 := by rw [hW3]; simp
        have hcv : (convert 26 9 (.slice (some ⟨wr.heap.size, 0, none⟩) 32 32)).run Tryz.prog W3 = .ok (.string (bs x.key)) W3 := conv_rangeI (cap := 32) x.kl (fun j u hu => rW j u (encE_key x j u hu))
        have hQ3 := hQ.out.below bW
        have cr := raw_any w.heap.size P v (bs x.key) W3 hQ3 (by rw [bs_size, x.kl]; omega)
        rw [sb_bs _ x.kb] at cr
        have kl := x.kl
        have ct := fun W v' (h : Wr W w.heap.size (P ++ x.key) v') => wtext_any w.heap.size (P ++ x.key) v' x.text W h (by rw [List.length_append, kl]; omega)
        rw [hps] at ct
        have ownv : ∀ k, v.ownBlock = some k → k < wr.heap.size := fun k hk => (hQ.out.own.lt k hk).2
        have hwr : w.heap.size < wr.heap.size := by omega
        obtain ⟨KS, hKS⟩ : ∃ KS, KS = bs x.key := ⟨_, rfl⟩
        obtain ⟨TS, hTS⟩ : ∃ TS, TS = x.text := ⟨_, rfl⟩
        have hls := encE_last x
        rw [← hKS] at hcv cr
        rw [← hTS] at ct hls
        have HP2 := Box.mk hP2; have HW3 := Box.mk hW3; have CR := Box.mk cr; have CT := Box.mk ct; have RW3 := Box.mk rW; have BW3 := Box.mk bW; have OV := Box.mk ownv; have HLS := Box.mk hls; have SW := Box.mk sW; have Q3 := Box.mk hQ3
        obtain ⟨A, hA⟩ : ∃ A, A = encE x := ⟨_, rfl⟩
        have hAl : A.length = 33 := by rw [hA]; exact encE_len x
        have hA1 : ∀ u ∈ A, u.oneCell' = true := by rw [hA]; exact encE_one x
        rw [← hA] at hrg HW3 RW3 HLS
        clear hW3 cr ct rW bW ownv hls sW hQ3 hKS hTS hA hc kl hpl hps hP hP2 hxt hxm
        go_wp2_with (first
          | ((with_reducible refine at_load 86 (.tmp 17) ?_); refine wpList_load_mid rfl 86 (.tmp 17) rfl g (i * 33) (by rfl) A du hrg hu hdu (by rw [hAl]; exact info_entry) ?_)
          | ((with_reducible refine at_store 86 (.tmp 5) (.tmp 18) ?_); refine wpList_store_mid rfl 86 (.tmp 5) (.tmp 18) rfl wr.heap.size 0 A.toArray rfl rfl (by have e : A.toArray.size = 33 := (by simp [hAl]); rw [e]; exact ht _ rfl) (by have e : A.toArray.size = 33 := (by simp [hAl]); rw [e]; exact info_entry) (all_oneCell_toArray hA1) ?_; rw [show (wr.alloc _).setCells wr.heap.size 0 A.toArray.toList = W3 from (by rw [HW3.out]; exact fillE wr _ _ _ (by simp [hAl]))])
          | (go_at_call 94; ((with_reducible refine CR.out.mono ?_); rintro e w5 ⟨rfl, v5, q5, x5⟩; have Q5 := Box.mk q5; have X5 := Box.mk x5; have hk5 : w5.heap[wr.heap.size]? = W3.heap[wr.heap.size]? := (x5.block _ (by have := SW.out; omega) (by omega) (fun e => by have := OV.out _ e; omega)); have qt : w5.cell? ⟨wr.heap.size, 32, none⟩ = some (.string TS) := ((tcell_keep (a := ⟨wr.heap.size, 32, none⟩) hk5).trans (by have := RW3.out 32 _ HLS.out; rwa [Nat.zero_add] at this)); clear q5 x5 hk5 CR))
          | (go_at_call 96; ((with_reducible refine (CT.out _ _ Q5.out).mono ?_); rintro e w6 ⟨rfl, v6, q6, x6⟩; have Q6 := Box.mk q6; have X6 := Box.mk x6; clear q6 x6 CT)))
        have b3 := hB.out.trans (BW3.out.mono hB.out.size)
        have b5 := b3.trans (X5.out.below (B := w.heap.size) (Nat.le_refl _) b3.size (wr_ge Q3.out))
        have b6 := b5.trans (X6.out.below (B := w.heap.size) (Nat.le_refl _) b5.size (wr_ge Q5.out))
        have z3 := SW.out
        have z5 := X5.out.size
        have z6 := X6.out.size
        have o5 : ∀ k, v5.ownBlock = some k → k < w2.heap.size ∨ w3.heap.size ≤ k := fun k hk => by
          rcases X5.out.lies with e | e
          · rw [e] at hk; exact hO.out k hk
          · have := e k hk; omega
        have o6 : ∀ k, v6.ownBlock = some k → k < w2.heap.size ∨ w3.heap.size ≤ k := fun k hk => by
          rcases X6.out.lies with e | e
          · rw [e] at hk; exact o5 k hk
          · have := e k hk; omega
        have kp : ∀ k, w2.heap.size ≤ k → k < w3.heap.size → w6.heap[k]? = w3.heap[k]? := fun k h1 h2 => by
          rw [X6.out.block k (by omega) (by omega) (fun e => by have := o5 k e; omega), X5.out.block k (by omega) (by omega) (fun e => by have := hO.out k e; omega), BW3.out.block k (by omega)]
          exact hkeep.out k h1 h2
        go_roundw
        case rel => exact ⟨i + 1, v6, by omega, by go_num, ⟨by rw [← HP2.out]; exact Q6.out⟩, ⟨b6⟩, ⟨o6⟩, by omega, ⟨kp⟩⟩
        case measure => simp [intOf]; omega
    · obtain rfl : i = m := by omega
      have dj : decide ((i : Int) < (i : Int)) = false := by simp
      have hpl := preL_len ys i hy100 YT.out
      have hlt8 := preL_lt ys i
      have hfin : bytT ys = preL ys i ++ shaN (preL ys i) := by unfold bytT encT; rw [YL.out]
      obtain ⟨P, hP⟩ : ∃ P, P = preL ys i := ⟨_, rfl⟩
      rw [← hP] at hQ hpl hlt8 hfin
      have c1 := bytes_any w.heap.size P v wr hQ.out
      have c2 := shaOf_any (bs P) (by rw [bs_size]; omega) wr (ktab_below HK.out hB.out)
      rw [sb_bs _ hlt8] at c2
      obtain ⟨D, hD⟩ : ∃ D, D = shaN P := ⟨_, rfl⟩
      have hDl : D.length = 32 := by rw [hD]; exact shaN_length P
      have hDb : ∀ d ∈ D, d < 2 ^ 8 := by rw [hD]; exact shaN_lt P
      rw [← hD] at c2 hfin
      have c3 := fun W v' (h : Wr W w.heap.size P v') => by
        have c := raw_any w.heap.size P v' (bs D) W h (by rw [bs_size]; omega)
        rw [sb_bs _ hDb] at c
        exact c
      have c4 := fun W v' (h : Wr W w.heap.size (P ++ D) v') => bytes_any w.heap.size (P ++ D) v' W h
      obtain ⟨S1, hS1⟩ : ∃ S, S = bs P := ⟨_, rfl⟩
      obtain ⟨S2, hS2⟩ : ∃ S, S = bs D := ⟨_, rfl⟩
      obtain ⟨S3, hS3⟩ : ∃ S, S = bs (P ++ D) := ⟨_, rfl⟩
      rw [← hS1] at c1 c2
      rw [← hS2] at c3
      rw [← hS3] at c4
      have hcv : ∀ W, Below W.heap.size W W → (convert 26 9 (.slice (some ⟨W.heap.size, 0, none⟩) 32 32)).run Tryz.prog (W.alloc (.cells (byts D).toArray 24)) = .ok (.string S2) (W.alloc (.cells (byts D).toArray 24)) := fun W _ => by
        rw [hS2]
        exact conv_rangeI (cap := 32) hDl (range_new _ _ _ _ rfl)
      have ht : ∀ (W : World) (Z : Array Value), Z.size = 32 → (W.alloc (.cells Z 24)).there W.heap.size 0 32 := fun W Z hZ => by
        have := there_new W 24 Z.toList W.heap.size 0 32 rfl (by simp [hZ])
        simpa using this
      have hbl : (byts D).length = 32 := by rw [byts_length]; exact hDl
      have hb1 := byts_one D
      obtain ⟨C, hC⟩ : ∃ C, C = byts D := ⟨_, rfl⟩
      rw [← hC] at c2 hcv hbl hb1
      have C1 := Box.mk c1; have C2 := Box.mk c2; have C3 := Box.mk c3; have C4 := Box.mk c4; have HCV := Box.mk hcv; have FIN := Box.mk hfin; have HS3 := Box.mk hS3
      clear c1 c2 c3 c4 hcv hfin hP hD hS1 hS2 hS3 hC hpl hlt8 hDl hDb hkeep hO
      go_wp2_with (first
        | (go_at_call 97; ((with_reducible refine C1.out.mono ?_); rintro e w' ⟨rfl, rfl⟩; clear C1))
        | (go_at_call 6; ((with_reducible refine C2.out.mono ?_); rintro e w7 ⟨rfl, b7⟩; have B7 := Box.mk b7; have Q7 := Box.mk (hQ.out.below b7); have Q8 := Box.mk (Q7.out.below ((Below.refl _ _).alloc (Nat.le_refl _) (.cells C.toArray 24))); have hcv7 := HCV.out w7 (Below.refl _ _); clear b7 C2))
        | ((with_reducible refine at_store 24 (.tmp 6) (.tmp 28) ?_); refine wpList_store_mid rfl 24 (.tmp 6) (.tmp 28) rfl w7.heap.size 0 C.toArray rfl rfl (by have e : C.toArray.size = 32 := (by simp [hbl]); rw [e]; exact ht w7 _ rfl) (by have e : C.toArray.size = 32 := (by simp [hbl]); rw [e]; exact info_hash) (all_oneCell_toArray hb1) ?_; rw [show (w7.alloc _).setCells w7.heap.size 0 C.toArray.toList = w7.alloc (.cells C.toArray 24) from fillE w7 _ _ _ (by simp [hbl])])
        | (go_at_call 94; ((with_reducible refine (C3.out _ _ Q8.out).mono ?_); rintro e w9 ⟨rfl, v9, q9, x9⟩; have Q9 := Box.mk q9; have X9 := Box.mk x9; clear q9 x9 C3))
        | (go_at_call 97; ((with_reducible refine (C4.out _ _ Q9.out).mono ?_); rintro e w' ⟨rfl, rfl⟩)))
      go_ret
      have b7 := hB.out.trans (B7.out.mono hB.out.size)
      have b8 := b7.alloc (by exact b7.size) (.cells C.toArray 24)
      exact ⟨ys, HP.out, HR.out, by rw [FIN.out, ← HS3.out]; rfl, b8.trans (X9.out.below (B := w.heap.size) (Nat.le_refl _) b8.size (wr_ge Q8.out))⟩
end Go.Proofs.YtacfdnjdjgdbcaaGreatDoor
namespace Go.Proofs.YtacfdnjdjgdbcaaGreatDoor
set_option maxRecDepth 100000
open Go.RowKit M

theorem sh_sb {T : ByteArray} {a : Nat} (_ha : a ≤ T.size) : sb (T.extract a T.size) = (sb T).drop a := by
  rw [sb_part _ _ _ (Nat.le_refl _), List.take_of_length_le (by rw [List.length_drop, sb_length]; omega)]
section
variable {T : ByteArray} {a : Nat} (ha : a ≤ T.size)
include ha
theorem sh_size : (T.extract a T.size).size = T.size - a := by
  have h := congrArg List.length (sh_sb ha)
  rwa [sb_length, List.length_drop, sb_length] at h
theorem rawX_sh (p x : Nat) (n : Int) : rawX T (a + p) x n = rawX (T.extract a T.size) p x n := by
  unfold rawX; rw [sh_size ha, Nat.sub_add_eq]
theorem rawA_sh (p x : Nat) (n : Int) : rawA T (a + p) x n = a + rawA (T.extract a T.size) p x n := by
  unfold rawA; rw [sh_size ha, Nat.sub_add_eq]; split <;> omega
theorem rawS_sh (p x : Nat) (n : Int) : rawS T (a + p) x n = rawS (T.extract a T.size) p x n := by
  unfold rawS
  rw [sh_size ha, Nat.sub_add_eq]
  split
  · rename_i h
    obtain ⟨_, h0, h1⟩ := h
    have e : sb (T.extract (a + p) (a + p + n.toNat)) = sb ((T.extract a T.size).extract p (p + n.toNat)) := by
      by_cases hp : p + n.toNat ≤ T.size - a
      · rw [sb_part _ _ _ (by omega), sb_part _ _ _ (by rw [sh_size ha]; exact hp), sh_sb ha, List.drop_drop]
        congr 1; omega
      · have hn : n.toNat = 0 := by omega
        have l1 : (sb (T.extract (a + p) (a + p + n.toNat))).length = 0 := by rw [sb_length]; simp; omega
        have l2 : (sb ((T.extract a T.size).extract p (p + n.toNat))).length = 0 := by rw [sb_length]; simp; omega
        rw [List.eq_nil_of_length_eq_zero l1, List.eq_nil_of_length_eq_zero l2]
    have := congrArg bs e
    rwa [bs_list, bs_list] at this
  · rfl
theorem fixU_sh (p x k : Nat) : fixU T (a + p) x k = fixU (T.extract a T.size) p x k := by unfold fixU; rw [rawS_sh ha]
theorem numE_sh (p x : Nat) : numE T (a + p) x = numE (T.extract a T.size) p x := by
  unfold numE; simp only [fixU_sh ha, rawA_sh ha, rawX_sh ha]
theorem numA_sh (p x : Nat) : numA T (a + p) x = a + numA (T.extract a T.size) p x := by
  unfold numA; simp only [fixU_sh ha, rawA_sh ha, rawX_sh ha, numE_sh ha]
  split
  · rfl
  · split <;> rfl
theorem numX_sh (p x : Nat) : numX T (a + p) x = numX (T.extract a T.size) p x := by
  unfold numX; simp only [fixU_sh ha, rawX_sh ha, numE_sh ha]
theorem numV_sh (p x : Nat) : numV T (a + p) x = numV (T.extract a T.size) p x := by
  unfold numV; simp only [fixU_sh ha, rawA_sh ha, rawX_sh ha, numE_sh ha]
theorem txtE_sh (p x : Nat) (m : Int) : txtE T (a + p) x m = txtE (T.extract a T.size) p x m := by
  unfold txtE; simp only [numV_sh ha, numX_sh ha]
theorem txtK_sh (p x : Nat) : txtK T (a + p) x = txtK (T.extract a T.size) p x := by
  unfold txtK; simp only [numV_sh ha]
theorem txtX_sh (p x : Nat) (m : Int) : txtX T (a + p) x m = txtX (T.extract a T.size) p x m := by
  unfold txtX; simp only [numA_sh ha, txtE_sh ha, txtK_sh ha, rawX_sh ha]
theorem txtA_sh (p x : Nat) (m : Int) : txtA T (a + p) x m = a + txtA (T.extract a T.size) p x m := by
  unfold txtA; simp only [numA_sh ha, txtE_sh ha, txtK_sh ha, rawA_sh ha, txtX_sh ha]
  split <;> rfl
theorem txtS_sh (p x : Nat) (m : Int) : txtS T (a + p) x m = txtS (T.extract a T.size) p x m := by
  unfold txtS; simp only [numA_sh ha, txtE_sh ha, txtK_sh ha, rawS_sh ha]
end

theorem txt_take {T : ByteArray} (_hT : T.size ≤ 1000000) {most : Int} (h : txtX T 0 0 most = 0) : (sb T).take (txtA T 0 0 most) = txtL (sb (txtS T 0 0 most)) ∧ txtA T 0 0 most ≤ T.size := by
  have hX := h
  unfold txtX at hX
  obtain ⟨hE, hk0, hk1, hA, hS⟩ := raw_ok hX
  have hE' := hE
  unfold txtE at hE'
  by_cases hc : max most 0 < (numV T 0 0 : Int)
  · rw [if_pos hc] at hE'
    split at hE'
    · omega
    · rename_i hh; exact absurd hE' hh
  · rw [if_neg hc] at hE'
    obtain ⟨hn, hnle⟩ := num_read hE'
    have hvl := numV_lt T 0 0
    have hK : txtK T 0 0 = (numV T 0 0 : Int) := by
      unfold txtK at hk0 hk1 ⊢
      rw [IntKind.wrap_i64] at hk0 hk1 ⊢
      omega
    have hA2 : txtA T 0 0 most = numA T 0 0 + numV T 0 0 := by
      unfold txtA; rw [if_pos h, hA, hK, Int.toNat_natCast]
    rw [hK] at hk1
    have hS' : txtS T 0 0 most = T.extract (numA T 0 0) (numA T 0 0 + numV T 0 0) := by
      unfold txtS; rw [hS, hK, Int.toNat_natCast]
    have hle : numA T 0 0 + numV T 0 0 ≤ T.size := by omega
    have hsb : sb (txtS T 0 0 most) = ((sb T).drop (numA T 0 0)).take (numV T 0 0) := by
      rw [hS', sb_part _ _ _ hle, Nat.add_sub_cancel_left]
    have hlen : (sb (txtS T 0 0 most)).length = numV T 0 0 := by rw [hsb, List.length_take, List.length_drop, sb_length]; omega
    refine ⟨?_, by omega⟩
    unfold txtL
    rw [hlen, ← hn, hsb, hA2, List.take_add]

/-- what has been read -/
def Pre (T : ByteArray) (a : Nat) (A : List Nat) : Prop := (sb T).take a = A ∧ a ≤ T.size
theorem Pre.nil (T : ByteArray) : Pre T 0 [] := ⟨rfl, Nat.zero_le _⟩
theorem Pre.len {T : ByteArray} {a : Nat} {A : List Nat} (h : Pre T a A) : A.length = a := by
  rw [← h.1, List.length_take, sb_length]; have := h.2; omega
theorem Pre.raw {T : ByteArray} {a k : Nat} {A : List Nat} (h : Pre T a A) (hx : rawX T a 0 (k : Int) = 0) : Pre T (rawA T a 0 (k : Int)) (A ++ sb (rawS T a 0 (k : Int))) ∧ (rawS T a 0 (k : Int)).size = k := by
  obtain ⟨_, _, hle, hA, hS⟩ := raw_ok hx
  have h2 := h.2
  have hle : a + k ≤ T.size := by omega
  rw [hA, hS, Int.toNat_natCast]
  refine ⟨⟨?_, hle⟩, ?_⟩
  · rw [List.take_add, h.1, sb_part _ _ _ hle, Nat.add_sub_cancel_left]
  · rw [← sb_length, sb_part _ _ _ hle, List.length_take, List.length_drop, sb_length]; omega
theorem Pre.num {T : ByteArray} {a : Nat} {A : List Nat} (h : Pre T a A) (hx : numX T a 0 = 0) : Pre T (numA T a 0) (A ++ numL (numV T a 0)) := by
  have h2 := h.2
  have e0 : a = a + 0 := rfl
  rw [e0, numX_sh h2] at hx
  rw [e0, numA_sh h2, numV_sh h2]
  obtain ⟨r1, r2⟩ := num_read hx
  rw [sh_size h2] at r2
  refine ⟨?_, by omega⟩
  rw [List.take_add, h.1, ← sh_sb h2, r1]
theorem Pre.txt {T : ByteArray} {a : Nat} {A : List Nat} {m : Int} (hT : T.size ≤ 1000000) (h : Pre T a A) (hx : txtX T a 0 m = 0) : Pre T (txtA T a 0 m) (A ++ txtL (sb (txtS T a 0 m))) := by
  have h2 := h.2
  have e0 : a = a + 0 := rfl
  rw [e0, txtX_sh h2] at hx
  rw [e0, txtA_sh h2, txtS_sh h2]
  obtain ⟨r1, r2⟩ := txt_take (by rw [sh_size h2]; omega) hx
  rw [sh_size h2] at r2
  refine ⟨?_, by omega⟩
  rw [List.take_add, h.1, ← sh_sb h2, r1]
theorem rawX_err {T : ByteArray} {a x : Nat} {n : Int} (h : x ≠ 0) : rawX T a x n = x := by unfold rawX; rw [if_neg h]
theorem numV_err {T : ByteArray} {a x : Nat} (h : x ≠ 0) : numV T a x = 0 ∧ numX T a x = x := by
  have hf : fixU T a x 1 = 0 := fixU_none (by rw [rawX_err h]; exact h)
  constructor
  · unfold numV; rw [if_pos (by omega), hf]
  · unfold numX; rw [if_pos (by omega), rawX_err h]
/-- a number that is refused is 0 -/
theorem numV_bad {T : ByteArray} {a : Nat} (h : numX T a 0 ≠ 0) : numV T a 0 = 0 := by
  unfold numX at h
  unfold numV
  split
  · rename_i h1
    rw [if_pos h1] at h
    exact fixU_none h
  · rename_i h1
    rw [if_neg h1] at h
    rw [if_neg h]
theorem txtX_err {T : ByteArray} {a x : Nat} {m : Int} (h : x ≠ 0) : txtX T a x m = x := by
  have hE : txtE T a x m = x := by
    unfold txtE
    rw [(numV_err h).1, (numV_err h).2]
    rw [if_neg (by omega)]
  unfold txtX
  rw [hE, rawX_err h]
end Go.Proofs.YtacfdnjdjgdbcaaGreatDoor
