/- DiskKeeps, as mathematics: what stays of a file that is synced, whatever is done to others. -/
import Derived.Test.YtalinhjalnndhaaDiskX
namespace Go.Proofs.Ytalinhjalnndhaa
set_option maxRecDepth 100000
open Go.RowKit M

def nmM : ByteArray := ⟨#[109, 105, 110, 101]⟩

def sumF (f : Nat → FileS) : Nat → Nat
  | 0 => 0
  | n + 1 => sumF f n + (f (n + 1)).data.length
theorem sum_congr {f g : Nat → FileS} (n : Nat) (h : ∀ i, 1 ≤ i → i ≤ n → (f i).data.length = (g i).data.length) : sumF f n = sumF g n := by
  induction n with
  | zero => rfl
  | succ n ih => unfold sumF; rw [ih (fun i h1 h2 => h i h1 (by omega)), h (n + 1) (by omega) (Nat.le_refl _)]
theorem sum_set (f : Nat → FileS) (x : FileS) (n k : Nat) (h1 : 1 ≤ k) (h2 : k ≤ n) : sumF (fun i => if i = k then x else f i) n + (f k).data.length = sumF f n + x.data.length := by
  induction n with
  | zero => omega
  | succ n ih =>
    unfold sumF
    by_cases e : n + 1 = k
    · subst e
      rw [if_pos rfl, sum_congr (g := f) n (fun i h3 h4 => by rw [if_neg (by omega)])]
      omega
    · rw [if_neg e]
      have := ih (by omega)
      omega
theorem sum_le (f : Nat → FileS) (n m : Nat) (h : ∀ i, (f i).data.length ≤ m) : sumF f n ≤ m * n := by
  induction n with
  | zero => exact Nat.zero_le _
  | succ n ih => unfold sumF; have := h (n + 1); rw [Nat.mul_succ]; omega
theorem sum_ge (f : Nat → FileS) (n k : Nat) (h1 : 1 ≤ k) (h2 : k ≤ n) : (f k).data.length ≤ sumF f n := by
  have := sum_set f ⟨[], 0, false⟩ n k h1 h2
  have e : ([] : List Nat).length = 0 := rfl
  simp only [e] at this
  omega

theorem app_mem {c : Chg} {l : KL} {p : ByteArray × Nat} (h : p ∈ c.app l) : p ∈ l ∨ p = (c.dst, c.file) := by
  unfold Chg.app at h
  split at h
  · exact .inl (mem_kdel.1 h).1
  · unfold kput at h
    rcases List.mem_cons.1 h with e | h
    · exact .inr e
    · exact .inl (mem_kdel.1 (mem_kdel.1 h).1).1
theorem app_kget {c : Chg} {l : KL} {k : ByteArray} (h1 : k ≠ c.src) (h2 : k ≠ c.dst) : kget (c.app l) k = kget l k := by
  unfold Chg.app
  split
  · exact kget_del_other h1
  · rw [kget_put_other h2, kget_del_other h1]
theorem fold_mem {P : Nat → Prop} (cs : List Chg) : ∀ (l : KL), (∀ p ∈ l, P p.2) → (∀ c ∈ cs, P c.file) → ∀ p ∈ cs.foldl (fun l c => c.app l) l, P p.2 := by
  induction cs with
  | nil => intro l h _; exact h
  | cons c cs ih =>
    intro l h hc
    rw [List.foldl_cons]
    refine ih _ (fun p hp => ?_) (fun d hd => hc d (List.mem_cons_of_mem _ hd))
    rcases app_mem hp with hp | rfl
    · exact h p hp
    · exact hc c List.mem_cons_self
theorem fold_kget {k : ByteArray} (cs : List Chg) : ∀ (l : KL), (∀ c ∈ cs, c.src ≠ k ∧ c.dst ≠ k) → kget (cs.foldl (fun l c => c.app l) l) k = kget l k := by
  induction cs with
  | nil => intro l _; rfl
  | cons c cs ih =>
    intro l h
    rw [List.foldl_cons, ih _ (fun d hd => h d (List.mem_cons_of_mem _ hd))]
    have := h c List.mem_cons_self
    exact app_kget (Ne.symm this.1) (Ne.symm this.2)

structure Keep (S : DS) (M : List Nat) (k : Nat) : Prop where
  m0 : 1 ≤ S.made
  m1 : S.made ≤ 1 + k
  room : S.room = 100000
  used : S.used = (sumF S.file S.made : Nat)
  c0 : -1 ≤ S.crash
  c1 : S.crash ≤ 9223372036854775807
  fail : S.fail = -1
  calls : S.calls ≤ 4 + k
  names : S.names.length ≤ 1 + k
  sc : S.safe.length + S.chg.length ≤ 1 + k
  data : ∀ n, (S.file n).data.length ≤ 100 + 100 * k
  dsafe : ∀ n, (S.file n).safe ≤ 100
  nref : ∀ p ∈ S.names, 1 ≤ p.2 ∧ p.2 ≤ S.made
  sref : ∀ p ∈ S.safe, 1 ≤ p.2 ∧ p.2 ≤ S.made
  cref : ∀ c ∈ S.chg, (1 ≤ c.file ∧ c.file ≤ S.made) ∧ (∀ g, c.over = some g → 1 ≤ g ∧ g ≤ S.made) ∧ c.src.size ≤ maxLen ∧ c.dst.size ≤ maxLen
  me : S.file 1 = ⟨M, M.length, true⟩
  kn : kget S.names nmM = some 1
  ks : kget S.safe nmM = some 1
  un : ∀ p ∈ S.names, p.2 = 1 → p.1 = nmM
  ch : ∀ c ∈ S.chg, c.src ≠ nmM ∧ c.dst ≠ nmM ∧ c.file ≠ 1 ∧ c.over ≠ some 1

theorem Keep.up {S : DS} {M : List Nat} {k k' : Nat} (h : Keep S M k) (hk : k ≤ k') : Keep S M k' :=
  ⟨h.m0, by have := h.m1; omega, h.room, h.used, h.c0, h.c1, h.fail, by have := h.calls; omega, by have := h.names; omega, by have := h.sc; omega, fun n => by have := h.data n; omega, h.dsafe, h.nref, h.sref, h.cref, h.me, h.kn, h.ks, h.un, h.ch⟩
theorem Keep.used_le {S : DS} {M : List Nat} {k : Nat} (h : Keep S M k) (hk : k ≤ 30) : 0 ≤ S.used ∧ S.used ≤ 200000 := by
  have e := h.used
  have a := sum_le S.file S.made _ h.data
  have b := h.m1
  have c : (100 + 100 * k) * S.made ≤ 3100 * 31 := Nat.mul_le_mul (by omega) (by omega)
  omega
theorem Keep.fine {S : DS} {M : List Nat} {k : Nat} (h : Keep S M k) (hk : k ≤ 30) : Fine S := by
  have u := h.used_le hk
  have a1 := h.m1
  have a2 := h.calls
  have a3 := h.names
  have a4 := h.sc
  exact ⟨by omega, by rw [h.room]; decide, by rw [h.room]; decide, u.1, by omega, h.c0, h.c1, by rw [h.fail]; decide, by rw [h.fail]; decide, by omega, by omega, by omega, by omega, fun n _ _ => by have := h.data n; omega, h.nref, h.sref, h.cref⟩
theorem Keep.relOk {S : DS} {M : List Nat} {k : Nat} (h : Keep S M k) (hk : k ≤ 30) (n : Nat) : RelOk S n := by
  have u := h.used_le hk
  have d := h.data n
  exact ⟨by omega, by omega, by omega⟩

/-- a changing call begins -/
theorem Keep.begin {S : DS} {M : List Nat} {k : Nat} (h : Keep S M k) (hd : S.dead = false) (hc : S.calls ≤ 3 + k) : Keep (beginS S) M k ∧ beginC S = codeN S.crash ∧ (beginS S).chg = S.chg ∧ (beginS S).names = S.names ∧ (beginS S).file = S.file ∧ (beginS S).made = S.made := by
  obtain ⟨a, b⟩ := begN h.fail hd
  have c := crN_le h.c0 h.c1
  have d := cN_le S.crash S.calls
  rw [b]
  exact ⟨⟨h.m0, h.m1, h.room, h.used, c.1, c.2, h.fail, by show cN S.crash S.calls ≤ _; omega, h.names, h.sc, h.data, h.dsafe, h.nref, h.sref, h.cref, h.me, h.kn, h.ks, h.un, h.ch⟩, a, rfl, rfl, rfl, rfl⟩

theorem Keep.onF {S : DS} {M : List Nat} {k : Nat} (h : Keep S M k) {n : Nat} (h1 : 1 ≤ n) (h2 : n ≤ S.made) (hn : n ≠ 1) : Keep (relF S n) M k ∧ (relF S n).made = S.made ∧ (relF S n).chg = S.chg := by
  unfold relF
  split
  · exact ⟨h, rfl, rfl⟩
  · have s := sum_set S.file ⟨[], (S.file n).safe, (S.file n).named⟩ S.made n h1 h2
    have e0 : ([] : List Nat).length = 0 := rfl
    simp only [e0] at s
    have e := h.used
    have dn := h.data n
    have sn := h.dsafe n
    refine ⟨⟨h.m0, h.m1, h.room, ?_, h.c0, h.c1, h.fail, h.calls, h.names, h.sc, fun i => ?_, fun i => ?_, h.nref, h.sref, h.cref, ?_, h.kn, h.ks, h.un, h.ch⟩, rfl, rfl⟩
    · show S.used - ((S.file n).data.length : Int) = ((sumF (fun i => if i = n then ⟨[], (S.file n).safe, (S.file n).named⟩ else S.file i) S.made : Nat) : Int)
      omega
    · show (if i = n then (⟨[], (S.file n).safe, (S.file n).named⟩ : FileS) else S.file i).data.length ≤ _
      by_cases e : i = n
      · rw [if_pos e]; exact Nat.zero_le _
      · rw [if_neg e]; exact h.data i
    · show (if i = n then (⟨[], (S.file n).safe, (S.file n).named⟩ : FileS) else S.file i).safe ≤ _
      by_cases e : i = n
      · rw [if_pos e]; exact sn
      · rw [if_neg e]; exact h.dsafe i
    · show (if 1 = n then _ else S.file 1) = _
      rw [if_neg (Ne.symm hn)]; exact h.me
theorem Keep.onC {S : DS} {M : List Nat} {k : Nat} (h : Keep S M k) {c : Chg} (hc : c ∈ S.chg) : Keep (relC S c) M k ∧ (relC S c).made = S.made ∧ (relC S c).chg = S.chg := by
  obtain ⟨⟨r1, r2⟩, r3, _⟩ := h.cref c hc
  obtain ⟨_, _, q1, q2⟩ := h.ch c hc
  obtain ⟨a, b, d⟩ := h.onF r1 r2 q1
  unfold relC relO
  split
  · rename_i g hg
    obtain ⟨g1, g2⟩ := r3 g hg
    have gn : g ≠ 1 := fun e => q2 (by rw [hg, e])
    obtain ⟨a', b', d'⟩ := a.onF g1 (by rw [b]; exact g2) gn
    exact ⟨a', b'.trans b, d'.trans d⟩
  · exact ⟨a, b, d⟩
theorem Keep.onAll {M : List Nat} {k : Nat} (l : List Chg) : ∀ {S : DS}, Keep S M k → (∀ c ∈ l, c ∈ S.chg) → Keep (relAll S l) M k ∧ (relAll S l).made = S.made ∧ (relAll S l).chg = S.chg := by
  induction l with
  | nil => intro S h _; exact ⟨h, rfl, rfl⟩
  | cons c l ih =>
    intro S h hl
    obtain ⟨a, b, d⟩ := h.onC (hl c List.mem_cons_self)
    obtain ⟨a', b', d'⟩ := ih a (fun x hx => by rw [d]; exact hl x (List.mem_cons_of_mem _ hx))
    exact ⟨a', b'.trans b, d'.trans d⟩
theorem Keep.settle {S : DS} {M : List Nat} {k : Nat} (h : Keep S M k) : Keep (settleS S S.chg.length) M k := by
  have e : settleS S S.chg.length = { S with safe := S.chg.foldl (fun l c => c.app l) S.safe, chg := [] } := by unfold settleS; rw [List.take_length]
  rw [e]
  have hl := foldl_length S.chg S.safe
  have sc := h.sc
  exact ⟨h.m0, h.m1, h.room, h.used, h.c0, h.c1, h.fail, h.calls, h.names, by show (S.chg.foldl (fun l c => c.app l) S.safe).length + 0 ≤ _; omega, h.data, h.dsafe, h.nref, fold_mem (P := fun n => 1 ≤ n ∧ n ≤ S.made) S.chg S.safe h.sref (fun c hc => (h.cref c hc).1), fun c hc => (nomatch (show c ∈ ([] : List Chg) from hc)), h.me, h.kn, (fold_kget S.chg S.safe (fun c hc => ⟨(h.ch c hc).1, (h.ch c hc).2.1⟩)).trans h.ks, h.un, fun c hc => (nomatch (show c ∈ ([] : List Chg) from hc))⟩

/-- a file takes a name, or loses one -/
theorem Keep.ren {S : DS} {M : List Nat} {k : Nat} (h : Keep S M k) {src dst : ByteArray} {f : Nat} (hk : S.names.length ≤ k) (hsc : S.safe.length + S.chg.length ≤ k) (f1 : 1 ≤ f) (f2 : f ≤ S.made) (fn : f ≠ 1) (hs : src ≠ nmM) (hd : dst ≠ nmM) (hs2 : src.size ≤ maxLen) (hd2 : dst.size ≤ maxLen) : Keep (renS S src dst f) M k := by
  have ov : ∀ g, kget S.names dst = some g → (1 ≤ g ∧ g ≤ S.made) ∧ g ≠ 1 := fun g hg => by
    have m := kget_some hg
    exact ⟨h.nref _ m, fun e => hd (h.un _ m e)⟩
  have hf : ∀ i, ∃ nm, (renS S src dst f).file i = { S.file i with named := nm } := fun i => by
    unfold renS DS.unname
    split
    · rename_i g hg
      show ∃ nm, (if i = f then _ else if i = g then _ else S.file i) = _
      by_cases e : i = f
      · subst e
        rw [if_pos rfl]
        show ∃ nm, (⟨(if i = g then _ else S.file i).data, (if i = g then _ else S.file i).safe, _⟩ : FileS) = _
        by_cases e : i = g
        · subst e; rw [if_pos rfl]; exact ⟨_, rfl⟩
        · rw [if_neg e]; exact ⟨_, rfl⟩
      · rw [if_neg e]
        by_cases e : i = g
        · subst e; rw [if_pos rfl]; exact ⟨_, rfl⟩
        · rw [if_neg e]; exact ⟨_, rfl⟩
    · show ∃ nm, (if i = f then _ else S.file i) = _
      by_cases e : i = f
      · subst e; rw [if_pos rfl]; exact ⟨_, rfl⟩
      · rw [if_neg e]; exact ⟨_, rfl⟩
  have f1' : (renS S src dst f).file 1 = S.file 1 := by
    unfold renS DS.unname
    split
    · rename_i g hg
      show (if 1 = f then _ else if 1 = g then _ else S.file 1) = _
      rw [if_neg (Ne.symm fn), if_neg (Ne.symm (ov g hg).2)]
    · show (if 1 = f then _ else S.file 1) = _
      rw [if_neg (Ne.symm fn)]
  have un : ∀ o, (S.unname o).made = S.made ∧ (S.unname o).room = S.room ∧ (S.unname o).used = S.used ∧ (S.unname o).crash = S.crash ∧ (S.unname o).fail = S.fail ∧ (S.unname o).calls = S.calls ∧ (S.unname o).safe = S.safe := fun o => by cases o <;> exact ⟨rfl, rfl, rfl, rfl, rfl, rfl, rfl⟩
  obtain ⟨e1, e2, e3, e4, e5, e6, e7⟩ := un (kget S.names dst)
  have g1 : (renS S src dst f).made = S.made := e1
  have g2 : (renS S src dst f).room = S.room := e2
  have g3 : (renS S src dst f).used = S.used := e3
  have g4 : (renS S src dst f).crash = S.crash := e4
  have g5 : (renS S src dst f).fail = S.fail := e5
  have g6 : (renS S src dst f).calls = S.calls := e6
  have g7 : (renS S src dst f).safe = S.safe := e7
  have g8 : (renS S src dst f).names = (mkC S src dst f).app S.names := rfl
  have g9 : (renS S src dst f).chg = S.chg ++ [mkC S src dst f] := rfl
  have al := app_length (mkC S src dst f) S.names
  have hm : ∀ c ∈ (renS S src dst f).chg, c ∈ S.chg ∨ c = mkC S src dst f := fun c hc => by
    rw [g9] at hc
    rcases List.mem_append.1 hc with h | h
    · exact .inl h
    · exact .inr (by simpa using h)
  refine ⟨by rw [g1]; exact h.m0, by rw [g1]; exact h.m1, by rw [g2]; exact h.room, ?_, by rw [g4]; exact h.c0, by rw [g4]; exact h.c1, by rw [g5]; exact h.fail, by rw [g6]; exact h.calls, by rw [g8]; omega, by rw [g7, g9, List.length_append]; simp only [List.length_singleton]; omega, fun n => ?_, fun n => ?_, fun p hp => ?_, by rw [g7, g1]; exact h.sref, fun c hc => ?_, f1'.trans h.me, ?_, by rw [g7]; exact h.ks, fun p hp e => ?_, fun c hc => ?_⟩
  · rw [g3, g1, h.used, sum_congr (f := (renS S src dst f).file) (g := S.file) S.made (fun i _ _ => by obtain ⟨nm, e⟩ := hf i; rw [e])]
  · obtain ⟨nm, e⟩ := hf n; rw [e]; exact h.data n
  · obtain ⟨nm, e⟩ := hf n; rw [e]; exact h.dsafe n
  · rw [g8] at hp
    rw [g1]
    rcases app_mem hp with hp | rfl
    · exact h.nref p hp
    · exact ⟨f1, f2⟩
  · rw [g1]
    rcases hm c hc with hc | rfl
    · exact h.cref c hc
    · exact ⟨⟨f1, f2⟩, fun g hg => (ov g hg).1, hs2, hd2⟩
  · rw [g8]
    exact (app_kget (c := mkC S src dst f) (Ne.symm hs) (Ne.symm hd)).trans h.kn
  · rw [g8] at hp
    rcases app_mem hp with hp | rfl
    · exact h.un p hp e
    · exact absurd e fn
  · rcases hm c hc with hc | rfl
    · exact h.ch c hc
    · exact ⟨hs, hd, fn, fun e => (ov 1 e).2 rfl⟩

theorem Keep.new {S : DS} {M : List Nat} {k : Nat} (h : Keep S M k) (hm : S.made ≤ k) : Keep ({ S with made := S.made + 1 }.setF (S.made + 1) ⟨[], 0, false⟩) M k := by
  have m0 := h.m0
  have e0 : ([] : List Nat).length = 0 := rfl
  refine ⟨by show 1 ≤ S.made + 1; omega, by show S.made + 1 ≤ _; omega, h.room, ?_, h.c0, h.c1, h.fail, h.calls, h.names, h.sc, fun n => ?_, fun n => ?_, fun p hp => ?_, fun p hp => ?_, fun c hc => ?_, ?_, h.kn, h.ks, h.un, h.ch⟩
  · show S.used = ((sumF (fun i => if i = S.made + 1 then ⟨[], 0, false⟩ else S.file i) (S.made + 1) : Nat) : Int)
    unfold sumF
    rw [if_pos rfl, sum_congr (g := S.file) S.made (fun i _ h2 => by rw [if_neg (by omega)]), h.used]
    rfl
  · show (if n = S.made + 1 then (⟨[], 0, false⟩ : FileS) else S.file n).data.length ≤ _
    by_cases e : n = S.made + 1
    · rw [if_pos e]; exact Nat.zero_le _
    · rw [if_neg e]; exact h.data n
  · show (if n = S.made + 1 then (⟨[], 0, false⟩ : FileS) else S.file n).safe ≤ _
    by_cases e : n = S.made + 1
    · rw [if_pos e]; exact Nat.zero_le _
    · rw [if_neg e]; exact h.dsafe n
  · obtain ⟨a, b⟩ := h.nref p hp
    exact ⟨a, Nat.le_succ_of_le b⟩
  · obtain ⟨a, b⟩ := h.sref p hp
    exact ⟨a, Nat.le_succ_of_le b⟩
  · obtain ⟨⟨a, b⟩, c', d⟩ := h.cref c hc
    exact ⟨⟨a, Nat.le_succ_of_le b⟩, fun g hg => ⟨(c' g hg).1, Nat.le_succ_of_le (c' g hg).2⟩, d⟩
  · show (if 1 = S.made + 1 then _ else S.file 1) = _
    rw [if_neg (by omega)]; exact h.me

theorem Keep.appF {S : DS} {M : List Nat} {k : Nat} (h : Keep S M k) {n : Nat} (s : List Nat) (h1 : 1 ≤ n) (h2 : n ≤ S.made) (hn : n ≠ 1) (hd : (S.file n).data.length + s.length ≤ 100 + 100 * k) : Keep (appF S n s) M k := by
  have sm := sum_set S.file ⟨(S.file n).data ++ s, (S.file n).safe, (S.file n).named⟩ S.made n h1 h2
  simp only [List.length_append] at sm
  have e := h.used
  have sn := h.dsafe n
  refine ⟨h.m0, h.m1, h.room, ?_, h.c0, h.c1, h.fail, h.calls, h.names, h.sc, fun i => ?_, fun i => ?_, h.nref, h.sref, h.cref, ?_, h.kn, h.ks, h.un, h.ch⟩
  · show S.used + (s.length : Int) = ((sumF (fun i => if i = n then ⟨(S.file n).data ++ s, (S.file n).safe, (S.file n).named⟩ else S.file i) S.made : Nat) : Int)
    omega
  · show (if i = n then (⟨(S.file n).data ++ s, (S.file n).safe, (S.file n).named⟩ : FileS) else S.file i).data.length ≤ _
    by_cases e : i = n
    · rw [if_pos e]
      show ((S.file n).data ++ s).length ≤ _
      rw [List.length_append]; exact hd
    · rw [if_neg e]; exact h.data i
  · show (if i = n then (⟨(S.file n).data ++ s, (S.file n).safe, (S.file n).named⟩ : FileS) else S.file i).safe ≤ _
    by_cases e : i = n
    · rw [if_pos e]; exact sn
    · rw [if_neg e]; exact h.dsafe i
  · show (if 1 = n then _ else S.file 1) = _
    rw [if_neg (Ne.symm hn)]; exact h.me

/-! ### each call of an act -/
theorem Keep.create {S : DS} {M : List Nat} {k : Nat} (h : Keep S M k) {a : ByteArray} (ha : a ≠ nmM) (hs : a.size ≤ maxLen) : Keep (createS S a) M (k + 1) := by
  have u := h.up (Nat.le_succ k)
  unfold createS
  split
  · exact u
  · rename_i hd
    have hd : S.dead = false := by simpa using hd
    split
    · exact u
    · split
      · exact u
      · obtain ⟨b, _, b1, b2, b3, b4⟩ := u.begin hd (by have := h.calls; omega)
        split
        · exact b
        · have n := b.new (by rw [b4]; have := h.m1; omega)
          refine n.ren (by show (beginS S).names.length ≤ _; rw [b2]; have := h.names; omega) ?_ (by omega) (Nat.le_refl _) (by have := b.m0; omega) (by decide) ha (by unfold maxLen; decide) hs
          have e : (beginS S).safe.length = S.safe.length := by rw [(beginS_keeps S).2.1]
          show (beginS S).safe.length + (beginS S).chg.length ≤ _
          rw [b1, e]; have := h.sc; omega
theorem Keep.append {S : DS} {M : List Nat} {k : Nat} (h : Keep S M k) {a : ByteArray} (ha : a ≠ nmM) {s : List Nat} (hs : s.length ≤ 100) : Keep (appendS S a s) M (k + 1) := by
  have u := h.up (Nat.le_succ k)
  unfold appendS findN
  split
  · exact u
  · rename_i n hn
    split at hn
    · cases hn
    · rename_i hd
      have hd : S.dead = false := by simpa using hd
      have m := kget_some hn
      obtain ⟨r1, r2⟩ := h.nref _ m
      have n1 : n ≠ 1 := fun e => ha (h.un _ m e)
      split
      · exact u
      · obtain ⟨b, _, b1, b2, b3, b4⟩ := u.begin hd (by have := h.calls; omega)
        split
        · exact b
        · exact b.appF s r1 (by rw [b4]; exact r2) n1 (by rw [b3]; have := h.data n; omega)
theorem Keep.syncNames {S : DS} {M : List Nat} {k : Nat} (h : Keep S M k) : Keep (syncNamesS S) M (k + 1) := by
  have u := h.up (Nat.le_succ k)
  unfold syncNamesS
  split
  · exact u
  · rename_i hd
    have hd : S.dead = false := by simpa using hd
    obtain ⟨b, _, b1, b2, b3, b4⟩ := u.begin hd (by have := h.calls; omega)
    split
    · obtain ⟨c, c1, c2⟩ := b.onAll S.chg (fun c hc => by rw [b1]; exact hc)
      have e : S.chg.length = (relAll (beginS S) S.chg).chg.length := by rw [c2, b1]
      rw [e]
      exact c.settle
    · exact b
theorem Keep.rels {S : DS} {M : List Nat} {k : Nat} (h : Keep S M k) (hk : k ≤ 29) : RelsOk S := by
  intro i c hc
  obtain ⟨_, _, b1, b4, _⟩ := beginS_keeps S
  have b : Keep (beginS S) M (k + 1) := by
    have u := h.up (Nat.le_succ k)
    have cl := h.calls
    by_cases hz : S.crash = 0
    · rw [(beg0 h.fail hz).2]
      exact ⟨u.m0, u.m1, u.room, u.used, u.c0, u.c1, u.fail, u.calls, u.names, u.sc, u.data, u.dsafe, u.nref, u.sref, u.cref, u.me, u.kn, u.ks, u.un, u.ch⟩
    · rw [(beg h.fail hz).2]
      have c0 := h.c0
      have c1 := h.c1
      exact ⟨u.m0, u.m1, u.room, u.used, by show -1 ≤ max (S.crash - 1) (-1); omega, by show max (S.crash - 1) (-1) ≤ _; omega, u.fail, by show S.calls + 1 ≤ _; omega, u.names, u.sc, u.data, u.dsafe, u.nref, u.sref, u.cref, u.me, u.kn, u.ks, u.un, u.ch⟩
  obtain ⟨d, d1, d2⟩ := b.onAll (S.chg.take i) (fun c hc => by rw [b1]; exact List.mem_of_mem_take hc)
  have hm : c ∈ S.chg := List.mem_of_getElem? hc
  obtain ⟨⟨r1, r2⟩, r3, _⟩ := h.cref c hm
  obtain ⟨_, _, q1, q2⟩ := h.ch c hm
  refine ⟨d.relOk (by omega) _, fun n hn => ?_⟩
  obtain ⟨x, _, _⟩ := d.onF (n := c.file) r1 (by rw [d1, b4]; exact r2) q1
  exact x.relOk (by omega) n
theorem Keep.rename {S : DS} {M : List Nat} {k : Nat} (h : Keep S M k) {a c : ByteArray} (ha : a ≠ nmM) (hc : c ≠ nmM) (hs : a.size ≤ maxLen) (hs2 : c.size ≤ maxLen) : Keep (renameS S a c) M (k + 1) := by
  have u := h.up (Nat.le_succ k)
  unfold renameS findN
  split
  · exact u
  · rename_i n hn
    split at hn
    · cases hn
    · rename_i hd
      have hd : S.dead = false := by simpa using hd
      have m := kget_some hn
      obtain ⟨r1, r2⟩ := h.nref _ m
      have n1 : n ≠ 1 := fun e => ha (h.un _ m e)
      split
      · exact u
      · obtain ⟨b, _, b1, b2, b3, b4⟩ := u.begin hd (by have := h.calls; omega)
        split
        · exact b
        · have e : (beginS S).safe.length = S.safe.length := by rw [(beginS_keeps S).2.1]
          exact b.ren (by rw [b2]; have := h.names; omega) (by rw [b1, e]; have := h.sc; omega) r1 (by rw [b4]; exact r2) n1 ha hc hs hs2
theorem Keep.remove {S : DS} {M : List Nat} {k : Nat} (h : Keep S M k) {a : ByteArray} (ha : a ≠ nmM) (hs : a.size ≤ maxLen) : Keep (removeS S a) M (k + 1) := by
  have u := h.up (Nat.le_succ k)
  unfold removeS findN
  split
  · exact u
  · rename_i n hn
    split at hn
    · cases hn
    · rename_i hd
      have hd : S.dead = false := by simpa using hd
      have m := kget_some hn
      obtain ⟨r1, r2⟩ := h.nref _ m
      have n1 : n ≠ 1 := fun e => ha (h.un _ m e)
      obtain ⟨b, _, b1, b2, b3, b4⟩ := u.begin hd (by have := h.calls; omega)
      split
      · exact b
      · have e : (beginS S).safe.length = S.safe.length := by rw [(beginS_keeps S).2.1]
        exact b.ren (by rw [b2]; have := h.names; omega) (by rw [b1, e]; have := h.sc; omega) r1 (by rw [b4]; exact r2) n1 ha (by decide) hs (by unfold maxLen; decide)
theorem Keep.crashed {S : DS} {M : List Nat} {k : Nat} (h : Keep S M k) {n : Int} (hn : n ≤ 9223372036854775807) : Keep { S with crash := max n (-1) } M (k + 1) := by
  have u := h.up (Nat.le_succ k)
  exact ⟨u.m0, u.m1, u.room, u.used, by show -1 ≤ max n (-1); omega, by show max n (-1) ≤ _; omega, u.fail, u.calls, u.names, u.sc, u.data, u.dsafe, u.nref, u.sref, u.cref, u.me, u.kn, u.ks, u.un, u.ch⟩

/-! ### behind a restart -/
/-- what a disk holds behind a restart -/
structure Kept (S : DS) (M : List Nat) : Prop where
  m1 : 1 ≤ S.made ∧ S.made ≤ 100
  room : S.room = 100000
  used : 0 ≤ S.used ∧ S.used ≤ 1000000
  crash : -1 ≤ S.crash ∧ S.crash ≤ 9223372036854775807
  fail : S.fail = -1
  calls : S.calls ≤ 100
  names : S.names.length ≤ 100
  sc : S.safe.length + S.chg.length ≤ 100
  data : ∀ n, (S.file n).data.length ≤ 5000 ∧ (S.file n).safe ≤ 5000
  nref : ∀ p ∈ S.names, 1 ≤ p.2 ∧ p.2 ≤ S.made
  sref : ∀ p ∈ S.safe, 1 ≤ p.2 ∧ p.2 ≤ S.made
  cref : ∀ c ∈ S.chg, (1 ≤ c.file ∧ c.file ≤ S.made) ∧ (∀ g, c.over = some g → 1 ≤ g ∧ g ≤ S.made) ∧ c.src.size ≤ maxLen ∧ c.dst.size ≤ maxLen
  me : S.file 1 = ⟨M, M.length, true⟩
  ks : kget S.safe nmM = some 1
  ch : ∀ c ∈ S.chg, c.src ≠ nmM ∧ c.dst ≠ nmM
theorem Keep.kept {S : DS} {M : List Nat} {k : Nat} (h : Keep S M k) (hk : k ≤ 30) : Kept S M := by
  have u := h.used_le hk
  have a1 := h.m1
  have a2 := h.calls
  have a3 := h.names
  have a4 := h.sc
  exact ⟨⟨h.m0, by omega⟩, h.room, ⟨u.1, by omega⟩, ⟨h.c0, h.c1⟩, h.fail, by omega, by omega, by omega, fun n => by have := h.data n; have := h.dsafe n; omega, h.nref, h.sref, h.cref, h.me, h.ks, fun c hc => ⟨(h.ch c hc).1, (h.ch c hc).2.1⟩⟩
theorem Kept.fine {S : DS} {M : List Nat} (h : Kept S M) : Fine S := by
  have a1 := h.m1
  have a2 := h.used
  have a3 := h.calls
  have a4 := h.names
  have a5 := h.sc
  exact ⟨by omega, by rw [h.room]; decide, by rw [h.room]; decide, a2.1, by omega, h.crash.1, h.crash.2, by rw [h.fail]; decide, by rw [h.fail]; decide, by omega, by omega, by omega, by omega, fun n _ _ => by have := (h.data n).1; omega, h.nref, h.sref, h.cref⟩
theorem fold_names (ch : List Int) (l : List Nat) : ∀ (q : Nat × DS), (l.foldl (cutStep ch) q).2.names = q.2.names ∧ (l.foldl (cutStep ch) q).2.safe = q.2.safe ∧ (l.foldl (cutStep ch) q).2.chg = q.2.chg ∧ (l.foldl (cutStep ch) q).2.room = q.2.room ∧ (l.foldl (cutStep ch) q).2.calls = q.2.calls := by
  induction l with
  | nil => intro q; exact ⟨rfl, rfl, rfl, rfl, rfl⟩
  | cons n l ih =>
    intro q
    rw [List.foldl_cons]
    exact ih (cutStep ch q n)
theorem fold_me (ch : List Int) (M : List Nat) (l : List Nat) : ∀ (q : Nat × DS), q.2.file 1 = ⟨M, M.length, true⟩ → (l.foldl (cutStep ch) q).2.file 1 = ⟨M, M.length, true⟩ := by
  induction l with
  | nil => intro q h; exact h
  | cons n l ih =>
    intro q h
    rw [List.foldl_cons]
    refine ih _ ?_
    show (if 1 = n then cutF ch q.1 (q.2.file n) else q.2.file 1) = _
    by_cases e : 1 = n
    · rw [if_pos e, ← e, h]
      unfold cutF
      simp only
      rw [if_neg (Nat.lt_irrefl _)]
    · rw [if_neg e]; exact h
theorem Kept.restart {S : DS} {M : List Nat} (h : Kept S M) (ch : List Int) : RestOk S ch ∧ Kept (restartI S ch) M ∧ findC (restartI S ch) nmM = 0 ∧ readD (restartI S ch) nmM = M := by
  obtain ⟨p, hp⟩ : ∃ p, p = pickN ch 0 S.chg.length := ⟨_, rfl⟩
  have hN := rest0_names S ch p hp.symm
  have hr : ∀ q ∈ (rest0 S ch).names, 1 ≤ q.2 ∧ q.2 ≤ S.made := by
    rw [hN]
    exact fold_mem (P := fun n => 1 ≤ n ∧ n ≤ S.made) (S.chg.take p) S.safe h.sref (fun c hc => (h.cref c (List.mem_of_mem_take hc)).1)
  have hl : (rest0 S ch).names.length ≤ 100 := by
    rw [hN]
    have a := foldl_length (S.chg.take p) S.safe
    have b : (S.chg.take p).length ≤ S.chg.length := List.length_take_le' _ _
    have c := h.sc
    omega
  have hk : kget (rest0 S ch).names nmM = some 1 := by
    rw [hN, fold_kget (S.chg.take p) S.safe (fun c hc => h.ch c (List.mem_of_mem_take hc))]
    exact h.ks
  have ok := restOk_small (S := S) (ch := ch) 5000 100 hl (by omega) (by omega) (by omega) hr h.data
  obtain ⟨l, el⟩ : ∃ l, l = isort ((rest0 S ch).names.map (·.2)) := ⟨_, rfl⟩
  have ll : l.length ≤ 100 := by rw [el, isort_length, List.length_map]; exact hl
  have er : restartI S ch = { (l.foldl (cutStep ch) (1, rest0 S ch)).2 with crash := -1, fail := -1, dead := false } := by unfold restartI; rw [el]
  obtain ⟨n1, n2, n3, n4, n5⟩ := fold_names ch l (1, rest0 S ch)
  obtain ⟨s1, s2, s3⟩ := fold_small ch 5000 l (1, rest0 S ch) h.data
  have sm := (cutStep_made ch l (1, rest0 S ch)).1
  have me := fold_me ch M l (1, rest0 S ch) h.me
  have u0 : (rest0 S ch).used = 0 := rfl
  simp only [u0] at s2 s3
  have s4 : 5000 * l.length ≤ 5000 * 100 := Nat.mul_le_mul_left 5000 ll
  have en : (restartI S ch).names = (rest0 S ch).names := by rw [er]; exact n1
  have es : (restartI S ch).safe = (rest0 S ch).names := by rw [er]; exact n2
  have ec : (restartI S ch).chg = [] := by rw [er]; exact n3
  have em : (restartI S ch).made = S.made := by rw [er]; exact sm
  have ef : (restartI S ch).file = (l.foldl (cutStep ch) (1, rest0 S ch)).2.file := by rw [er]
  have e1 : (restartI S ch).file 1 = ⟨M, M.length, true⟩ := by rw [ef]; exact me
  have ed : (restartI S ch).dead = false := rfl
  refine ⟨ok, ⟨by rw [em]; exact h.m1, by rw [er]; exact n4.trans h.room, by rw [er]; exact ⟨by show (0 : Int) ≤ (l.foldl (cutStep ch) (1, rest0 S ch)).2.used; omega, by show (l.foldl (cutStep ch) (1, rest0 S ch)).2.used ≤ _; omega⟩, ⟨by show (-1 : Int) ≤ -1; omega, by show (-1 : Int) ≤ _; omega⟩, rfl, by rw [er]; show (l.foldl (cutStep ch) (1, rest0 S ch)).2.calls ≤ 100; rw [n5]; exact h.calls, by rw [en]; exact hl, by rw [es, ec]; exact hl, by rw [ef]; exact s1, by rw [en, em]; exact hr, by rw [es, em]; exact hr, by rw [ec]; exact fun c hc => (nomatch hc), e1, by rw [es]; exact hk, by rw [ec]; exact fun c hc => (nomatch hc)⟩, ?_, ?_⟩
  · unfold findC
    rw [ed, en, hk]; rfl
  · unfold readD findN
    rw [ed, en, hk]
    show ((restartI S ch).file 1).data = M
    rw [e1]

end Go.Proofs.Ytalinhjalnndhaa
