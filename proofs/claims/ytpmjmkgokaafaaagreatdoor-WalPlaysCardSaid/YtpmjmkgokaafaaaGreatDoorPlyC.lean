/- WalPlays: what the law holds between its calls, and what each call leaves of it. -/
import Derived.Test.YtpmjmkgokaafaaaGreatDoorPlyI
import Derived.Laws.AppendOwnNone
import Derived.Deep.AppendLies
namespace Go.Proofs.YtpmjmkgokaafaaaGreatDoor
set_option maxRecDepth 100000
open Go.ChangeShapes Go.WideShapes Go.RowKit M

/-- append(v, u...): u nil or not -/
theorem wpList_append_rows {P : Program} {w : World} {ops : Array Oper} {rest : List Oper} {o : Oper} {a : Act} {Q : Exit → Act → World → Prop} (hgd : o.guard = none) (s x : Operand) (t : TypeId)
    (ho : o.op = .call { callee := .builtin .append, args := #[s, x], argTypes := #[t, t] })
    (base : Nat) (e : TypeId) (i : TypeInfo) (z : Value) (bytes : Nat) (ht : P.underlying t = some (.slice e)) (hi : P.info? e = some i) (hz : i.zero = some z)
    (hsize : i.size = 1) (hby : i.bytes = bytes) (hzs : z.cells.size = 1)
    (v : Value) (n : Nat) (xs : List Value) (hs : a.eval s = v) (hown : w.ownsRow base e 1 v n xs)
    (B2 : Nat) (u : Value) (m : Nat) (ys : List Value) (hx : a.eval x = u) (hu : w.ownsRow B2 e 1 u m ys) (h1 : ∀ u ∈ ys, u.oneCell' = true)
    (h63 : n + m ≤ maxLen) (hbytes : (n + m) * bytes ≤ 140737488355328) (hbase : base ≤ w.heap.size)
    (h : ∀ v' w', w'.ownsRow base e 1 v' (n + m) (xs ++ ys) → w.grownBy w' v.ownBlock → (v'.ownBlock = v.ownBlock ∨ v'.ownBlock = some w.heap.size) → wpList P ops Q rest (a.put o.dst v') w') : wpList P ops Q (o :: rest) a w := by
  rcases hu.2 with ⟨hv, h0⟩ | ⟨g, cap, cur, hv, hr⟩
  · subst h0
    have hys : ys = [] := List.length_eq_zero_iff.1 (by have := hu.1; omega)
    subst hys
    exact wpList_append_own_none hgd s x t ho base e i 1 ht hi v n xs hs hown (hx.trans hv) (h v w (by simpa using hown) ⟨rfl, rfl, rfl, Nat.le_refl _, fun _ _ _ => rfl⟩ (.inl rfl))
  · subst hv
    exact wpList_append_own_at w hgd s x t ho base e i z 1 bytes ht hi hz hsize hby hzs (by omega) v n xs hs hown ⟨g, 0, none⟩ m cap ys hx (by have := hu.1; omega) (hu.cells (g := g) rfl) h1 h63 hbytes hbase (fun v' w' a b _ d => h v' w' a b d)

theorem strs_one (X : List (List Nat)) : ∀ u ∈ strs X, u.oneCell' = true := fun u hu => by
  unfold strs at hu
  obtain ⟨l, _, rfl⟩ := List.mem_map.1 hu
  rfl
theorem strs_pre {X Y : List (List Nat)} (h : Y <+: X) : strs Y = (strs X).take Y.length := by
  rw [strs_take]
  exact congrArg strs (List.prefix_iff_eq_take.1 h)

/-- blocks of F, and those made since -/
def ExtQ (F : Nat → Prop) (w w' : World) : Nat → Prop := fun k => F k ∨ (w.heap.size ≤ k ∧ k < w'.heap.size)
/-- a disk, and the law's list x of the records X, of which s are to stay -/
structure PlB (w0 w : World) (b : Nat) (F : Nat → Prop) (S : DS) (X : List (List Nat)) (xv : Value) (N s k : Nat) : Prop where
  len : X.length = N
  few : N ≤ k
  safe : s ≤ N
  disk : HasF w b F S
  old : ∀ i, i < w0.heap.size → F i
  bel : Below w0.heap.size w0 w
  row : OwnStr w F w0.heap.size xv N (strs X)
  sz : SzQ S k
theorem PlB.up {w0 w : World} {b : Nat} {F : Nat → Prop} {S : DS} {X : List (List Nat)} {xv : Value} {N s k k' : Nat} (h : PlB w0 w b F S X xv N s k) (hk : k ≤ k') : PlB w0 w b F S X xv N s k' :=
  ⟨h.len, Nat.le_trans h.few hk, h.safe, h.disk, h.old, h.bel, h.row, h.sz.up hk⟩
theorem PlB.le {w0 w : World} {b : Nat} {F : Nat → Prop} {S : DS} {X : List (List Nat)} {xv : Value} {N s s' k : Nat} (h : PlB w0 w b F S X xv N s k) (hs : s' ≤ N) : PlB w0 w b F S X xv N s' k :=
  ⟨h.len, h.few, hs, h.disk, h.old, h.bel, h.row, h.sz⟩
theorem PlB.below {w0 w w' : World} {b : Nat} {F : Nat → Prop} {S : DS} {X : List (List Nat)} {xv : Value} {N s k : Nat} (h : PlB w0 w b F S X xv N s k) (hb : Below w.heap.size w w') : PlB w0 w' b F S X xv N s k :=
  ⟨h.len, h.few, h.safe, h.disk.below hb, h.old, h.bel.trans (hb.mono h.bel.size), h.row.below hb, h.sz⟩
/-- the disk changes -/
theorem PlB.next {w0 w w' : World} {b : Nat} {F : Nat → Prop} {S S' : DS} {X : List (List Nat)} {xv : Value} {N s k k' : Nat} (h : PlB w0 w b F S X xv N s k) (hd : HasF w' b F S') (hk : KeepF F w w') (z : SzQ S' k') (hkk : k ≤ k') : PlB w0 w' b F S' X xv N s k' :=
  ⟨h.len, Nat.le_trans h.few hkk, h.safe, hd, h.old, h.bel.trans (hk.below h.bel.size h.old), h.row.keep hk (fun _ h => h), z⟩
/-- the law makes a list anew -/
theorem PlB.grow {w0 w w' : World} {b : Nat} {F : Nat → Prop} {S : DS} {X X' : List (List Nat)} {xv xv' : Value} {N N' s s' k k' : Nat} (h : PlB w0 w b F S X xv N s k) (hb : Below w.heap.size w w') (hr : w'.ownsRow w.heap.size 9 1 xv' N' (strs X')) (hX : X'.length = N') (hN : N' ≤ k') (hs : s' ≤ N') (hk : k ≤ k') :
    PlB w0 w' b (ExtQ F w w') S X' xv' N' s' k' :=
  ⟨hX, hN, hs, h.disk.mine hb.size (fun _ hl _ => hb.block _ hl) (fun _ hf => hf), fun i hi => .inl (h.old i hi), h.bel.trans (hb.mono h.bel.size), ⟨ownsRow_base_a hr h.bel.size, fun i e => .inr (hr.lt i e)⟩, h.sz.up hk⟩
/-- and a log that goes on -/
structure PlF (w0 w : World) (b lb : Nat) (F D : Nat → Prop) (S : DS) (L : LS) (X : List (List Nat)) (xv : Value) (N s k : Nat) : Prop where
  pb : PlB w0 w b F S X xv N s k
  log : HasL w lb b F D S L
  lbB : w0.heap.size ≤ lb
  ne : ∀ i, xv.ownBlock = some i → i ≠ lb
  st : DLq S L X k s
/-- what the law holds: sick, and behind a Retire that was broken off -/
def PlM (w0 w : World) (b : Nat) (lv xv : Value) (N s k : Nat) (si re : Bool) : Prop :=
  (si = false ∧ re = false ∧ ∃ lb F D S L X, lv = .pointer (some ⟨lb, 0, none⟩) ∧ PlF w0 w b lb F D S L X xv N s k) ∨
  (si = true ∧ re = false ∧ ∃ F S X Y, PlB w0 w b F S X xv N s k ∧ Y <+: X ∧ DWq S Y k s) ∨
  (si = true ∧ re = true ∧ ∃ F S X, PlB w0 w b F S X xv N s k ∧ BKq S k)
theorem PlM.up {w0 w : World} {b : Nat} {lv xv : Value} {N s k k' : Nat} {si re : Bool} (h : PlM w0 w b lv xv N s k si re) (hk : k ≤ k') (hk' : k' ≤ 1000) : PlM w0 w b lv xv N s k' si re := by
  rcases h with ⟨h1, h2, lb, F, D, S, L, X, e, p⟩ | ⟨h1, h2, F, S, X, Y, p, y, d⟩ | ⟨h1, h2, F, S, X, p, d⟩
  · exact .inl ⟨h1, h2, lb, F, D, S, L, X, e, p.pb.up hk, p.log, p.lbB, p.ne, p.st.up hk hk'⟩
  · exact .inr (.inl ⟨h1, h2, F, S, X, Y, p.up hk, y, d.up hk hk'⟩)
  · exact .inr (.inr ⟨h1, h2, F, S, X, p.up hk, d.up hk hk'⟩)
theorem PlM.below {w0 w w' : World} {b : Nat} {lv xv : Value} {N s k : Nat} {si re : Bool} (h : PlM w0 w b lv xv N s k si re) (hb : Below w.heap.size w w') : PlM w0 w' b lv xv N s k si re := by
  rcases h with ⟨h1, h2, lb, F, D, S, L, X, e, p⟩ | ⟨h1, h2, F, S, X, Y, p, y, d⟩ | ⟨h1, h2, F, S, X, p, d⟩
  · exact .inl ⟨h1, h2, lb, F, D, S, L, X, e, p.pb.below hb, p.log.below hb, p.lbB, p.ne, p.st⟩
  · exact .inr (.inl ⟨h1, h2, F, S, X, Y, p.below hb, y, d⟩)
  · exact .inr (.inr ⟨h1, h2, F, S, X, p.below hb, d⟩)
theorem PlM.facts {w0 w : World} {b : Nat} {lv xv : Value} {N s k : Nat} {si re : Bool} (h : PlM w0 w b lv xv N s k si re) : (si = false ∧ re = false ∨ si = true ∧ re = false ∨ si = true ∧ re = true) ∧ Below w0.heap.size w0 w ∧ s ≤ N ∧ N ≤ k := by
  rcases h with ⟨h1, h2, lb, F, D, S, L, X, e, p⟩ | ⟨h1, h2, F, S, X, Y, p, y, d⟩ | ⟨h1, h2, F, S, X, p, d⟩
  · exact ⟨.inl ⟨h1, h2⟩, p.pb.bel, p.pb.safe, p.pb.few⟩
  · exact ⟨.inr (.inl ⟨h1, h2⟩), p.bel, p.safe, p.few⟩
  · exact ⟨.inr (.inr ⟨h1, h2⟩), p.bel, p.safe, p.few⟩
/-- no Retire was broken off -/
theorem PlM.there {w0 w : World} {b : Nat} {lv xv : Value} {N s k : Nat} {si : Bool} (h : PlM w0 w b lv xv N s k si false) : ∃ F S X Y, PlB w0 w b F S X xv N s k ∧ Y <+: X ∧ DWq S Y k s := by
  rcases h with ⟨h1, h2, lb, F, D, S, L, X, e, p⟩ | ⟨h1, h2, F, S, X, Y, p, y, d⟩ | ⟨h1, h2, F, S, X, p, d⟩
  · exact ⟨F, S, X, X, p.pb, List.prefix_refl _, p.st.dw⟩
  · exact ⟨F, S, X, Y, p, y, d⟩
  · cases h2
/-- a list, and a log that goes on -/
theorem PlM.fine {w0 w w' : World} {b lb : Nat} {F D : Nat → Prop} {S : DS} {L : LS} {X X' : List (List Nat)} {xv xv' : Value} {N N' s s' k k' : Nat} (h : PlB w0 w b F S X xv N s k) (l : HasL w lb b F D S L) (lbB : w0.heap.size ≤ lb) (hb : Below w.heap.size w w') (hr : w'.ownsRow w.heap.size 9 1 xv' N' (strs X')) (hX : X'.length = N') (hk : k ≤ k') (st : DLq S L X' k' s') :
    PlM w0 w' b (.pointer (some ⟨lb, 0, none⟩)) xv' N' s' k' false false := by
  have f1 := st.dw.few
  have f2 := st.dw.safe_le
  have p := h.grow hb hr hX (show N' ≤ k' by omega) (show s' ≤ N' by omega) hk
  exact .inl ⟨rfl, rfl, lb, _, D, S, L, X', rfl, p, l.keep p.disk (fun _ hf => .inl hf) (KeepF.of_below hb), lbB, fun i e => by have := l.disk.lt l.mine; have := (hr.lt i e).1; omega, st⟩
theorem PlM.sick {w0 w w' : World} {b : Nat} {F : Nat → Prop} {S : DS} {X X' Y : List (List Nat)} {lv xv xv' : Value} {N N' s k k' : Nat} (h : PlB w0 w b F S X xv N s k) (hb : Below w.heap.size w w') (hr : w'.ownsRow w.heap.size 9 1 xv' N' (strs X')) (hX : X'.length = N') (hN : N ≤ N') (hN' : N' ≤ k') (hk : k ≤ k') (hy : Y <+: X') (st : DWq S Y k' s) :
    PlM w0 w' b lv xv' N' s k' true false := by
  have f := h.safe
  exact .inr (.inl ⟨rfl, rfl, _, S, X', Y, h.grow hb hr hX hN' (by omega) hk, hy, st⟩)

/-- what Append leaves -/
def AppZ (w0 : World) (b lb : Nat) (F D : Nat → Prop) (X : List (List Nat)) (xv : Value) (N s k : Nat) (r : ByteArray) (e : Ending) (w' : World) : Prop :=
  ∃ c S' L', e = .returned (.int .i64 c) ∧ PlB w0 w' b F S' X xv N s (k + 1) ∧ (c = 0 → HasL w' lb b F D S' L' ∧ DLq S' L' (X ++ [sb r]) (k + 1) s) ∧ ∃ Y, (Y <+: X ∨ (c = 0 ∨ c = 9) ∧ Y <+: X ++ [sb r]) ∧ DWq S' Y (k + 1) s
theorem PlF.keepR {w0 w w' : World} {b lb : Nat} {F D : Nat → Prop} {S S' : DS} {L : LS} {X : List (List Nat)} {xv : Value} {N s k k' : Nat} (h : PlF w0 w b lb F D S L X xv N s k) (hd : HasF w' b F S') (hk : KeepF (fun i => F i ∧ i ≠ lb) w w') (z : SzQ S' k') (hkk : k ≤ k') : PlB w0 w' b F S' X xv N s k' := by
  have lbB := h.lbB
  exact ⟨h.pb.len, Nat.le_trans h.pb.few hkk, h.pb.safe, hd, h.pb.old, h.pb.bel.trans (hk.below h.pb.bel.size (fun i hi => ⟨h.pb.old i hi, by omega⟩)), ⟨row_keep h.pb.row.row (fun i e => hk.block i ⟨h.pb.row.own i e, h.ne i e⟩ (h.pb.row.row.lt i e).2), h.pb.row.own⟩, z⟩
theorem PlF.append {w0 w : World} {b lb : Nat} {F D : Nat → Prop} {S : DS} {L : LS} {X : List (List Nat)} {xv : Value} {N s k : Nat} (h : PlF w0 w b lb F D S L X xv N s k) (hk : k ≤ 100) (r : ByteArray) (hr : r.size ≤ 60) (hH : Halves w0) :
    Calls Tryz.prog 8 #[.pointer (some ⟨lb, 0, none⟩), .string r] w (AppZ w0 b lb F D X xv N s k r) := by
  obtain ⟨⟨Y, y, d⟩, ok⟩ := h.st.append (r := sb r) hk ⟨by rw [sb_length]; exact hr, sb_lt r⟩
  refine (append_q h.log h.st hk r hr (halves_below hH h.pb.bel)).mono fun e w' ⟨he, hl, hkp⟩ => ?_
  refine ⟨_, _, _, he, h.keepR hl.disk hkp d.2 (by omega), fun h0 => ⟨hl, ok h0⟩, Y, ?_, d⟩
  rcases y with rfl | ⟨c, rfl⟩
  · exact .inl (List.prefix_refl _)
  · exact .inr ⟨c, List.prefix_refl _⟩
/-- what Sync leaves -/
def SynZ (w0 : World) (b lb : Nat) (xv : Value) (N s k : Nat) (e : Ending) (w' : World) : Prop :=
  ∃ c, e = .returned (.int .i64 c) ∧ (c = 0 → PlM w0 w' b (.pointer (some ⟨lb, 0, none⟩)) xv N N (k + 1) false false) ∧ (c ≠ 0 → PlM w0 w' b (.pointer (some ⟨lb, 0, none⟩)) xv N s (k + 1) true false)
theorem PlF.sync {w0 w : World} {b lb : Nat} {F D : Nat → Prop} {S : DS} {L : LS} {X : List (List Nat)} {xv : Value} {N s k : Nat} (h : PlF w0 w b lb F D S L X xv N s k) (hk : k ≤ 100) :
    Calls Tryz.prog 9 #[.pointer (some ⟨lb, 0, none⟩)] w (SynZ w0 b lb xv N s k) := by
  obtain ⟨d, ok⟩ := h.st.sync hk
  refine (sync_q h.log h.st hk).mono fun e w' ⟨he, hl, hkp⟩ => ?_
  have p := h.keepR hl.disk hkp d.2 (show k ≤ k + 1 by omega)
  refine ⟨_, he, fun h0 => .inl ⟨rfl, rfl, lb, F, D, _, _, X, rfl, p.le (Nat.le_refl _), hl, h.lbB, h.ne, by have := ok h0; rw [h.pb.len] at this; exact this⟩, fun _ => .inr (.inl ⟨rfl, rfl, F, _, X, X, p, List.prefix_refl _, d⟩)⟩
/-- what Retire leaves -/
def RetZ (w0 : World) (b lb : Nat) (F D : Nat → Prop) (X : List (List Nat)) (xv : Value) (N k : Nat) (e : Ending) (w' : World) : Prop :=
  ∃ c S' L', e = .returned (.int .i64 c) ∧ PlB w0 w' b F S' X xv N 0 (k + 1) ∧ BKq S' (k + 1) ∧ (c = 0 → HasL w' lb b F D S' L' ∧ DLq S' L' [] (k + 1) 0)
theorem PlF.retire {w0 w : World} {b lb : Nat} {F D : Nat → Prop} {S : DS} {L : LS} {X : List (List Nat)} {xv : Value} {N s k : Nat} (h : PlF w0 w b lb F D S L X xv N s k) (hk : k ≤ 38) (hL : LibW w0) :
    Calls Tryz.prog 10 #[.pointer (some ⟨lb, 0, none⟩)] w (RetZ w0 b lb F D X xv N k) :=
  (retire_q h.log h.st hk (hL.below h.pb.bel)).mono fun e w' ⟨c, S', L', he, hl, hkp, bk, ok⟩ =>
    ⟨c, S', L', he, (h.keepR hl.disk hkp bk.2 (show k ≤ k + 1 by omega)).le (Nat.zero_le _), bk, fun h0 => ⟨hl, ok h0⟩⟩
/-- a disk's settings -/
theorem PlM.set {w0 w : World} {b : Nat} {lv xv : Value} {N s k : Nat} {si re : Bool} {fn : FuncId} {args : Array Value} (f : DS → DS) (hf : ∀ S, SetQ S (f S)) (hz : ∀ S t, SzQ S t → SzQ (f S) t) (h : PlM w0 w b lv xv N s k si re) (hc : ∀ F S, HasF w b F S → Calls Tryz.prog fn args w (FP b F w (.tuple #[]) (f S))) :
    Calls Tryz.prog fn args w fun e w' => e = .returned (.tuple #[]) ∧ PlM w0 w' b lv xv N s k si re := by
  rcases h with ⟨h1, h2, lb, F, D, S, L, X, e, p⟩ | ⟨h1, h2, F, S, X, Y, p, y, d⟩ | ⟨h1, h2, F, S, X, p, d⟩
  · exact (hc F S p.pb.disk).mono fun _ _ ⟨he, hd, hk⟩ => ⟨he, .inl ⟨h1, h2, lb, F, D, f S, L, X, e, p.pb.next hd hk (hz _ _ p.pb.sz) (Nat.le_refl _), p.log.keep hd (fun _ h => h) hk, p.lbB, p.ne, p.st.set (hf S) (hz _ _ p.pb.sz)⟩⟩
  · exact (hc F S p.disk).mono fun _ _ ⟨he, hd, hk⟩ => ⟨he, .inr (.inl ⟨h1, h2, F, f S, X, Y, p.next hd hk (hz _ _ p.sz) (Nat.le_refl _), y, d.set (hf S) (hz _ _ p.sz)⟩)⟩
  · exact (hc F S p.disk).mono fun _ _ ⟨he, hd, hk⟩ => ⟨he, .inr (.inr ⟨h1, h2, F, f S, X, p.next hd hk (hz _ _ p.sz) (Nat.le_refl _), d.set (hf S) (hz _ _ p.sz)⟩)⟩
theorem PlM.crash {w0 w : World} {b : Nat} {lv xv : Value} {N s k : Nat} {si re : Bool} (h : PlM w0 w b lv xv N s k si re) (n : Int) (hn : n ≤ 9223372036854775807) :
    Calls Tryz.prog 14 #[.pointer (some ⟨b, 0, none⟩), .int .i64 n] w fun e w' => e = .returned (.tuple #[]) ∧ PlM w0 w' b lv xv N s k si re :=
  h.set (fun S => { S with crash := max n (-1) }) (fun S => SetQ.crash S n) (fun _ _ z => z.crash hn) (fun F S hd => crash_f b F S n w hd)
theorem PlM.fail {w0 w : World} {b : Nat} {lv xv : Value} {N s k : Nat} {si re : Bool} (h : PlM w0 w b lv xv N s k si re) (n : Int) (hn : n ≤ 9223372036854775807) :
    Calls Tryz.prog 15 #[.pointer (some ⟨b, 0, none⟩), .int .i64 n] w fun e w' => e = .returned (.tuple #[]) ∧ PlM w0 w' b lv xv N s k si re :=
  h.set (fun S => { S with fail := max n (-1) }) (fun S => SetQ.fail S n) (fun _ _ z => z.fail hn) (fun F S hd => fail_f b F S n w hd)
theorem PlM.room {w0 w : World} {b : Nat} {lv xv : Value} {N s k : Nat} {si re : Bool} (h : PlM w0 w b lv xv N s k si re) (n : Int) (hn : n ≤ 9223372036854775807) :
    Calls Tryz.prog 16 #[.pointer (some ⟨b, 0, none⟩), .int .i64 n] w fun e w' => e = .returned (.tuple #[]) ∧ PlM w0 w' b lv xv N s k si re :=
  h.set (fun S => { S with room := max n 0 }) (fun S => SetQ.room S n) (fun _ _ z => z.room hn) (fun F S hd => room_f b F S n w hd)
/-- what Restart leaves -/
def RstZ (w0 : World) (b : Nat) (xv : Value) (N s k : Nat) (re : Bool) (e : Ending) (w' : World) : Prop :=
  e = .returned (.tuple #[]) ∧ ∃ F S X Y, PlB w0 w' b F S X xv N s k ∧ S.dead = false ∧ DWq S Y k Y.length ∧ (re = false → Y <+: X ∧ s ≤ Y.length)
theorem PlB.wide {w0 w w' : World} {b : Nat} {F : Nat → Prop} {S : DS} {X : List (List Nat)} {xv : Value} {N s k : Nat} (h : PlB w0 w b F S X xv N s k) (hb : Below w.heap.size w w') : PlB w0 w' b (ExtQ F w w') S X xv N s k :=
  ⟨h.len, h.few, h.safe, h.disk.mine hb.size (fun _ hl _ => hb.block _ hl) (fun _ hf => hf), fun i hi => .inl (h.old i hi), h.bel.trans (hb.mono h.bel.size), (h.row.below hb).mono (fun _ hf => .inl hf), h.sz⟩
theorem PlM.restart {w0 w wA : World} {b : Nat} {lv xv : Value} {N s k : Nat} {si re : Bool} (h : PlM w0 w b lv xv N s k si re) (hb : Below w.heap.size w wA) (hk : k ≤ 100) {v : Value} {ch : List Int} (hv : IntsIn wA v ch) (hvo : ∀ i, 0 < ch.length → v.ownBlock = some i → i < w0.heap.size) :
    Calls Tryz.prog 11 #[.pointer (some ⟨b, 0, none⟩), v] wA fun e w' => RstZ w0 b xv N s k re e w' ∧ (∀ i, w.heap.size ≤ i → i < wA.heap.size → w'.heap[i]? = wA.heap[i]?) ∧ wA.heap.size ≤ w'.heap.size := by
  cases re with
  | false =>
    obtain ⟨F, S, X, Y, p, y, d⟩ := h.there
    have p := p.wide hb
    obtain ⟨r1, r2, m, m1, m2, m3⟩ := d.restart hk ch
    have e : (Y.take m).length = m := by rw [List.length_take]; omega
    exact (restart_f b _ S v ch wA p.disk (p.sz.fine hk) r1 hv (fun i h0 hi => p.old i (hvo i h0 hi))).mono fun _ _ ⟨he, hd, hkp⟩ =>
      ⟨⟨he, _, _, X, Y.take m, p.next hd hkp m3.2 (Nat.le_refl _), r2.1, by rw [e]; exact m3, fun _ => ⟨(List.take_prefix _ _).trans y, by omega⟩⟩, fun i h1 h2 => hkp.block i (.inr ⟨h1, h2⟩) h2, hkp.size⟩
  | true =>
    rcases h with ⟨h1, h2, _⟩ | ⟨h1, h2, _⟩ | ⟨h1, h2, F, S, X, p, d⟩
    · cases h2
    · cases h2
    · have p := p.wide hb
      obtain ⟨r1, r2, Y, m3⟩ := d.restart hk ch
      exact (restart_f b _ S v ch wA p.disk (p.sz.fine hk) r1 hv (fun i h0 hi => p.old i (hvo i h0 hi))).mono fun _ _ ⟨he, hd, hkp⟩ =>
        ⟨⟨he, _, _, X, Y, p.next hd hkp m3.2 (Nat.le_refl _), r2.1, m3, fun e => by cases e⟩, fun i h1 h2 => hkp.block i (.inr ⟨h1, h2⟩) h2, hkp.size⟩
/-- what Open leaves -/
def OpnZ (w0 : World) (b : Nat) (X Y : List (List Nat)) (xv : Value) (N s k : Nat) (w : World) (e : Ending) (w' : World) : Prop :=
  ∃ lb p c M, e = .returned (.tuple #[.pointer (some ⟨lb, 0, none⟩), .slice p M c, .int .i64 0]) ∧ Y.length = M ∧ w'.ownsRow w.heap.size 9 1 (.slice p M c) M (strs Y) ∧ w'.ownsRow w0.heap.size 9 1 xv N (strs X) ∧ M ≤ k ∧ s ≤ M ∧ Below w0.heap.size w0 w' ∧ Below w.heap.size w w' ∧
    (∃ F S, HasF w' b F S ∧ S.dead = false) ∧ PlM w0 w' b (.pointer (some ⟨lb, 0, none⟩)) (.slice p M c) M s k false false
theorem PlB.opened {w0 w : World} {b : Nat} {F : Nat → Prop} {S : DS} {X Y : List (List Nat)} {xv : Value} {N s0 s k : Nat} (h : PlB w0 w b F S X xv N s0 k) (hd : S.dead = false) (st : DWq S Y k s) (hk : k ≤ 100) (limit : Int) (hl : limit ≤ 9223372036854775807) (hL : LibW w0) (hH : Halves w0) :
    Calls Tryz.prog 6 #[.pointer (some ⟨b, 0, none⟩), .int .i64 limit] w (OpnZ w0 b X Y xv N s k w) := by
  refine (open_q h.disk hd st hk limit hl (hL.below h.bel) (halves_below hH h.bel)).mono fun e w' ⟨lb, p, c, L, he, hl, h1, h2, row, hb, dl⟩ => ?_
  have f1 := st.few
  have f2 := st.safe_le
  exact ⟨lb, p, c, _, he, rfl, row, row_keep h.row.row (fun i e => hb.block i (h.row.row.lt i e).2), f1, f2, h.bel.trans (hb.mono h.bel.size), hb, ⟨_, S, hl.disk, hd⟩,
    .inl ⟨rfl, rfl, lb, _, _, S, L, Y, rfl, ⟨rfl, f1, f2, hl.disk, fun i hi => .inl (h.old i hi), h.bel.trans (hb.mono h.bel.size), ⟨ownsRow_base_a row h.bel.size, fun i e => .inr (row.lt i e)⟩, h.sz⟩, hl, Nat.le_trans h.bel.size h1, h2, dl⟩⟩
/-- a new list of no strings -/
theorem PlM.anew {w0 w : World} {b : Nat} {lv xv : Value} {s k : Nat} (h : PlM w0 w b lv xv 0 s k false false) : PlM w0 (w.alloc (.cells #[] 9)) b lv (.slice (some ⟨w.heap.size, 0, none⟩) 0 0) 0 s k false false := by
  rcases h with ⟨h1, h2, lb, F, D, S, L, X, e, p⟩ | ⟨h1, h2, _⟩ | ⟨h1, h2, _⟩
  · have hX : X = [] := List.length_eq_zero_iff.1 p.pb.len
    subst e
    subst hX
    exact PlM.fine p.pb p.log p.lbB ((Below.refl w.heap.size w).alloc (Nat.le_refl _) _) (World.ownsRow_made _ _ _ (Nat.le_refl _) (by decide) rfl) rfl (Nat.le_refl _) p.st
  · cases h1
  · cases h1
theorem PlB.begun {w0 w1 w2 : World} {b : Nat} {room : Int} (hr : room ≤ 9223372036854775807) (h : HasF w1 b (fun k => k < w0.heap.size) (newS room)) (b1 : Below w0.heap.size w0 w1) (b2 : Below w1.heap.size w1 w2) : PlB w0 w2 b (fun k => k < w0.heap.size) (newS room) [] (.slice none 0 0) 0 0 0 :=
  ⟨rfl, Nat.le_refl _, Nat.le_refl _, h.below b2, fun _ hi => hi, b1.trans (b2.mono b1.size), ⟨World.ownsRow_nil _ _ _ _, fun k e => by cases e⟩, (DWq.begun room hr).2⟩
theorem ints_low {w : World} {v : Value} {xs : List Int} (h : IntsIn w v xs) : ∀ k, 0 < xs.length → v.ownBlock = some k → k < w.heap.size := fun k h0 hk => by
  obtain ⟨b, off, c, hv, hb, _⟩ := h.cells h0
  rw [hv] at hk
  cases hk; exact hb
end Go.Proofs.YtpmjmkgokaafaaaGreatDoor
