/- WalCrash: behind a crash those that were synced are found. -/
import Derived.Test.YtpmjmkgokaafaaaGreatDoorWalX
namespace Go.Proofs.YtpmjmkgokaafaaaGreatDoor
set_option maxRecDepth 100000
open Go.ChangeShapes Go.WideShapes Go.RowKit M

theorem Run.up {w0 w : World} {lb b : Nat} {F D : Nat → Prop} {S : DS} {L : LS} {X : List (List Nat)} {t s t' : Nat} (h : Run w0 w lb b F D S L X t s) (ht : t ≤ t') : Run w0 w lb b F D S L X t' s := ⟨h.log, h.st.up ht, h.old, h.lbB, h.bel⟩
theorem DL.crash {S : DS} {L : LS} {X : List (List Nat)} {t s : Nat} (h : DL S L X t s) {n : Int} (hn : n ≤ 9223372036854775807) : DL { S with crash := max n (-1) } L X t s := by
  obtain ⟨⟨base, ext, st, e⟩, z, f⟩ := h
  have k : SameN S { S with crash := max n (-1) } := ⟨rfl, rfl, rfl, rfl, fun _ => rfl, fun _ => rfl, fun _ _ _ h => h⟩
  exact ⟨⟨base, ext, ⟨st.toWk.same k, st.next1, st.next2, st.nextb, st.nexte, st.none, st.some⟩, e⟩, z.crash hn, f⟩
/-- a crash is set -/
def CrashQ (w0 : World) (lb b : Nat) (F D : Nat → Prop) (S : DS) (L : LS) (X : List (List Nat)) (t s : Nat) (w : World) (e : Ending) (w' : World) : Prop :=
  e = .returned (.tuple #[]) ∧ ∃ S', Run w0 w' lb b F D S' L X t s ∧ KeepF F w w' ∧ S'.room = S.room
theorem crash_run {w0 w : World} {lb b : Nat} {F D : Nat → Prop} {S : DS} {L : LS} {X : List (List Nat)} {t s : Nat} (h : Run w0 w lb b F D S L X t s) (n : Int) (hn : n ≤ 9223372036854775807) :
    Calls Tryz.prog 14 #[.pointer (some ⟨b, 0, none⟩), .int .i64 n] w (CrashQ w0 lb b F D S L X t s w) :=
  (crash_f b F S n w h.log.disk).mono fun _ _ ⟨he, hf, hk⟩ => ⟨he, _, ⟨h.log.keep hf (fun _ hf => hf) hk, h.st.crash hn, h.old, h.lbB, h.bel.trans (hk.below h.bel.size h.old)⟩, hk, rfl⟩
/-- an append that may fail -/
def TryQ (w0 : World) (lb b : Nat) (F D : Nat → Prop) (S : DS) (X : List (List Nat)) (r : List Nat) (t s : Nat) (A : Int × DS × LS) (w : World) (e : Ending) (w' : World) : Prop :=
  e = .returned (.int .i64 A.1) ∧ KeepF (fun k => F k ∧ k ≠ lb) w w' ∧ A.2.1.room = S.room ∧ (A.1 = 0 → Run w0 w' lb b F D A.2.1 A.2.2 (X ++ [r]) (t + 1) s) ∧ ∃ X', (X' = X ∨ X' = X ++ [r]) ∧ RunD w0 w' b F A.2.1 X' (t + 1) s
theorem append_try {w0 w : World} {lb b : Nat} {F D : Nat → Prop} {S : DS} {L : LS} {X : List (List Nat)} {t s : Nat} (h : Run w0 w lb b F D S L X t s) (ht : t ≤ 600) (hX : X.length ≤ 900) (r : ByteArray) (hs : r.size ≤ 60) (hH : Halves w0) :
    Calls Tryz.prog 8 #[.pointer (some ⟨lb, 0, none⟩), .string r] w (TryQ w0 lb b F D S X (sb r) t s (lappend S L (sb r)) w) := by
  have c := append_c h.log h.st (by omega) hX r hs (halves_below hH h.bel)
  obtain ⟨⟨X', x1, x2⟩, a2, a3, a4⟩ := h.st.append (r := sb r) (by omega) hX ⟨by rw [sb_length]; exact hs, sb_lt r⟩
  exact c.mono fun e w' ⟨he, hl, hk⟩ => ⟨he, hk, a3, fun h0 => ⟨hl, a2 h0, h.old, h.lbB, keep_below h.bel h.old h.lbB hk⟩, X', x1.imp id (fun x => x.2), ⟨hl.disk, x2, h.old, keep_below h.bel h.old h.lbB hk⟩⟩
/-- a sync that may fail -/
def SynQ (w0 : World) (lb b : Nat) (F D : Nat → Prop) (S : DS) (X : List (List Nat)) (t s : Nat) (A : Int × DS × LS) (w : World) (e : Ending) (w' : World) : Prop :=
  e = .returned (.int .i64 A.1) ∧ KeepF (fun k => F k ∧ k ≠ lb) w w' ∧ A.2.1.room = S.room ∧ (A.1 = 0 → Run w0 w' lb b F D A.2.1 A.2.2 X (t + 1) X.length) ∧ RunD w0 w' b F A.2.1 X (t + 1) s
theorem sync_try {w0 w : World} {lb b : Nat} {F D : Nat → Prop} {S : DS} {L : LS} {X : List (List Nat)} {t s : Nat} (h : Run w0 w lb b F D S L X t s) (ht : t ≤ 600) :
    Calls Tryz.prog 9 #[.pointer (some ⟨lb, 0, none⟩)] w (SynQ w0 lb b F D S X t s (lsync S L) w) := by
  have c := sync_c h.log h.st (by omega)
  obtain ⟨a1, a2, a3, a4⟩ := h.st.sync (by omega)
  exact c.mono fun e w' ⟨he, hl, hk⟩ => ⟨he, hk, a3, fun h0 => ⟨hl, a2 h0, h.old, h.lbB, keep_below h.bel h.old h.lbB hk⟩, ⟨hl.disk, a1, h.old, keep_below h.bel h.old h.lbB hk⟩⟩

/-- a list of strings in blocks of G -/
structure OwnStr (w : World) (G : Nat → Prop) (B : Nat) (v : Value) (n : Nat) (xs : List Value) : Prop where
  row : w.ownsRow B 9 1 v n xs
  own : ∀ k, v.ownBlock = some k → G k
theorem OwnStr.keep {w w' : World} {G G' : Nat → Prop} {B : Nat} {v : Value} {n : Nat} {xs : List Value} (h : OwnStr w G B v n xs) (hk : KeepF G' w w') (hG : ∀ k, G k → G' k) : OwnStr w' G B v n xs := ⟨row_keep h.row (fun k e => hk.block k (hG k (h.own k e)) (h.row.lt k e).2), h.own⟩
theorem OwnStr.below {w w' : World} {G : Nat → Prop} {B : Nat} {v : Value} {n : Nat} {xs : List Value} (h : OwnStr w G B v n xs) (hb : Below w.heap.size w w') : OwnStr w' G B v n xs := h.keep (KeepF.of_below hb) (fun _ h => h)
theorem OwnStr.mono {w : World} {G G' : Nat → Prop} {B : Nat} {v : Value} {n : Nat} {xs : List Value} (h : OwnStr w G B v n xs) (hG : ∀ k, G k → G' k) : OwnStr w G' B v n xs := ⟨h.row, fun k e => hG k (h.own k e)⟩
theorem Mine.ownStr {w0 w : World} {lb : Nat} {F D : Nat → Prop} {v : Value} {xs ys : List Value} {n : Nat} (h : Mine w0 w lb F D v xs) (e : xs = ys) (hn : ys.length = n) : OwnStr w F w0.heap.size v n ys := by
  subst e; subst hn
  exact ⟨h.row, fun k e => (h.own k e).1⟩
theorem opened_ownStr {F D : Nat → Prop} {w0 w w' : World} {lb b : Nat} {S : DS} {L : LS} {X : List (List Nat)} {t s : Nat} {v : Value} {n : Nat} {xs : List Value} (_ : Run w0 w' lb b (fun k => F k ∨ (w.heap.size ≤ k ∧ k < w'.heap.size)) D S L X t s) (h : w'.ownsRow w.heap.size 9 1 v n xs) (hl : ∀ k, v.ownBlock = some k → k ≠ lb) : OwnStr w' (fun k => (F k ∨ (w.heap.size ≤ k ∧ k < w'.heap.size)) ∧ k ≠ lb) w.heap.size v n xs :=
  ⟨h, fun k e => ⟨.inr (h.lt k e), hl k e⟩⟩
theorem row_take {w : World} {B e g n cap : Nat} {xs : List Value} (h : w.ownsRow B e 1 (.slice (some ⟨g, 0, none⟩) n cap) n xs) {m : Nat} (hm : m ≤ n) : w.ownsRow B e 1 (.slice (some ⟨g, 0, none⟩) m cap) m (xs.take m) := by
  obtain ⟨h1, h2⟩ := h
  refine ⟨by rw [List.length_take]; omega, .inr ?_⟩
  rcases h2 with ⟨h2, _⟩ | ⟨g', cap', cur, hv, a1, a2, a3, a4, a5, a6⟩
  · cases h2
  · obtain ⟨e1, _, e2⟩ := Value.slice.inj hv
    obtain rfl : g = g' := by simpa using e1
    subst e2
    refine ⟨g, cap, cur, rfl, a1, a2, by omega, a4, a5, ?_⟩
    rw [← a6, List.take_take]
    congr 1
    omega
theorem row_cap {w : World} {B e g n cap : Nat} {xs : List Value} (h : w.ownsRow B e 1 (.slice (some ⟨g, 0, none⟩) n cap) n xs) : n ≤ cap ∧ cap ≤ maxLen := by
  obtain ⟨h1, h2⟩ := h
  rcases h2 with ⟨h2, _⟩ | ⟨g', cap', cur, hv, a1, a2, a3, a4, a5, a6⟩
  · cases h2
  · obtain ⟨e1, _, e2⟩ := Value.slice.inj hv
    subst e2
    exact ⟨a3, a4⟩
theorem rcs_take (ss : Nat → ByteArray) {m k : Nat} (h : m ≤ k) : (rcs ss k).take m = rcs ss m := by
  unfold rcs
  rw [← List.map_take, List.take_range, Nat.min_eq_left h]
theorem strs_take (X : List (List Nat)) (m : Nat) : (strs X).take m = strs (X.take m) := by unfold strs; rw [List.map_take]

set_option maxHeartbeats 400000 in
theorem fits_any (p1 : Option Addr) (g m n c1 c2 B1 B2 s : Nat) (L1 L2 : List Value) (hs : s ≤ m) (hm : m ≤ n) (hn : n ≤ 1000000) (hL : ∀ j, j < m → ∃ s, L1[j]? = some (.string s)) (he : L2.take m = L1) (w : World) (o1 : w.ownsRow B1 9 1 (.slice p1 m c1) m L1) (o2 : w.ownsRow B2 9 1 (.slice (some ⟨g, 0, none⟩) n c2) n L2) :
    Calls Tryz.prog 13 #[.slice p1 m c1, .slice (some ⟨g, 0, none⟩) n c2, .int .i64 (s : Int)] w fun e w' => e = .returned (.int .i64 0) ∧ Below w.heap.size w w' := by
  obtain ⟨hc, hc2⟩ := row_cap o2
  have o3 := row_take o2 hm
  rw [he] at o3
  have c := wsame_any p1 (some ⟨g, 0, none⟩) m c1 c2 B1 B2 L1 (by omega) hL w o1 o3
  have CC := Box.mk c
  clear c o1 o2 o3 he hL
  unfold maxLen at hc2
  have d1 : decide ((m : Int) < (s : Int)) = false := by simpa using hs
  have d2 : decide ((n : Int) < (m : Int)) = false := by simpa using hm
  go_enter Tryz.func13, Tryz.ntmps13
  go_wp2_with (go_at_call 33; ((with_reducible refine CC.out.mono ?_); rintro e w1 ⟨rfl, b1⟩))
  go_ret
  exact ⟨rfl, b1⟩

end Go.Proofs.YtpmjmkgokaafaaaGreatDoor
