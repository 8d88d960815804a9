/- Contracts of disk: New and the small ones. -/
import Derived.Test.YtalinhjalnndhaaDiskL
namespace Go.Proofs.Ytalinhjalnndhaa
set_option maxRecDepth 100000
open Go.RowKit M

def newOwn (H : Nat) : Nat → Tag := fun k => if k = H then .names else if k = H + 1 then .safe else if k = H + 2 then .disk else .free
def newL (H : Nat) : Lay := ⟨H + 2, H, H + 1, fun _ => 0, fun _ => .slice none 0 0, .slice none 0 0, newOwn H⟩

theorem newDisk (w : World) (room : Int) : DiskAt (((w.alloc (.map #[] 0)).alloc (.map #[] 0)).alloc (.cells #[.map (some w.heap.size), .map (some (w.heap.size + 1)), .slice none 0 0, .int .i64 0, .int .i64 (max room 0), .int .i64 0, .int .i64 (-1), .int .i64 (-1), .bool false, .int .i64 0] 56)) (newL w.heap.size) (newS room) := by
  have b1 : Below w.heap.size w ((w.alloc (.map #[] 0)).alloc (.map #[] 0)) := ((Below.refl _ _).alloc (Nat.le_refl _) _).alloc (by simp) _
  have m0 := mapL_new w (fun _ => 0)
  have m1 := mapL_new (w.alloc (.map #[] 0)) (fun _ => 0)
  have e0 : (((w.alloc (.map #[] 0)).alloc (.map #[] 0)).alloc (.cells #[.map (some w.heap.size), .map (some (w.heap.size + 1)), .slice none 0 0, .int .i64 0, .int .i64 (max room 0), .int .i64 0, .int .i64 (-1), .int .i64 (-1), .bool false, .int .i64 0] 56)).heap[w.heap.size]? = (w.alloc (.map #[] 0)).heap[w.heap.size]? := by
    rw [Below.heap_alloc _ _ _ (by simp; omega), Below.heap_alloc _ _ _ (by simp)]
  have e1 : (((w.alloc (.map #[] 0)).alloc (.map #[] 0)).alloc (.cells #[.map (some w.heap.size), .map (some (w.heap.size + 1)), .slice none 0 0, .int .i64 0, .int .i64 (max room 0), .int .i64 0, .int .i64 (-1), .int .i64 (-1), .bool false, .int .i64 0] 56)).heap[w.heap.size + 1]? = ((w.alloc (.map #[] 0)).alloc (.map #[] 0)).heap[(w.alloc (.map #[] 0)).heap.size]? := by
    rw [Below.heap_alloc _ _ _ (by simp)]; simp
  have e2 := (MapKept.heap_alloc ((w.alloc (.map #[] 0)).alloc (.map #[] 0)) (.cells #[.map (some w.heap.size), .map (some (w.heap.size + 1)), .slice none 0 0, .int .i64 0, .int .i64 (max room 0), .int .i64 0, .int .i64 (-1), .int .i64 (-1), .bool false, .int .i64 0] 56)).1
  have hz : ((w.alloc (.map #[] 0)).alloc (.map #[] 0)).heap.size = w.heap.size + 2 := by simp
  have hz1 : (w.alloc (.map #[] 0)).heap.size = w.heap.size + 1 := by simp
  have hs : (((w.alloc (.map #[] 0)).alloc (.map #[] 0)).alloc (.cells #[.map (some w.heap.size), .map (some (w.heap.size + 1)), .slice none 0 0, .int .i64 0, .int .i64 (max room 0), .int .i64 0, .int .i64 (-1), .int .i64 (-1), .bool false, .int .i64 0] 56)).heap.size = w.heap.size + 3 := by simp
  rw [hz] at e2
  rw [hz1] at e1 m1
  generalize ((w.alloc (.map #[] 0)).alloc (.map #[] 0)).alloc (.cells #[.map (some w.heap.size), .map (some (w.heap.size + 1)), .slice none 0 0, .int .i64 0, .int .i64 (max room 0), .int .i64 0, .int .i64 (-1), .int .i64 (-1), .bool false, .int .i64 0] 56) = W at *
  have hc : ∀ j, W.cell? ⟨w.heap.size + 2, j, none⟩ = #[Value.map (some w.heap.size), .map (some (w.heap.size + 1)), .slice none 0 0, .int .i64 0, .int .i64 (max room 0), .int .i64 0, .int .i64 (-1), .int .i64 (-1), .bool false, .int .i64 0][j]? := fun j => by simp [World.cell?, e2]
  refine ⟨⟨by rw [show (newL w.heap.size).b = w.heap.size + 2 from rfl, hc]; rfl, by rw [show (newL w.heap.size).b = w.heap.size + 2 from rfl, hc]; rfl, by rw [show (newL w.heap.size).b = w.heap.size + 2 from rfl, hc]; rfl, by rw [show (newL w.heap.size).b = w.heap.size + 2 from rfl, hc]; rfl, by rw [show (newL w.heap.size).b = w.heap.size + 2 from rfl, hc]; rfl, by rw [show (newL w.heap.size).b = w.heap.size + 2 from rfl, hc]; rfl, by rw [show (newL w.heap.size).b = w.heap.size + 2 from rfl, hc]; rfl, by rw [show (newL w.heap.size).b = w.heap.size + 2 from rfl, hc]; rfl, by rw [show (newL w.heap.size).b = w.heap.size + 2 from rfl, hc]; rfl, by rw [show (newL w.heap.size).b = w.heap.size + 2 from rfl, hc]; rfl, fun o => ?_⟩,
    m0.keep e0, m1.keep e1, fun n h1 h2 => absurd (show n ≤ 0 from h2) (by omega), World.ownsRow_nil _ _ _ _, ⟨?_, ?_, ?_, (fun k e => by cases e), fun n h1 h2 => absurd (show n ≤ 0 from h2) (by omega), fun n h1 h2 => absurd (show n ≤ 0 from h2) (by omega), fun k hk => ?_⟩⟩
  · show World.frozen? _ ⟨w.heap.size + 2, o, none⟩ = false
    unfold World.frozen?; simp [e2]
  · show newOwn w.heap.size (w.heap.size + 2) = _
    unfold newOwn; rw [if_neg (by omega), if_neg (by omega), if_pos rfl]
  · show newOwn w.heap.size w.heap.size = _
    unfold newOwn; rw [if_pos rfl]
  · show newOwn w.heap.size (w.heap.size + 1) = _
    unfold newOwn; rw [if_neg (by omega), if_pos rfl]
  · show newOwn w.heap.size k = _
    rw [hs] at hk
    unfold newOwn; rw [if_neg (by omega), if_neg (by omega), if_neg (by omega)]

/-- a new disk -/
def NewP (room : Int) (w : World) (e : Ending) (w' : World) : Prop :=
  ∃ L, e = .returned (.pointer (some ⟨L.b, 0, none⟩)) ∧ DiskAt w' L (newS room) ∧ Below w.heap.size w w' ∧ (∀ k, k < w.heap.size → L.own k = .free)

set_option maxHeartbeats 400000 in
theorem new_any (room : Int) (w : World) (h1 : -9223372036854775808 ≤ room) (h2 : room ≤ 9223372036854775807) : Calls Try.prog 7 #[.int .i64 room] w (NewP room w) := by
  have hn := newDisk w room
  have hb : Below w.heap.size w (((w.alloc (.map #[] 0)).alloc (.map #[] 0)).alloc (.cells #[.map (some w.heap.size), .map (some (w.heap.size + 1)), .slice none 0 0, .int .i64 0, .int .i64 (max room 0), .int .i64 0, .int .i64 (-1), .int .i64 (-1), .bool false, .int .i64 0] 56)) := (((Below.refl _ _).alloc (Nat.le_refl _) _).alloc (by simp) _).alloc (by simp; omega) _
  have hf : ∀ k, k < w.heap.size → (newL w.heap.size).own k = .free := fun k hk => by
    show newOwn w.heap.size k = _
    unfold newOwn; rw [if_neg (by omega), if_neg (by omega), if_neg (by omega)]
  have hmm := @run_makeMap Try.prog
  rcases Int.lt_or_le room 0 with hl | hl
  · have e : max room 0 = 0 := by omega
    rw [e] at hn hb
    have HN := Box.mk hn; have HB := Box.mk hb; have HF := Box.mk hf
    clear hn hb hf e
    have e3 : decide (room < 0) = true := by simpa using hl
    go_enter Try.func7, Try.ntmps7
    go_wp2
    go_ret
    exact ⟨_, rfl, HN.out, HB.out, HF.out⟩
  · have e : max room 0 = room := by omega
    rw [e] at hn hb
    have HN := Box.mk hn; have HB := Box.mk hb; have HF := Box.mk hf
    clear hn hb hf e
    have e3 : decide (room < 0) = false := by simpa using hl
    go_enter Try.func7, Try.ntmps7
    go_wp2
    go_ret
    exact ⟨_, rfl, HN.out, HB.out, HF.out⟩

theorem dead_any (L : Lay) (S : DS) (w : World) (h : DiskAt w L S) : Calls Try.prog 23 #[.pointer (some ⟨L.b, 0, none⟩)] w fun e w' => e = .returned (.bool S.dead) ∧ w = w' := by
  have c8 := h.head.c8
  clear h
  go_enter Try.func23, Try.ntmps23
  go_wp2
  go_ret
  exact ⟨rfl, rfl⟩
theorem calls_any (L : Lay) (S : DS) (w : World) (h : DiskAt w L S) : Calls Try.prog 26 #[.pointer (some ⟨L.b, 0, none⟩)] w fun e w' => e = .returned (.int .i64 (S.calls : Int)) ∧ w = w' := by
  have c9 := h.head.c9
  clear h
  go_enter Try.func26, Try.ntmps26
  go_wp2
  go_ret
  exact ⟨rfl, rfl⟩

theorem crash_any (L : Lay) (S : DS) (n : Int) (w : World) (h : DiskAt w L S) : Calls Try.prog 20 #[.pointer (some ⟨L.b, 0, none⟩), .int .i64 n] w (DiskP L (fun t => t = .disk) w (.tuple #[]) { S with crash := max n (-1) }) := by
  have c6 := h.head.c6; have f6 := h.head.fz 6
  have HD := Box.mk h
  clear h
  go_enter Try.func20, Try.ntmps20
  go_wp2
  all_goals
    go_end0
    refine ⟨rfl, HD.out.reHead ((Chn.refl _ _ _).setCell (fun _ => HD.out.tags.b) _) ?_ rfl rfl rfl rfl rfl, (Chn.refl _ _ _).setCell (fun _ => HD.out.tags.b) _⟩
    first
    | (have m1 : max n (-1) = -1 := by omega
       rw [m1]; exact HD.out.head.s6 (-1))
    | (have m1 : max n (-1) = n := by omega
       rw [m1]; exact HD.out.head.s6 n)
theorem fail_dany (L : Lay) (S : DS) (n : Int) (w : World) (h : DiskAt w L S) : Calls Try.prog 36 #[.pointer (some ⟨L.b, 0, none⟩), .int .i64 n] w (DiskP L (fun t => t = .disk) w (.tuple #[]) { S with fail := max n (-1) }) := by
  have c6 := h.head.c7; have f6 := h.head.fz 7
  have HD := Box.mk h
  clear h
  go_enter Try.func36, Try.ntmps36
  go_wp2
  all_goals
    go_end0
    refine ⟨rfl, HD.out.reHead ((Chn.refl _ _ _).setCell (fun _ => HD.out.tags.b) _) ?_ rfl rfl rfl rfl rfl, (Chn.refl _ _ _).setCell (fun _ => HD.out.tags.b) _⟩
    first
    | (have m1 : max n (-1) = -1 := by omega
       rw [m1]; exact HD.out.head.s7 (-1))
    | (have m1 : max n (-1) = n := by omega
       rw [m1]; exact HD.out.head.s7 n)
theorem room_any (L : Lay) (S : DS) (n : Int) (w : World) (h : DiskAt w L S) : Calls Try.prog 37 #[.pointer (some ⟨L.b, 0, none⟩), .int .i64 n] w (DiskP L (fun t => t = .disk) w (.tuple #[]) { S with room := max n 0 }) := by
  have c6 := h.head.c4; have f6 := h.head.fz 4
  have HD := Box.mk h
  clear h
  go_enter Try.func37, Try.ntmps37
  go_wp2
  all_goals
    go_end0
    refine ⟨rfl, HD.out.reHead ((Chn.refl _ _ _).setCell (fun _ => HD.out.tags.b) _) ?_ rfl rfl rfl rfl rfl, (Chn.refl _ _ _).setCell (fun _ => HD.out.tags.b) _⟩
    first
    | (have m1 : max n 0 = 0 := by omega
       rw [m1]; exact HD.out.head.s4 0)
    | (have m1 : max n 0 = n := by omega
       rw [m1]; exact HD.out.head.s4 n)

end Go.Proofs.Ytalinhjalnndhaa
