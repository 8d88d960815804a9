/- The reference's Sets and Regs. -/
import Derived.Test.YtnlcmdgjoikljaaDoorTolM
import Derived.Test.YtnlcmdgjoikljaaDoorTolB
namespace Go.Proofs.YtnlcmdgjoikljaaDoor
set_option maxRecDepth 100000
open Go.RowKit

theorem setsM_yes {op : Int} (h1 : 1 ≤ op) (h2 : op ≤ 14) (h3 : op ≠ 10) : setsM op = true := by
  unfold setsM known
  simp; omega
theorem setsM_no {op : Int} (h : ¬ (1 ≤ op ∧ op ≤ 14 ∧ op ≠ 10)) : setsM op = false := by
  unfold setsM known
  simp; omega
theorem refSets_any (op : Int) (w : World) :
    Calls Tryd.prog 48 #[.int .i64 op] w fun e w' => e = .returned (.bool (setsM op)) ∧ w = w' := by
  by_cases h1 : 1 ≤ op
  · by_cases h2 : op ≤ 14
    · by_cases h3 : op = 10
      · subst h3
        go_enter Tryd.func48, Tryd.ntmps48
        go_wp2
        go_ret
        exact ⟨rfl, rfl⟩
      · rw [setsM_yes h1 h2 h3]
        have hq : (op == 10) = false := by simpa using h3
        have hq2 : (op != 10) = true := by simpa using h3
        clear h3
        go_enter Tryd.func48, Tryd.ntmps48
        go_wp2
        go_ret
        exact ⟨rfl, rfl⟩
    · rw [setsM_no (by omega)]
      go_enter Tryd.func48, Tryd.ntmps48
      go_wp2
      go_ret
      exact ⟨rfl, rfl⟩
  · rw [setsM_no (by omega)]
    go_enter Tryd.func48, Tryd.ntmps48
    go_wp2
    go_ret
    exact ⟨rfl, rfl⟩
theorem info_int1 : (Tryd.prog.info? 3).map (fun i => (i.zero, i.size, i.bytes)) = some (some (.int .i64 0), 1, 8) := by kernel_rfl
theorem hasR_succ (l : List Ins) (r : Int) (j : Nat) (x : Ins) (h : l[j]? = some x) : hasR (l.take (j + 1)) r = (hasR (l.take j) r || (setsM x.op && decide (x.rd = r))) := by
  unfold hasR
  rw [List.take_add_one, h]
  simp
set_option maxHeartbeats 6400000 in
theorem refRegs_any (v : Value) (l : List Ins) (hl : l.length ≤ 1000000) (w : World) (h : SlIn w v 13 l.length (l.flatMap insC)) :
    Calls Tryd.prog 29 #[v] w fun e w' => (∃ u, e = .returned u ∧ w'.ownsRow w.heap.size 3 1 u (regF l 8).length ((regF l 8).map (Value.int .i64))) ∧ Below w.heap.size w w' := by
  obtain ⟨p, c, rfl⟩ := h.slice
  have H := Bx.mk h
  clear h
  obtain ⟨i0, hi, hz0, hz1, hz2⟩ := info_parts info_int1
  have hu := Tryd.underlying79
  go_enter Tryd.func29, Tryd.ntmps29
  go_wp2_with fail
  go_loopw [3, 4] (fun o r wr => ∃ (k : Nat) (p2 : Option Addr) (n c2 : Nat), o = .slice p2 n c2 ∧ r = .int .i64 (k : Int) ∧ k ≤ 8 ∧ n ≤ k ∧ Bx (wr.ownsRow w.heap.size 3 1 (.slice p2 n c2) (regF l k).length ((regF l k).map (Value.int .i64))) ∧ Bx (Below w.heap.size w wr)) (fun _ r _ => 8 - (intOf r).toNat)
  case atStart => exact ⟨0, _, _, _, rfl, rfl, by omega, by omega, ⟨by simpa [regF] using newRowE w 3 1⟩, ⟨aset _ _⟩⟩
  case round =>
    obtain ⟨k, p2, n, c2, rfl, rfl, hk8, hnk, hrow, hb⟩ := hrel
    obtain ⟨wo, rfl⟩ : ∃ wo : World, wo = wr := ⟨_, rfl⟩
    obtain rfl : n = (regF l k).length := sliceLen hrow.out
    by_cases hk : k < 8
    · have HS := Bx.mk (H.out.below hb.out)
      have hsz := hb.out.size
      have hki : (k : Int) < 8 := by omega
      go_wp2_with fail
      go_loopw [5, 15] (fun hv i wr => ∃ (j : Nat), i = .int .i64 (j : Int) ∧ j ≤ l.length ∧ hv = .bool (hasR (l.take j) (k : Int)) ∧ Bx (Below wo.heap.size wo wr)) (fun _ i _ => l.length - (intOf i).toNat)
      case atStart => exact ⟨0, rfl, by omega, by simp [hasR], ⟨Below.refl _ _⟩⟩
      case round =>
        obtain ⟨j, rfl, hj, rfl, hbq⟩ := hrel
        by_cases hjl : j < l.length
        · obtain ⟨ib, io, ic', hiv, hil, hicl⟩ := HS.out.at (by omega)
          obtain ⟨rfl, _, rfl⟩ := Value.slice.inj hiv
          obtain ⟨x, hx⟩ : ∃ x, l[j]? = some x := ⟨_, List.getElem?_eq_getElem hjl⟩
          have R1 := Bx.mk (rngBel (rngAt insC 13 (fun _ => rfl) hicl hx) hbq.out)
          have EH := Bx.mk (hasR_succ l (k : Int) j x hx)
          have TH := Bx.mk (thrNew wr #[.int .i64 0, .int .i64 0, .int .i64 0, .bool false, .int .u64 0, .bool false, .int .u64 0, .bool false, .bool false, .int .i64 0, .int .i64 0, .int .i64 0, .int .i64 0] 79)
          have FN : Bx ((wr.alloc (.cells #[.int .i64 0, .int .i64 0, .int .i64 0, .bool false, .int .u64 0, .bool false, .int .u64 0, .bool false, .bool false, .int .i64 0, .int .i64 0, .int .i64 0, .int .i64 0] 79)).setCells wr.heap.size 0 (insC x).toArray.toList = wr.alloc (.cells (insC x).toArray 79)) := ⟨fillNew wr 79 _ (insC x) rfl⟩
          have IO := Bx.mk (all_oneCell_toArray (insOne x))
          have g0 : (wr.alloc (.cells (insC x).toArray 79)).cell? ⟨wr.heap.size, 0, none⟩ = some (.int .i64 x.op) := by rw [cOf (heap_alloc_new _ _)]; rfl
          have g1 : (wr.alloc (.cells (insC x).toArray 79)).cell? ⟨wr.heap.size, 1, none⟩ = some (.int .i64 x.rd) := by rw [cOf (heap_alloc_new _ _)]; rfl
          have cs := fun W => refSets_any x.op W
          have BB : Bx (Below wo.heap.size wo (wr.alloc (.cells (insC x).toArray 79))) := ⟨hbq.out.alloc hbq.out.size _⟩
          generalize hasR (l.take j) (k : Int) = HH at *
          generalize setsM x.op = SS at *
          clear hicl hiv hx
          go_upto_region 9 with (first
            | ((with_reducible refine ld_at 79 (.tmp 17) ?_); refine wpList_load_mid rfl 79 (.tmp 17) (by rfl) ib (io + j * 13) (by rfl) (insC x) _ R1.out hu rfl info_r8 ?_)
            | ((with_reducible refine st_at 79 (.tmp 7) (.tmp 18) ?_); refine wpList_store_mid rfl 79 (.tmp 7) (.tmp 18) (by rfl) wr.heap.size 0 (insC x).toArray (by rfl) (by rfl) TH.out info_r8 IO.out ?_; rw [FN.out]))
          generalize wr.alloc (.cells (insC x).toArray 79) = wz at *
          simp only [Act.put]
          cases HH
          · cases SS
            · have CS := Bx.mk cs
              clear cs
              go_wp2_with (go_at_call 48; ((with_reducible refine (CS.out _).mono ?_); rintro e w5 ⟨rfl, rfl⟩))
              go_roundw
              case rel => exact ⟨j + 1, by go_num, by omega, by rw [EH.out]; rfl, BB⟩
              case measure => simp [intOf] <;> omega
            · have CS := Bx.mk cs
              clear cs
              by_cases hrd : x.rd = (k : Int)
              · have hq : (x.rd == (k : Int)) = true := by simpa using hrd
                have hd : Bx (decide (x.rd = (k : Int)) = true) := ⟨by simpa using hrd⟩
                clear hrd
                go_wp2_with (go_at_call 48; ((with_reducible refine (CS.out _).mono ?_); rintro e w5 ⟨rfl, rfl⟩))
                go_roundw
                case rel => exact ⟨j + 1, by go_num, by omega, by rw [EH.out, hd.out]; rfl, BB⟩
                case measure => simp [intOf] <;> omega
              · have hq : (x.rd == (k : Int)) = false := by simpa using hrd
                have hd : Bx (decide (x.rd = (k : Int)) = false) := ⟨by simpa using hrd⟩
                clear hrd
                go_wp2_with (go_at_call 48; ((with_reducible refine (CS.out _).mono ?_); rintro e w5 ⟨rfl, rfl⟩))
                go_roundw
                case rel => exact ⟨j + 1, by go_num, by omega, by rw [EH.out, hd.out]; rfl, BB⟩
                case measure => simp [intOf] <;> omega
          · clear cs
            go_wp2_with fail
            go_roundw
            case rel => exact ⟨j + 1, by go_num, by omega, by rw [EH.out]; rfl, BB⟩
            case measure => simp [intOf] <;> omega
        · obtain rfl : j = l.length := by omega
          have ES := Bx.mk (regF_succ l k)
          have ET : Bx (hasR (l.take l.length) (k : Int) = hasR l (k : Int)) := ⟨by rw [List.take_length]⟩
          have hro := Bx.mk (rowBel hrow.out hbq.out)
          have hle := regF_len l k
          have s5 := hbq.out.size
          rw [ET.out]
          cases hh : hasR l (k : Int)
          · have HHH := Bx.mk hh
            clear hh
            go_wp2_with fail
            go_roundw
            case rel => exact ⟨k + 1, _, _, _, rfl, by go_num, by omega, by omega, ⟨by rw [ES.out, HHH.out]; simpa using hro.out⟩, ⟨bel hb.out hbq.out⟩⟩
            case measure => simp [intOf] <;> omega
          · have HHH := Bx.mk hh
            clear hh
            go_wp2_with (at_builtin; refine wpList_append_lies _ rfl (.tmp 33) (.tmp 35) 85 rfl w.heap.size 3 i0 _ 1 8 Tryd.underlying85 hi hz0 hz1 hz2 rfl (by omega) _ (regF l k).length ((regF l k).map (Value.int .i64)) rfl (hro.out.alloc _) ⟨wr.heap.size, 0, none⟩ 1 1 [.int .i64 (k : Int)] rfl rfl (World.news_of_block (cs := #[.int .i64 (k : Int)]) (t := 3) (fr := (0, 0)) (heap_alloc_new _ _)) (by simp [Value.oneCell']) (by omega) (by unfold maxLen; omega) (by omega) (by first | (simp; done) | (simp; omega)) (wr.heap.size + 1) (by simp) ?_; intro g7 cap7 w7 hown7 hgrow7 hat7 hlt7; have R7 : Bx (w7.ownsRow w.heap.size 3 1 (.slice (some ⟨g7, 0, none⟩) ((regF l k).length + 1) cap7) (regF l (k + 1)).length ((regF l (k + 1)).map (Value.int .i64))) := ⟨(by rw [ES.out, HHH.out]; simpa using hown7)⟩; have B7 : Bx (Below w.heap.size w w7) := ⟨((bel hb.out hbq.out).alloc (by omega) _).grown hgrow7 (by first | (simp; done) | (simp; omega)) (fun k e => (rowLt hrow.out k e).1)⟩; clear hown7 hgrow7 hat7 hlt7)
            go_roundw
            case rel => exact ⟨k + 1, _, _, _, rfl, by go_num, by omega, by omega, R7, B7⟩
            case measure => simp [intOf] <;> omega
    · obtain rfl : k = 8 := by omega
      go_wp2_with fail
      go_ret
      exact ⟨⟨_, rfl, hrow.out⟩, hb.out⟩
end Go.Proofs.YtnlcmdgjoikljaaDoor
