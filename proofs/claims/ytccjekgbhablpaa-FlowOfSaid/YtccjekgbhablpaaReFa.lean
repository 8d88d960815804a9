/- The reference's flow: an Op is carried out: the end of the walk. -/
import Derived.Test.YtccjekgbhablpaaGf
namespace Go.Proofs.Ytccjekgbhablpaa
set_option maxRecDepth 100000
open Go.RowKit

theorem slNewR (w : World) (C : Array Value) (ty : TypeId) (z n : Nat) (h : C.size = n * z) : SlIn (w.alloc (.cells C ty)) (.slice (some ⟨w.heap.size, 0, none⟩) n n) z n C.toList :=
  ⟨by simpa using h, .inr ⟨_, _, _, rfl, by simp, fun i u hu => by rw [Nat.zero_add, cOf (heap_alloc_new _ _)]; simpa using hu⟩⟩
theorem info_ri : (Try.prog.info? 50).map (·.size) = some 13 := by kernel_rfl
theorem farN {w : World} {G : Nat → Prop} (hG : ∀ k, w.heap.size ≤ k → G k) {n : Nat} (hn : w.heap.size + 1 + 1 + 1 + 1 < n) : ∀ k, n ≤ k → Far w.heap.size G k := fun k hk => ⟨hG k (by omega), .inr (by omega)⟩
set_option maxRecDepth 100000 in
set_option maxHeartbeats 25600000 in
theorem memTail (w wc : World) (G : Nat → Prop) (hG : ∀ k, w.heap.size ≤ k → G k) (b fb : Nat) (hb1 : 1 ≤ b) (os : List (Nat × Nat × Ins)) (hos : os.length ≤ 1000) (ob oo oc : Nat) (HOL : Bx (SlIn w (.slice (some ⟨ob, oo, none⟩) os.length oc) 15 os.length (os.flatMap opX))) (s : RefSt) (h8 : s.regs.length = 8) (hlast : s.last ≤ os.length)
    (pp lp fp : Option Addr) (pn pc ln lc fn fc : Nat) (HFN : Bx (fn = s.facts.length)) (hfn1 : fn ≤ 1000) (k : Nat) (x : Ins) (hkl : k < os.length) (hkfn : k < fn) (rk : Bool) (rv : Nat) (works : Bool)
    (rp0 rp p4 p5 p6 : Option Addr) (rc0 rc n4 c4 n5 c5 n6 c6 ab : Nat) (rd : Nat) (hrd8 : rd < 8) (HRD : Bx (x.rd = (rd : Int)))
    (sl14 sl15 sl16 sl17 sl18 sl19 sl20 sl21 sl22 sl23 sl24 sl25 sl26 sl27 sl28 sl29 sl30 sl31 sl32 sl33 sl34 sl35 sl36 sl37 sl38 sl39 sl40 sl41 sl42 sl43 sl44 sl45 sl46 sl47 sl48 sl49 sl50 sl51 sl52 sl53 sl54 sl55 sl56 sl57 sl58 sl59 sl60 sl61 sl62 sl63 sl64 sl65 sl66 sl67 sl68 sl69 sl70 sl71 sl72 sl73 sl74 sl75 sl76 sl77 sl78 sl79 sl80 sl81 sl82 sl83 sl84 sl85 sl86 sl87 sl88 sl89 sl90 sl91 sl92 sl93 sl94 sl95 sl96 sl97 sl98 sl99 sl100 sl101 sl102 sl103 sl104 sl105 sl106 sl107 sl108 sl109 sl110 sl111 sl112 sl113 sl114 sl115 sl116 sl117 sl118 sl119 sl120 sl121 sl122 sl123 sl124 sl125 sl126 sl127 sl128 sl129 sl130 sl131 sl132 sl133 sl134 sl135 sl136 sl137 sl138 sl139 sl140 sl141 sl142 sl143 sl144 sl145 sl146 sl147 sl148 sl149 sl150 sl151 sl152 sl153 sl154 sl155 sl156 : Value)
    (HE : Bx (MemH w wc (Far w.heap.size G) b fb x rk rv (mS1 s x rk rv k) (mF4 s x rk rv) (.slice rp 8 rc) (.slice pp pn pc) (.slice lp ln lc) (.slice fp fn fc) (.slice p4 n4 c4) (.slice p5 n5 c5) (.slice p6 n6 c6))) :
    Code.wp Try.prog (((Go.Code.region 15 #[{ dst := some 86, op := Go.Op.fieldAddr 50 (Go.Operand.tmp 11) 0, type := 0, pos := "ref.go:126", after := #[], guard := none }, { dst := some 87, op := Go.Op.load 3 (Go.Operand.tmp 86), type := 3, pos := "ref.go:126", after := #[{ on := 0, ground := Go.Ground.data }], guard := none }, { dst := some 88, op := Go.Op.binOp Go.BinOp.eql 3 (Go.Operand.tmp 87) (Go.Operand.const (Go.Value.int Go.IntKind.i64 14)) 3, type := 4, pos := "ref.go:126", after := #[{ on := 1, ground := Go.Ground.data }], guard := none }] false).seq (Go.Code.cond (Go.Operand.tmp 88) (((Go.Code.region 16 #[{ dst := some 89, op := Go.Op.fieldAddr 105 (Go.Operand.tmp 5) 2, type := 0, pos := "ref.go:127", after := #[], guard := none }, { dst := some 90, op := Go.Op.load 3 (Go.Operand.tmp 89), type := 3, pos := "ref.go:127", after := #[{ on := 0, ground := Go.Ground.data }], guard := none }, { dst := some 91, op := Go.Op.binOp Go.BinOp.gtr 3 (Go.Operand.tmp 90) (Go.Operand.const (Go.Value.int Go.IntKind.i64 0)) 3, type := 4, pos := "ref.go:127", after := #[{ on := 1, ground := Go.Ground.data }], guard := none }, { dst := some 92, op := Go.Op.move (Go.Operand.tmp 91), type := 4, pos := "ref.go:127", after := #[{ on := 2, ground := Go.Ground.data }], guard := none }, { dst := some 93, op := Go.Op.move (Go.Operand.tmp 1), type := 42, pos := "ref.go:127", after := #[{ on := 3, ground := Go.Ground.guard }], guard := some (3, true) }, { dst := some 94, op := Go.Op.fieldAddr 105 (Go.Operand.tmp 5) 2, type := 0, pos := "ref.go:127", after := #[{ on := 3, ground := Go.Ground.guard }], guard := some (3, true) }, { dst := some 95, op := Go.Op.load 3 (Go.Operand.tmp 94), type := 3, pos := "ref.go:127", after := #[{ on := 5, ground := Go.Ground.data }, { on := 3, ground := Go.Ground.guard }], guard := some (3, true) }, { dst := some 96, op := Go.Op.binOp Go.BinOp.sub 3 (Go.Operand.tmp 95) (Go.Operand.const (Go.Value.int Go.IntKind.i64 1)) 3, type := 3, pos := "ref.go:127", after := #[{ on := 6, ground := Go.Ground.data }, { on := 3, ground := Go.Ground.guard }], guard := some (3, true) }, { dst := some 97, op := Go.Op.indexAddr 42 (Go.Operand.tmp 93) (Go.Operand.tmp 96), type := 0, pos := "ref.go:127", after := #[{ on := 4, ground := Go.Ground.data }, { on := 7, ground := Go.Ground.data }, { on := 3, ground := Go.Ground.guard }], guard := some (3, true) }, { dst := some 98, op := Go.Op.fieldAddr 52 (Go.Operand.tmp 97) 2, type := 0, pos := "ref.go:127", after := #[{ on := 8, ground := Go.Ground.data }, { on := 3, ground := Go.Ground.guard }], guard := some (3, true) }, { dst := some 99, op := Go.Op.fieldAddr 50 (Go.Operand.tmp 98) 0, type := 0, pos := "ref.go:127", after := #[{ on := 9, ground := Go.Ground.data }, { on := 3, ground := Go.Ground.guard }], guard := some (3, true) }, { dst := some 100, op := Go.Op.load 3 (Go.Operand.tmp 99), type := 3, pos := "ref.go:127", after := #[{ on := 10, ground := Go.Ground.data }, { on := 3, ground := Go.Ground.guard }], guard := some (3, true) }, { dst := some 101, op := Go.Op.binOp Go.BinOp.eql 3 (Go.Operand.tmp 100) (Go.Operand.const (Go.Value.int Go.IntKind.i64 13)) 3, type := 4, pos := "ref.go:127", after := #[{ on := 11, ground := Go.Ground.data }, { on := 3, ground := Go.Ground.guard }], guard := some (3, true) }, { dst := some 102, op := Go.Op.pick (Go.Operand.tmp 92) (Go.Operand.tmp 101) (Go.Operand.const (Go.Value.bool false)), type := 4, pos := "ref.go:127", after := #[{ on := 3, ground := Go.Ground.data }, { on := 12, ground := Go.Ground.data }], guard := none }, { dst := some 103, op := Go.Op.move (Go.Operand.tmp 102), type := 4, pos := "ref.go:127", after := #[{ on := 13, ground := Go.Ground.data }, { on := 3, ground := Go.Ground.chain }], guard := none }, { dst := some 104, op := Go.Op.move (Go.Operand.tmp 1), type := 42, pos := "ref.go:127", after := #[{ on := 14, ground := Go.Ground.guard }], guard := some (14, true) }, { dst := some 105, op := Go.Op.fieldAddr 105 (Go.Operand.tmp 5) 2, type := 0, pos := "ref.go:127", after := #[{ on := 14, ground := Go.Ground.guard }], guard := some (14, true) }, { dst := some 106, op := Go.Op.load 3 (Go.Operand.tmp 105), type := 3, pos := "ref.go:127", after := #[{ on := 16, ground := Go.Ground.data }, { on := 14, ground := Go.Ground.guard }], guard := some (14, true) }, { dst := some 107, op := Go.Op.binOp Go.BinOp.sub 3 (Go.Operand.tmp 106) (Go.Operand.const (Go.Value.int Go.IntKind.i64 1)) 3, type := 3, pos := "ref.go:127", after := #[{ on := 17, ground := Go.Ground.data }, { on := 14, ground := Go.Ground.guard }], guard := some (14, true) }, { dst := some 108, op := Go.Op.indexAddr 42 (Go.Operand.tmp 104) (Go.Operand.tmp 107), type := 0, pos := "ref.go:127", after := #[{ on := 15, ground := Go.Ground.data }, { on := 18, ground := Go.Ground.data }, { on := 14, ground := Go.Ground.guard }], guard := some (14, true) }, { dst := some 109, op := Go.Op.fieldAddr 52 (Go.Operand.tmp 108) 2, type := 0, pos := "ref.go:127", after := #[{ on := 19, ground := Go.Ground.data }, { on := 14, ground := Go.Ground.guard }], guard := some (14, true) }, { dst := some 110, op := Go.Op.fieldAddr 50 (Go.Operand.tmp 109) 2, type := 0, pos := "ref.go:127", after := #[{ on := 20, ground := Go.Ground.data }, { on := 14, ground := Go.Ground.guard }], guard := some (14, true) }, { dst := some 111, op := Go.Op.load 3 (Go.Operand.tmp 110), type := 3, pos := "ref.go:127", after := #[{ on := 21, ground := Go.Ground.data }, { on := 14, ground := Go.Ground.guard }], guard := some (14, true) }, { dst := some 112, op := Go.Op.fieldAddr 50 (Go.Operand.tmp 11) 2, type := 0, pos := "ref.go:127", after := #[{ on := 14, ground := Go.Ground.guard }], guard := some (14, true) }, { dst := some 113, op := Go.Op.load 3 (Go.Operand.tmp 112), type := 3, pos := "ref.go:127", after := #[{ on := 23, ground := Go.Ground.data }, { on := 14, ground := Go.Ground.guard }], guard := some (14, true) }, { dst := some 114, op := Go.Op.binOp Go.BinOp.eql 3 (Go.Operand.tmp 111) (Go.Operand.tmp 113) 3, type := 4, pos := "ref.go:127", after := #[{ on := 22, ground := Go.Ground.data }, { on := 24, ground := Go.Ground.data }, { on := 14, ground := Go.Ground.guard }], guard := some (14, true) }, { dst := some 115, op := Go.Op.pick (Go.Operand.tmp 103) (Go.Operand.tmp 114) (Go.Operand.const (Go.Value.bool false)), type := 4, pos := "ref.go:127", after := #[{ on := 14, ground := Go.Ground.data }, { on := 25, ground := Go.Ground.data }], guard := none }] true).seq (Go.Code.cond (Go.Operand.tmp 115) (Go.Code.region 17 #[{ dst := some 116, op := Go.Op.fieldAddr 105 (Go.Operand.tmp 5) 2, type := 0, pos := "ref.go:128", after := #[], guard := none }, { dst := some 117, op := Go.Op.load 3 (Go.Operand.tmp 116), type := 3, pos := "ref.go:128", after := #[{ on := 0, ground := Go.Ground.data }], guard := none }, { dst := some 118, op := Go.Op.fieldAddr 72 (Go.Operand.tmp 12) 1, type := 0, pos := "ref.go:128", after := #[{ on := 0, ground := Go.Ground.phase }, { on := 1, ground := Go.Ground.phase }], guard := none }, { dst := none, op := Go.Op.store 3 (Go.Operand.tmp 118) (Go.Operand.tmp 117), type := 0, pos := "ref.go:128", after := #[{ on := 2, ground := Go.Ground.data }, { on := 1, ground := Go.Ground.data }, { on := 0, ground := Go.Ground.phase }, { on := 1, ground := Go.Ground.phase }], guard := none }] false) Go.Code.skip)).seq ((Go.Code.region 18 #[{ dst := some 119, op := Go.Op.move (Go.Operand.tmp 4), type := 4, pos := "ref.go:130", after := #[], guard := none }] false).seq (Go.Code.cond (Go.Operand.tmp 119) (Go.Code.region 19 #[{ dst := some 120, op := Go.Op.load 105 (Go.Operand.tmp 5), type := 105, pos := "ref.go:131", after := #[], guard := none }, { dst := some 121, op := Go.Op.fieldAddr 50 (Go.Operand.tmp 11) 1, type := 0, pos := "ref.go:131", after := #[], guard := none }, { dst := some 122, op := Go.Op.load 3 (Go.Operand.tmp 121), type := 3, pos := "ref.go:131", after := #[{ on := 1, ground := Go.Ground.data }], guard := none }, { dst := some 123, op := Go.Op.move (Go.Operand.tmp 2), type := 3, pos := "ref.go:131", after := #[], guard := none }, { dst := some 124, op := Go.Op.buildSlice 64 1 #[(0, Go.Operand.tmp 123)], type := 64, pos := "ref.go:131", after := #[{ on := 3, ground := Go.Ground.data }], guard := none }, { dst := some 125, op := Go.Op.build 70 #[(0, Go.Operand.const (Go.Value.bool true)), (1, Go.Operand.const (Go.Value.int Go.IntKind.u64 0)), (2, Go.Operand.tmp 124)], type := 70, pos := "ref.go:131", after := #[{ on := 4, ground := Go.Ground.data }], guard := none }, { dst := some 126, op := Go.Op.call { callee := Go.Callee.value (Go.Operand.func 48), args := #[Go.Operand.tmp 120, Go.Operand.tmp 122, Go.Operand.tmp 125], argTypes := #[105, 3, 70] }, type := 105, pos := "ref.go:131", after := #[{ on := 0, ground := Go.Ground.data }, { on := 2, ground := Go.Ground.data }, { on := 5, ground := Go.Ground.data }], guard := none }, { dst := none, op := Go.Op.store 105 (Go.Operand.tmp 5) (Go.Operand.tmp 126), type := 0, pos := "ref.go:131", after := #[{ on := 6, ground := Go.Ground.data }, { on := 6, ground := Go.Ground.chain }, { on := 0, ground := Go.Ground.phase }, { on := 1, ground := Go.Ground.phase }, { on := 2, ground := Go.Ground.phase }, { on := 3, ground := Go.Ground.phase }, { on := 4, ground := Go.Ground.phase }, { on := 5, ground := Go.Ground.phase }, { on := 6, ground := Go.Ground.phase }], guard := none }] false) ((Go.Code.region 20 #[{ dst := some 127, op := Go.Op.load 105 (Go.Operand.tmp 5), type := 105, pos := "ref.go:133", after := #[], guard := none }, { dst := some 128, op := Go.Op.fieldAddr 50 (Go.Operand.tmp 11) 1, type := 0, pos := "ref.go:133", after := #[], guard := none }, { dst := some 129, op := Go.Op.load 3 (Go.Operand.tmp 128), type := 3, pos := "ref.go:133", after := #[{ on := 1, ground := Go.Ground.data }], guard := none }, { dst := some 130, op := Go.Op.build 70 #[(0, Go.Operand.const (Go.Value.bool true)), (1, Go.Operand.const (Go.Value.int Go.IntKind.u64 1)), (2, Go.Operand.const (Go.Value.slice none 0 0))], type := 70, pos := "ref.go:133", after := #[], guard := none }, { dst := some 131, op := Go.Op.call { callee := Go.Callee.value (Go.Operand.func 48), args := #[Go.Operand.tmp 127, Go.Operand.tmp 129, Go.Operand.tmp 130], argTypes := #[105, 3, 70] }, type := 105, pos := "ref.go:133", after := #[{ on := 0, ground := Go.Ground.data }, { on := 2, ground := Go.Ground.data }, { on := 3, ground := Go.Ground.data }], guard := none }, { dst := none, op := Go.Op.store 105 (Go.Operand.tmp 5) (Go.Operand.tmp 131), type := 0, pos := "ref.go:133", after := #[{ on := 4, ground := Go.Ground.data }, { on := 4, ground := Go.Ground.chain }, { on := 0, ground := Go.Ground.phase }, { on := 1, ground := Go.Ground.phase }, { on := 2, ground := Go.Ground.phase }, { on := 3, ground := Go.Ground.phase }, { on := 4, ground := Go.Ground.phase }], guard := none }] false).seq (Go.Code.region 21 #[{ dst := some 132, op := Go.Op.fieldAddr 72 (Go.Operand.tmp 12) 1, type := 0, pos := "ref.go:134", after := #[], guard := none }, { dst := some 133, op := Go.Op.load 3 (Go.Operand.tmp 132), type := 3, pos := "ref.go:134", after := #[{ on := 0, ground := Go.Ground.data }], guard := none }, { dst := some 134, op := Go.Op.build 72 #[(0, Go.Operand.const (Go.Value.int Go.IntKind.i64 2)), (1, Go.Operand.tmp 133)], type := 72, pos := "ref.go:134", after := #[{ on := 1, ground := Go.Ground.data }], guard := none }, { dst := none, op := Go.Op.store 72 (Go.Operand.tmp 12) (Go.Operand.tmp 134), type := 0, pos := "ref.go:134", after := #[{ on := 2, ground := Go.Ground.data }, { on := 0, ground := Go.Ground.phase }, { on := 1, ground := Go.Ground.phase }, { on := 2, ground := Go.Ground.phase }], guard := none }] false))))) Go.Code.skip)).seq (((Go.Code.region 22 #[{ dst := some 135, op := Go.Op.fieldAddr 50 (Go.Operand.tmp 11) 0, type := 0, pos := "ref.go:137", after := #[], guard := none }, { dst := some 136, op := Go.Op.load 3 (Go.Operand.tmp 135), type := 3, pos := "ref.go:137", after := #[{ on := 0, ground := Go.Ground.data }], guard := none }, { dst := some 137, op := Go.Op.binOp Go.BinOp.eql 3 (Go.Operand.tmp 136) (Go.Operand.const (Go.Value.int Go.IntKind.i64 13)) 3, type := 4, pos := "ref.go:137", after := #[{ on := 1, ground := Go.Ground.data }], guard := none }, { dst := some 138, op := Go.Op.move (Go.Operand.tmp 137), type := 4, pos := "ref.go:137", after := #[{ on := 2, ground := Go.Ground.data }], guard := none }, { dst := some 139, op := Go.Op.fieldAddr 50 (Go.Operand.tmp 11) 0, type := 0, pos := "ref.go:137", after := #[{ on := 3, ground := Go.Ground.guard }], guard := some (3, false) }, { dst := some 140, op := Go.Op.load 3 (Go.Operand.tmp 139), type := 3, pos := "ref.go:137", after := #[{ on := 4, ground := Go.Ground.data }, { on := 3, ground := Go.Ground.guard }], guard := some (3, false) }, { dst := some 141, op := Go.Op.binOp Go.BinOp.eql 3 (Go.Operand.tmp 140) (Go.Operand.const (Go.Value.int Go.IntKind.i64 14)) 3, type := 4, pos := "ref.go:137", after := #[{ on := 5, ground := Go.Ground.data }, { on := 3, ground := Go.Ground.guard }], guard := some (3, false) }, { dst := some 142, op := Go.Op.pick (Go.Operand.tmp 138) (Go.Operand.const (Go.Value.bool true)) (Go.Operand.tmp 141), type := 4, pos := "ref.go:137", after := #[{ on := 3, ground := Go.Ground.data }, { on := 6, ground := Go.Ground.data }], guard := none }] false).seq (Go.Code.cond (Go.Operand.tmp 142) (Go.Code.region 23 #[{ dst := some 143, op := Go.Op.move (Go.Operand.tmp 2), type := 3, pos := "ref.go:138", after := #[], guard := none }, { dst := some 144, op := Go.Op.binOp Go.BinOp.add 3 (Go.Operand.tmp 143) (Go.Operand.const (Go.Value.int Go.IntKind.i64 1)) 3, type := 3, pos := "ref.go:138", after := #[{ on := 0, ground := Go.Ground.data }], guard := none }, { dst := some 145, op := Go.Op.fieldAddr 105 (Go.Operand.tmp 5) 2, type := 0, pos := "ref.go:138", after := #[{ on := 0, ground := Go.Ground.phase }, { on := 1, ground := Go.Ground.phase }], guard := none }, { dst := none, op := Go.Op.store 3 (Go.Operand.tmp 145) (Go.Operand.tmp 144), type := 0, pos := "ref.go:138", after := #[{ on := 2, ground := Go.Ground.data }, { on := 1, ground := Go.Ground.data }, { on := 0, ground := Go.Ground.phase }, { on := 1, ground := Go.Ground.phase }], guard := none }] false) Go.Code.skip)).seq ((Go.Code.region 24 #[{ dst := some 146, op := Go.Op.buildSlice 58 0 #[], type := 58, pos := "ref.go:140", after := #[], guard := none }, { dst := some 147, op := Go.Op.fieldAddr 105 (Go.Operand.tmp 5) 4, type := 0, pos := "ref.go:140", after := #[], guard := none }, { dst := some 148, op := Go.Op.load 58 (Go.Operand.tmp 147), type := 58, pos := "ref.go:140", after := #[{ on := 1, ground := Go.Ground.data }], guard := none }, { dst := some 149, op := Go.Op.call { callee := Go.Callee.builtin Go.Builtin.append, args := #[Go.Operand.tmp 146, Go.Operand.tmp 148], argTypes := #[58, 58] }, type := 58, pos := "ref.go:140", after := #[{ on := 0, ground := Go.Ground.data }, { on := 2, ground := Go.Ground.data }], guard := none }, { dst := some 150, op := Go.Op.fieldAddr 105 (Go.Operand.tmp 5) 4, type := 0, pos := "ref.go:140", after := #[{ on := 0, ground := Go.Ground.phase }, { on := 1, ground := Go.Ground.phase }, { on := 2, ground := Go.Ground.phase }, { on := 3, ground := Go.Ground.phase }], guard := none }, { dst := none, op := Go.Op.store 58 (Go.Operand.tmp 150) (Go.Operand.tmp 149), type := 0, pos := "ref.go:140", after := #[{ on := 4, ground := Go.Ground.data }, { on := 3, ground := Go.Ground.data }, { on := 3, ground := Go.Ground.chain }, { on := 0, ground := Go.Ground.phase }, { on := 1, ground := Go.Ground.phase }, { on := 2, ground := Go.Ground.phase }, { on := 3, ground := Go.Ground.phase }], guard := none }] false).seq ((Go.Code.region 25 #[{ dst := some 151, op := Go.Op.fieldAddr 105 (Go.Operand.tmp 5) 4, type := 0, pos := "ref.go:141", after := #[], guard := none }, { dst := some 152, op := Go.Op.load 58 (Go.Operand.tmp 151), type := 58, pos := "ref.go:141", after := #[{ on := 0, ground := Go.Ground.data }], guard := none }, { dst := some 153, op := Go.Op.move (Go.Operand.tmp 2), type := 3, pos := "ref.go:141", after := #[], guard := none }, { dst := some 154, op := Go.Op.load 72 (Go.Operand.tmp 12), type := 72, pos := "ref.go:141", after := #[], guard := none }, { dst := some 155, op := Go.Op.indexAddr 58 (Go.Operand.tmp 152) (Go.Operand.tmp 153), type := 0, pos := "ref.go:141", after := #[{ on := 1, ground := Go.Ground.data }, { on := 2, ground := Go.Ground.data }, { on := 0, ground := Go.Ground.phase }, { on := 1, ground := Go.Ground.phase }, { on := 2, ground := Go.Ground.phase }, { on := 3, ground := Go.Ground.phase }], guard := none }, { dst := none, op := Go.Op.store 72 (Go.Operand.tmp 155) (Go.Operand.tmp 154), type := 0, pos := "ref.go:141", after := #[{ on := 4, ground := Go.Ground.data }, { on := 3, ground := Go.Ground.data }, { on := 0, ground := Go.Ground.phase }, { on := 1, ground := Go.Ground.phase }, { on := 2, ground := Go.Ground.phase }, { on := 3, ground := Go.Ground.phase }], guard := none }] false).seq ((Go.Code.region 26 #[{ dst := some 156, op := Go.Op.load 105 (Go.Operand.tmp 5), type := 105, pos := "ref.go:142", after := #[], guard := none }, { dst := none, op := Go.Op.store 105 (Go.Operand.tmp 10) (Go.Operand.tmp 156), type := 0, pos := "ref.go:142", after := #[{ on := 0, ground := Go.Ground.data }, { on := 0, ground := Go.Ground.phase }], guard := none }] false).seq Go.Code.ret))))) (bodyPost Try.prog Try.f45 (fun e w' => ∃ rp' rc' fp' fc', e = .returned (.agg #[.slice rp' 8 rc', .slice pp pn pc, .int .i64 ((memR os s x k rk rv works).last : Int), .slice lp ln lc, .slice fp' fn fc', .bool s.known]) ∧ RegM w' G b (.slice rp' 8 rc') (memR os s x k rk rv works).regs ∧ FactM w' G fb (.slice fp' fn fc') (memR os s x k rk rv works).facts ∧ Below w.heap.size w w')) ⟨#[.agg #[.slice rp0 8 rc0, .slice pp pn pc, .int .i64 (s.last : Int), .slice lp ln lc, .slice fp fn fc, .bool s.known], .slice (some ⟨ob, oo, none⟩) os.length oc, .int .i64 (k : Int), .agg #[.bool rk, .int .u64 (rv : Int), .slice none 0 0], .bool works, .pointer (some ⟨w.heap.size, 0, none⟩), undef, undef, .pointer (some ⟨w.heap.size + 1, 0, none⟩), undef, .pointer (some ⟨w.heap.size + 1 + 1, 0, none⟩), .pointer (some ⟨w.heap.size + 1 + 1 + 1, 0, none⟩), .pointer (some ⟨w.heap.size + 1 + 1 + 1 + 1, 0, none⟩), .pointer (some ⟨ab, 0, none⟩), sl14, sl15, sl16, sl17, sl18, sl19, sl20, sl21, sl22, sl23, sl24, sl25, sl26, sl27, sl28, sl29, sl30, sl31, sl32, sl33, sl34, sl35, sl36, sl37, sl38, sl39, sl40, sl41, sl42, sl43, sl44, sl45, sl46, sl47, sl48, sl49, sl50, sl51, sl52, sl53, sl54, sl55, sl56, sl57, sl58, sl59, sl60, sl61, sl62, sl63, sl64, sl65, sl66, sl67, sl68, sl69, sl70, sl71, sl72, sl73, sl74, sl75, sl76, sl77, sl78, sl79, sl80, sl81, sl82, sl83, sl84, sl85, sl86, sl87, sl88, sl89, sl90, sl91, sl92, sl93, sl94, sl95, sl96, sl97, sl98, sl99, sl100, sl101, sl102, sl103, sl104, sl105, sl106, sl107, sl108, sl109, sl110, sl111, sl112, sl113, sl114, sl115, sl116, sl117, sl118, sl119, sl120, sl121, sl122, sl123, sl124, sl125, sl126, sl127, sl128, sl129, sl130, sl131, sl132, sl133, sl134, sl135, sl136, sl137, sl138, sl139, sl140, sl141, sl142, sl143, sl144, sl145, sl146, sl147, sl148, sl149, sl150, sl151, sl152, sl153, sl154, sl155, sl156], []⟩ wc := by
  have hki : (k : Int) < (os.length : Int) := by omega
  have hk0 : (0 : Int) ≤ (k : Int) := by omega
  have MK : Bx (∀ W : World, w.heap.size + 1 + 1 + 1 + 1 < W.heap.size → MaskIn (W.alloc (.cells #[.int .i64 (k : Int)] 3)) (Far w.heap.size G) b (.slice (some ⟨W.heap.size, 0, none⟩) 1 1) (bit1 k)) := ⟨fun W hW => ⟨[k], slNewR W #[.int .i64 (k : Int)] 3 1 1 rfl, mask_one k, hb1, fun q _ hq => by
    have e : W.heap.size = q := by simpa [Value.ownBlock] using hq
    rw [← e]; exact farN hG hW _ (Nat.le_refl _)⟩⟩
  have CS : Bx (∀ (W : World) (st : RefSt) (ff : Fx) (rp' : Option Addr) (rc' : Nat) (q4 q5 q6 : Value) (kk : Bool) (vv mm : Nat) (sp' : Option Addr) (sn' sc' : Nat), st.regs.length = 8 → MemH w W (Far w.heap.size G) b fb x rk rv st ff (.slice rp' 8 rc') (.slice pp pn pc) (.slice lp ln lc) (.slice fp fn fc) q4 q5 q6 → MaskIn W (Far w.heap.size G) b (.slice sp' sn' sc') mm →
    Calls Try.prog 48 #[.agg #[.slice rp' 8 rc', .slice pp pn pc, .int .i64 (st.last : Int), .slice lp ln lc, .slice fp fn fc, .bool st.known], .int .i64 (rd : Int), .agg #[.bool kk, .int .u64 (vv : Int), .slice sp' sn' sc']] W fun e w' => ∃ rp2 rc2, e = .returned (.agg #[.slice rp2 8 rc2, .slice pp pn pc, .int .i64 (st.last : Int), .slice lp ln lc, .slice fp fn fc, .bool st.known]) ∧ RegM w' (Far w.heap.size G) b (.slice rp2 8 rc2) (st.regs.set rd ⟨kk, if kk then vv else 0, mm⟩) ∧ Below W.heap.size W w') := ⟨fun W st ff rp' rc' q4 q5 q6 kk vv mm sp' sn' sc' h8' hM hm =>
      setR_any W (Far w.heap.size G) (farN hG (ltOf hM.b4)) b rp' rc' pp lp fp pn pc ln lc fn fc (st.last : Int) st.known st.regs h8' hM.regs rd hrd8 kk vv mm sp' sn' sc' hm⟩
  obtain ⟨S1, hS1⟩ : ∃ S1, S1 = mS1 s x rk rv k := ⟨_, rfl⟩
  obtain ⟨F4, hF4⟩ : ∃ F4, F4 = mF4 s x rk rv := ⟨_, rfl⟩
  have sf : S1.regs.length = 8 ∧ S1.last = s.last ∧ S1.known = s.known ∧ S1.path = s.path ∧ S1.left = s.left ∧ S1.facts = s.facts := by
    rw [hS1]; unfold mS1; split
    · exact ⟨by simp [h8], rfl, rfl, rfl, rfl, rfl⟩
    · exact ⟨h8, rfl, rfl, rfl, rfl, rfl⟩
  obtain ⟨s18, s1l, s1k, s1p, s1f, s1c⟩ := sf
  have s18 := Bx.mk s18
  rw [← hS1, ← hF4] at HE
  have HS1 := Bx.mk hS1; have HF4 := Bx.mk hF4
  have SL := Bx.mk s1l; have SKN := Bx.mk s1k; have SP := Bx.mk s1p; have SLF := Bx.mk s1f; have SFC := Bx.mk s1c
  clear hS1 hF4 s1l s1k s1p s1f s1c
  have i0 := cOf HE.out.b3 0
  simp only [List.getElem?_toArray, List.getElem?_cons_zero, insC] at i0
  go_upto_if 88 with fail
  go_cut [] (fun wx => ∃ rp' rc' p4 n4 c4 p5 n5 c5 p6 n6 c6, Bx (MemH w wx (Far w.heap.size G) b fb x rk rv (mS2 s x rk rv k works) (mF5 os s x rk rv works) (.slice rp' 8 rc') (.slice pp pn pc) (.slice lp ln lc) (.slice fp fn fc) (.slice p4 n4 c4) (.slice p5 n5 c5) (.slice p6 n6 c6)))
  case first =>
    by_cases h14 : x.op = 14
    · have hq : (x.op == 14) = true := by rw [h14]; rfl
      have H5 : Bx (∀ p, p = (if lastIs os s.last x.loc then s.last else F4.pr) → mF5 os s x rk rv works = if works then { F4 with pr := p } else ⟨2, p, false, 0, 0, 0, 0⟩) := ⟨fun p hp => by unfold mF5; rw [if_pos h14, hp, HF4.out]⟩
      have H2 : Bx (mS2 s x rk rv k works = { S1 with regs := S1.regs.set rd (if works then ⟨true, 0, bit1 k⟩ else ⟨true, 1, 0⟩) }) := ⟨by unfold mS2; rw [if_pos h14, ← HS1.out, HRD.out]; rfl⟩
      have v2 := cOf HE.out.b0 2
      have i2 := cOf HE.out.b3 2
      simp only [List.getElem?_toArray, List.getElem?_cons_zero, List.getElem?_cons_succ, insC] at v2 i2
      rw [SL.out] at v2
      have lis : (s.last = 0 ∧ lastIs os s.last x.loc = false) ∨ ∃ l o, s.last = l + 1 ∧ l < os.length ∧ lastIs os s.last x.loc = (decide ((o : Nat × Nat × Ins).2.2.op = 13) && decide (o.2.2.loc = x.loc)) ∧ w.cell? ⟨ob, oo + l * 15 + 2, none⟩ = some (.int .i64 o.2.2.op) ∧ w.cell? ⟨ob, oo + l * 15 + 4, none⟩ = some (.int .i64 o.2.2.loc) := by
        by_cases h : s.last = 0
        · left; rw [h]; exact ⟨rfl, rfl⟩
        · right
          obtain ⟨l, hl⟩ : ∃ l, s.last = l + 1 := ⟨s.last - 1, by omega⟩
          obtain ⟨o, ho⟩ : ∃ o, os[l]? = some o := ⟨_, List.getElem?_eq_getElem (by omega)⟩
          obtain ⟨ob2, oo2, oc2, heq, hbl2, hcl2⟩ := HOL.out.at (by omega)
          obtain ⟨e1, _, _⟩ := Value.slice.inj heq
          cases e1
          have RL := rngOpX hcl2 ho
          refine ⟨l, o, hl, by omega, ?_, RL 0 _ rfl, RL 2 _ rfl⟩
          unfold lastIs
          rw [hl, Nat.add_sub_cancel, ho, decide_eq_true (Nat.succ_pos l)]; rfl
      clear h14
      obtain ⟨li, hli0⟩ : ∃ li, li = lastIs os s.last x.loc := ⟨_, rfl⟩
      have i0 := cOf HE.out.b3 0
      simp only [List.getElem?_toArray, List.getElem?_cons_zero, insC] at i0
      go_upto_region 16 with fail
      go_cut [115] (fun v wx => v = .bool li ∧ Bx (MemH w wx (Far w.heap.size G) b fb x rk rv S1 F4 (.slice rp 8 rc) (.slice pp pn pc) (.slice lp ln lc) (.slice fp fn fc) (.slice p4 n4 c4) (.slice p5 n5 c5) (.slice p6 n6 c6)))
      case first =>
        rcases lis with ⟨hl0, hli⟩ | ⟨l, o, hl1, ho, hli, hc0, hc2⟩
        · rw [hl0] at v2
          rw [hli] at hli0
          clear hl0 hli
          go_quiet (fail)
          go_wp2_with fail
          go_meet
          exact ⟨by rw [hli0], ⟨HE.out.below (belN _ _ _)⟩⟩
        · have c0 := cBel hc0 HE.out.bel
          have c2' := cBel hc2 HE.out.bel
          have hll : (l : Int) < (os.length : Int) := by omega
          have hl0 : (0 : Int) ≤ (l : Int) := by omega
          obtain ⟨ls, hls⟩ : ∃ ls, ls = s.last := ⟨_, rfl⟩
          have hp1 : decide (0 < (ls : Int)) = true := by rw [hls]; simp; omega
          have hp2 : decide ((ls : Int) > 0) = true := hp1
          have hp3 : 0 < ls := by omega
          have hp4 : decide (0 < ls) = true := by simp; omega
          have hw1 : IntKind.i64.wrap ((ls : Int) - 1) = (l : Int) := by rw [hls, IntKind.wrap_i64]; omega
          obtain ⟨B1, hB1⟩ : ∃ B1, B1 = (o.2.2.op == 13) := ⟨_, rfl⟩
          obtain ⟨B2, hB2⟩ : ∃ B2, B2 = (o.2.2.loc == x.loc) := ⟨_, rfl⟩
          have hli2 : li = (B1 && B2) := by rw [hli0, hli, hB1, hB2]; rfl
          rw [← hls] at v2
          have hB1' := hB1.symm; have hB2' := hB2.symm
          clear hli hli0 hls hl1 ho hB1 hB2 hc0 hc2
          cases B1
          · go_quiet (fail)
            go_wp2_with fail
            go_meet
            exact ⟨by rw [hli2]; rfl, ⟨HE.out.below (belN _ _ _)⟩⟩
          · go_quiet (fail)
            go_wp2_with fail
            go_meet
            exact ⟨by rw [hli2]; rfl, ⟨HE.out.below (belN _ _ _)⟩⟩
      case rest =>
        clear HE v2 i2 i0 lis
        obtain ⟨rfl, HE⟩ := hcut
        rw [← hli0] at H5
        clear hli0
        go_upto_if 115 with fail
        go_cut [] (fun wx => ∃ p, p = (if li then s.last else F4.pr) ∧ Bx (MemH w wx (Far w.heap.size G) b fb x rk rv S1 { F4 with pr := p } (.slice rp 8 rc) (.slice pp pn pc) (.slice lp ln lc) (.slice fp fn fc) (.slice p4 n4 c4) (.slice p5 n5 c5) (.slice p6 n6 c6)))
        case first =>
          have v2 := cOf HE.out.b0 2
          have f1 := cOf HE.out.b4 1
          have ff1 := tOf HE.out.b4 1
          simp only [List.getElem?_toArray, List.getElem?_cons_zero, List.getElem?_cons_succ] at v2 f1
          rw [SL.out] at v2
          cases li
          · go_wp2_with fail
            go_meet
            exact ⟨_, rfl, HE⟩
          · go_wp2_with fail
            go_meet
            exact ⟨_, rfl, ⟨HE.out.setF (fun q hq => hset hq) (by rw [heapSet' HE.out.b4 _ _]; rfl) ⟨HE.out.fx.pl, HE.out.fx.va, HE.out.fx.pa⟩ (belSet HE.out.bel _ _ _ (by omega))⟩⟩
        case rest =>
          clear HE
          obtain ⟨p, hp, HE⟩ := hcut
          have EQ := Bx.mk (H5.out p hp)
          obtain ⟨F5, hF5⟩ : ∃ F5, F5 = { F4 with pr := p } := ⟨_, rfl⟩
          have hpr : F5.pr = p := by rw [hF5]
          rw [← hF5] at HE EQ
          have PR := Bx.mk hpr
          clear hp H5 hF5 hpr
          have v0 := cOf HE.out.b0 0; have v1 := cOf HE.out.b0 1; have v2 := cOf HE.out.b0 2; have v3 := cOf HE.out.b0 3; have v4 := cOf HE.out.b0 4; have v5 := cOf HE.out.b0 5
          have i1 := cOf HE.out.b3 1
          simp only [List.getElem?_toArray, List.getElem?_cons_zero, List.getElem?_cons_succ, insC] at v0 v1 v2 v3 v4 v5 i1
          rw [HRD.out] at i1
          cases works
          · have NIL := Bx.mk (MaskIn.nil wc (Far w.heap.size G) b)
            go_upto_if 119 with fail
            have c1 := CS.out wc S1 F5 rp rc _ _ _ true 1 0 none 0 0 s18.out HE.out NIL.out
            rw [show ((1 : Nat) : Int) = (1 : Int) from rfl] at c1
            have C1 := Bx.mk c1
            clear c1
            go_wp2_with (go_at_call 48; ((with_reducible refine (C1.out).mono ?_); rintro e w10 ⟨rp2, rc2, rfl, hr10, b10⟩; have H10 := Bx.mk ((HE.out).below b10); have R10 := Bx.mk hr10; have e0 := cOf H10.out.b0 0; have e1 := cOf H10.out.b0 1; have e2 := cOf H10.out.b0 2; have e3 := cOf H10.out.b0 3; have e4 := cOf H10.out.b0 4; have e5 := cOf H10.out.b0 5; have ef0 := tOf H10.out.b0 0; have ef1 := tOf H10.out.b0 1; have ef2 := tOf H10.out.b0 2; have ef3 := tOf H10.out.b0 3; have ef4 := tOf H10.out.b0 4; have ef5 := tOf H10.out.b0 5; have q1 := cOf H10.out.b4 1; have qf0 := tOf H10.out.b4 0; have qf1 := tOf H10.out.b4 1; have qf2 := tOf H10.out.b4 2; have qf3 := tOf H10.out.b4 3; have qf4 := tOf H10.out.b4 4; have qf5 := tOf H10.out.b4 5; have qf6 := tOf H10.out.b4 6; have qf7 := tOf H10.out.b4 7; have q0 := cOf H10.out.b4 0; have q2 := cOf H10.out.b4 2; have q3 := cOf H10.out.b4 3; have q4 := cOf H10.out.b4 4; have q5 := cOf H10.out.b4 5; have q6 := cOf H10.out.b4 6; have q7 := cOf H10.out.b4 7; simp only [List.getElem?_toArray, List.getElem?_cons_zero, List.getElem?_cons_succ] at e0 e1 e2 e3 e4 e5 q0 q1 q2 q3 q4 q5 q6 q7; clear hr10 b10))
            go_meet
            refine ⟨rp2, rc2, none, 0, 0, none, 0, 0, none, 0, 0, ⟨?_⟩⟩
            rw [show mF5 os s x rk rv false = (⟨2, F5.pr, false, 0, 0, 0, 0⟩ : Fx) from EQ.out.trans (by rw [PR.out]; rfl), H2.out]
            have M6 : MemH w ((((((w10.setCell ⟨w.heap.size, 0, none⟩ (.slice rp2 8 rc2)).setCell ⟨w.heap.size, 1, none⟩ (.slice pp pn pc)).setCell ⟨w.heap.size, 2, none⟩ (.int .i64 (S1.last : Int))).setCell ⟨w.heap.size, 3, none⟩ (.slice lp ln lc)).setCell ⟨w.heap.size, 4, none⟩ (.slice fp fn fc)).setCell ⟨w.heap.size, 5, none⟩ (.bool S1.known)) (Far w.heap.size G) b fb x rk rv { S1 with regs := S1.regs.set rd ⟨true, 1, 0⟩ } F5 (.slice rp2 8 rc2) (.slice pp pn pc) (.slice lp ln lc) (.slice fp fn fc) (.slice p4 n4 c4) (.slice p5 n5 c5) (.slice p6 n6 c6) :=
              H10.out.setW (fun q hq => (hset hq).trans ((hset hq).trans ((hset hq).trans ((hset hq).trans ((hset hq).trans (hset hq)))))) (by rw [heapSet' (heapSet' (heapSet' (heapSet' (heapSet' (heapSet' H10.out.b0 _ _) _ _) _ _) _ _) _ _) _ _]; rfl) R10.out H10.out.facts ⟨rfl, rfl⟩ (belSet (belSet (belSet (belSet (belSet (belSet H10.out.bel _ _ _ (Nat.le_refl _)) _ _ _ (Nat.le_refl _)) _ _ _ (Nat.le_refl _)) _ _ _ (Nat.le_refl _)) _ _ _ (Nat.le_refl _)) _ _ _ (Nat.le_refl _))
            exact M6.setF (fun q hq => (hset hq).trans ((hset hq).trans ((hset hq).trans ((hset hq).trans ((hset hq).trans ((hset hq).trans ((hset hq).trans (hset hq)))))))) (by rw [heapSet' (heapSet' (heapSet' (heapSet' (heapSet' (heapSet' (heapSet' (heapSet' M6.b4 _ _) _ _) _ _) _ _) _ _) _ _) _ _) _ _]; rfl) ⟨MaskIn.nil _ _ _, MaskIn.nil _ _ _, MaskIn.nil _ _ _⟩ (belSet (belSet (belSet (belSet (belSet (belSet (belSet (belSet M6.bel _ _ _ (by omega)) _ _ _ (by omega)) _ _ _ (by omega)) _ _ _ (by omega)) _ _ _ (by omega)) _ _ _ (by omega)) _ _ _ (by omega)) _ _ _ (by omega))
          · have HCA := Bx.mk (HE.out.below (aset wc (.cells #[.int .i64 (k : Int)] 3)))
            have g9 : w.heap.size + 1 + 1 + 1 + 1 < wc.heap.size := ltOf HE.out.b4
            have g91 : w.heap.size + 1 + 1 + 1 < wc.heap.size := ltOf HE.out.b3
            have g92 : w.heap.size + 1 < wc.heap.size := ltOf HE.out.b1
            have g93 : w.heap.size < wc.heap.size := ltOf HE.out.b0
            have MK9 := Bx.mk (MK.out wc g9)
            have c1 := CS.out _ S1 F5 rp rc _ _ _ true 0 (bit1 k) _ _ _ s18.out HCA.out MK9.out
            rw [show ((0 : Nat) : Int) = (0 : Int) from rfl] at c1
            have C1 := Bx.mk c1
            clear c1
            go_wp2_with (go_at_call 48; ((with_reducible refine (C1.out).mono ?_); rintro e w10 ⟨rp2, rc2, rfl, hr10, b10⟩; have H10 := Bx.mk ((HCA.out).below b10); have R10 := Bx.mk hr10; have e0 := cOf H10.out.b0 0; have e1 := cOf H10.out.b0 1; have e2 := cOf H10.out.b0 2; have e3 := cOf H10.out.b0 3; have e4 := cOf H10.out.b0 4; have e5 := cOf H10.out.b0 5; have ef0 := tOf H10.out.b0 0; have ef1 := tOf H10.out.b0 1; have ef2 := tOf H10.out.b0 2; have ef3 := tOf H10.out.b0 3; have ef4 := tOf H10.out.b0 4; have ef5 := tOf H10.out.b0 5; simp only [List.getElem?_toArray, List.getElem?_cons_zero, List.getElem?_cons_succ] at e0 e1 e2 e3 e4 e5 ; clear hr10 b10))
            go_meet
            refine ⟨rp2, rc2, p4, n4, c4, p5, n5, c5, p6, n6, c6, ⟨?_⟩⟩
            rw [EQ.out, H2.out]
            exact H10.out.setW (fun q hq => (hset hq).trans ((hset hq).trans ((hset hq).trans ((hset hq).trans ((hset hq).trans (hset hq)))))) (by rw [heapSet' (heapSet' (heapSet' (heapSet' (heapSet' (heapSet' H10.out.b0 _ _) _ _) _ _) _ _) _ _) _ _]; rfl) R10.out H10.out.facts ⟨rfl, rfl⟩ (belSet (belSet (belSet (belSet (belSet (belSet H10.out.bel _ _ _ (Nat.le_refl _)) _ _ _ (Nat.le_refl _)) _ _ _ (Nat.le_refl _)) _ _ _ (Nat.le_refl _)) _ _ _ (Nat.le_refl _)) _ _ _ (Nat.le_refl _))
    · have hq : (x.op == 14) = false := by rw [beq_eq_false_iff_ne]; exact h14
      have e5 : mF5 os s x rk rv works = F4 := by unfold mF5; rw [if_neg h14, HF4.out]
      have e2 : mS2 s x rk rv k works = S1 := by unfold mS2; rw [if_neg h14, HS1.out]
      have E5 := Bx.mk e5; have E2 := Bx.mk e2
      clear e5 e2 h14
      go_wp2_with fail
      go_meet
      exact ⟨rp, rc, p4, n4, c4, p5, n5, c5, p6, n6, c6, ⟨by rw [E5.out, E2.out]; exact HE.out⟩⟩
  case rest =>
    clear HE i0
    obtain ⟨rp, rc, p4, n4, c4, p5, n5, c5, p6, n6, c6, HE⟩ := hcut
    obtain ⟨S2, hS2⟩ : ∃ S2, S2 = mS2 s x rk rv k works := ⟨_, rfl⟩
    obtain ⟨F5, hF5⟩ : ∃ F5, F5 = mF5 os s x rk rv works := ⟨_, rfl⟩
    have sf : S2.regs.length = 8 ∧ S2.last = s.last ∧ S2.known = s.known ∧ S2.path = s.path ∧ S2.left = s.left ∧ S2.facts = s.facts := by
      rw [hS2]; unfold mS2; rw [← HS1.out]; split
      · exact ⟨by simp [s18.out], SL.out, SKN.out, SP.out, SLF.out, SFC.out⟩
      · exact ⟨s18.out, SL.out, SKN.out, SP.out, SLF.out, SFC.out⟩
    have TF : Bx (S2.regs.length = 8 ∧ S2.last = s.last ∧ S2.known = s.known ∧ S2.path = s.path ∧ S2.left = s.left ∧ S2.facts = s.facts) := ⟨sf⟩
    rw [← hS2, ← hF5] at HE
    have HS2 := Bx.mk hS2; have HF5 := Bx.mk hF5
    clear hS2 hF5 sf HS1 HF4 SL SKN SP SLF SFC s18
    have i0 := cOf HE.out.b3 0
    simp only [List.getElem?_toArray, List.getElem?_cons_zero, insC] at i0
    obtain ⟨B, hB⟩ : ∃ B, B = (x.op == 13 || x.op == 14) := ⟨_, rfl⟩
    have BE : Bx (mS3 s x rk rv k works = if B then { S2 with last := k + 1 } else S2) := ⟨by
      unfold mS3; rw [HS2.out, hB]
      by_cases h13 : x.op = 13
      · rw [if_pos (.inl h13), h13]; rfl
      · by_cases h14 : x.op = 14
        · rw [if_pos (.inr h14), h14]; rfl
        · rw [if_neg (by intro h; rcases h with h | h; exact h13 h; exact h14 h), if_neg (by simp [h13, h14])]⟩
    go_upto_region 22 with fail
    go_cut [142] (fun v wx => v = .bool B ∧ Bx (MemH w wx (Far w.heap.size G) b fb x rk rv S2 F5 (.slice rp 8 rc) (.slice pp pn pc) (.slice lp ln lc) (.slice fp fn fc) (.slice p4 n4 c4) (.slice p5 n5 c5) (.slice p6 n6 c6)))
    case first =>
      cases q13 : (x.op == 13)
      · cases q14 : (x.op == 14)
        · rw [q13, q14] at hB
          go_wp2_with fail
          go_meet
          exact ⟨by rw [hB]; rfl, HE⟩
        · rw [q13, q14] at hB
          go_wp2_with fail
          go_meet
          exact ⟨by rw [hB]; rfl, HE⟩
      · rw [q13] at hB
        go_wp2_with fail
        go_meet
        exact ⟨by rw [hB]; rfl, HE⟩
    case rest =>
    clear HE i0 hB
    obtain ⟨rfl, HE⟩ := hcut
    have v2 := cOf HE.out.b0 2
    have vf2 := tOf HE.out.b0 2
    simp only [List.getElem?_toArray, List.getElem?_cons_zero, List.getElem?_cons_succ] at v2
    go_upto_if 142 with fail
    go_cut [] (fun wx => Bx (MemH w wx (Far w.heap.size G) b fb x rk rv (mS3 s x rk rv k works) F5 (.slice rp 8 rc) (.slice pp pn pc) (.slice lp ln lc) (.slice fp fn fc) (.slice p4 n4 c4) (.slice p5 n5 c5) (.slice p6 n6 c6)))
    case first =>
      have hw1 : IntKind.i64.wrap ((k : Int) + 1) = (((k + 1 : Nat)) : Int) := by rw [IntKind.wrap_i64]; omega
      have hw2 : IntKind.i64.wrap ((k : Int) + 1) = (k : Int) + 1 := by rw [IntKind.wrap_i64]; omega
      cases B
      · go_wp2_with fail
        go_meet
        exact ⟨by rw [BE.out]; exact HE.out⟩
      · clear hw1
        go_wp2_with fail
        go_meet
        refine ⟨?_⟩
        rw [BE.out]
        exact HE.out.setW (fun q hq => hset hq) (by rw [heapSet' HE.out.b0 _ _]; rfl) HE.out.regs HE.out.facts ⟨rfl, rfl⟩ (belSet HE.out.bel _ _ _ (Nat.le_refl _))
    case rest =>
      clear HE v2 vf2 BE
      have HE := hcut
      clear hcut
      obtain ⟨S3, hS3⟩ : ∃ S3, S3 = mS3 s x rk rv k works := ⟨_, rfl⟩
      have sf : S3.known = s.known ∧ S3.facts = s.facts := by
        rw [hS3]; unfold mS3; split
        · exact ⟨by rw [← HS2.out]; exact TF.out.2.2.1, by rw [← HS2.out]; exact TF.out.2.2.2.2.2⟩
        · exact ⟨by rw [← HS2.out]; exact TF.out.2.2.1, by rw [← HS2.out]; exact TF.out.2.2.2.2.2⟩
      rw [← hS3] at HE
      have HS3 := Bx.mk hS3; have SF := Bx.mk sf
      clear hS3 sf HS2 TF
      obtain ⟨X, hX1, hX2, hX3⟩ := HE.out.facts.ex
      have hXl : X.length = fn := by rw [HFN.out, ← SF.out.2, ← hX1]; simp
      rw [hXl] at hX2
      have HX1 := Bx.mk hX1; have HX2 := Bx.mk hX2; have HX3 := Bx.mk hX3
      have hlt := ltOf HE.out.b4
      have hlt0 := ltOf HE.out.b0
      have v4 := cOf HE.out.b0 4; have vf4 := tOf HE.out.b0 4
      simp only [List.getElem?_toArray, List.getElem?_cons_zero, List.getElem?_cons_succ] at v4
      have R0 : Bx ((wc.alloc (.cells #[] 72)).ownsRow wc.heap.size 72 8 (.slice (some ⟨wc.heap.size, 0, none⟩) 0 0) 0 []) := ⟨newRow0 wc wc.heap.size 72 8 (Nat.le_refl _)⟩
      have AX := Bx.mk (HX2.out.below (aset wc (.cells #[] 72)))
      clear hX1 hX2 hX3
      go_upto_region 25 with (at_builtin; refine wpList_append_rows (w := wc.alloc (.cells #[] 72)) wc.heap.size (by simp) rfl (.tmp 146) (.tmp 148) 58 72 8 128 (.agg #[.int .i64 0, .int .i64 0, .bool false, .int .u64 0, .slice none 0 0, .slice none 0 0, .slice none 0 0, .slice none 0 0]) (by rfl) Try.underlying58 info_fx rfl (by decide) (by decide) wc.heap.size 0 0 [] (by rfl) R0.out _ fn (X.flatMap fxC) (by rfl) AX.out (fxC_one HX3.out) (by omega) ?_; intro g cap w4 r1 bl1 _; have R1 : Bx (w4.ownsRow wc.heap.size 72 8 (.slice (some ⟨g, 0, none⟩) fn cap) fn (X.flatMap fxC)) := ⟨(by simpa using r1)⟩; have B4 := Bx.mk ((aset wc (.cells #[] 72)).trans bl1); have y4 := cBel v4 B4.out; have yf4 := tOf ((B4.out.block _ (ltOf HE.out.b0)).trans HE.out.b0) 4; clear r1 bl1)
      obtain ⟨T, hT, hgB⟩ := rowHeapG R1.out
      obtain ⟨Gw, hG⟩ : ∃ Gw, Gw = w4.setCell ⟨w.heap.size, 4, none⟩ (.slice (some ⟨g, 0, none⟩) fn cap) := ⟨_, rfl⟩
      have HH := HE.out.below B4.out
      have g0 : Gw.heap[w.heap.size]? = some (.cells #[.slice rp 8 rc, .slice pp pn pc, .int .i64 (S3.last : Int), .slice lp ln lc, .slice (some ⟨g, 0, none⟩) fn cap, .bool S3.known] 105 (0, 0)) := by rw [hG, heapSet' HH.b0]; rfl
      have g2 : Gw.heap[w.heap.size + 1 + 1]? = some (.cells #[.slice none 0 0, .slice none 0 0, .int .i64 0, .slice none 0 0, .slice none 0 0, .bool false] 105 (0, 0)) := by rw [hG, hset (by omega)]; exact HH.b2
      have g4 : Gw.heap[w.heap.size + 1 + 1 + 1 + 1]? = some (.cells #[.int .i64 (F5.st : Int), .int .i64 (F5.pr : Int), .bool F5.wk, .int .u64 (F5.wv : Int), .slice none 0 0, .slice p4 n4 c4, .slice p5 n5 c5, .slice p6 n6 c6] 72 (0, 0)) := by rw [hG, hset (by omega)]; exact HH.b4
      have gg : Gw.heap[g]? = some (.cells (X.flatMap fxC ++ T).toArray 72 (0, 0)) := by rw [hG, hset (by omega)]; exact hT
      have bG : Below w.heap.size w Gw := by rw [hG]; exact belSet HH.bel _ _ _ (Nat.le_refl _)
      have kG : ∀ q, Far w.heap.size G q → q < wc.heap.size → Gw.heap[q]? = wc.heap[q]? := fun q hq hl => by
        have : q ≠ w.heap.size := by unfold Far at hq; omega
        rw [hG, hset this]; exact B4.out.block q hl
      (try rw [← hG])
      have KGW := Bx.mk kG
      clear hG hT R1 B4 y4 yf4 v4 vf4 R0 AX HH kG
      have x0 := cOf g0 0; have x1 := cOf g0 1; have x2 := cOf g0 2; have x3 := cOf g0 3; have x4 := cOf g0 4; have x5 := cOf g0 5
      have m0 := cOf g4 0; have m1 := cOf g4 1; have m2 := cOf g4 2; have m3 := cOf g4 3; have m4 := cOf g4 4; have m5 := cOf g4 5; have m6 := cOf g4 6; have m7 := cOf g4 7
      simp only [List.getElem?_toArray, List.getElem?_cons_zero, List.getElem?_cons_succ] at x0 x1 x2 x3 x4 x5 m0 m1 m2 m3 m4 m5 m6 m7
      have rl := flat_len fxC 8 (fun _ => rfl) X
      obtain ⟨u0, r0⟩ : ∃ u, Gw.cell? ⟨g, k * 8, none⟩ = some u := ⟨_, by rw [cOf gg]; exact Array.getElem?_eq_getElem (by rw [List.size_toArray, List.length_append, rl, hXl]; omega)⟩
      have rf0 := tOf gg (k * 8)
      obtain ⟨u1, r1⟩ : ∃ u, Gw.cell? ⟨g, k * 8 + 1, none⟩ = some u := ⟨_, by rw [cOf gg]; exact Array.getElem?_eq_getElem (by rw [List.size_toArray, List.length_append, rl, hXl]; omega)⟩
      have rf1 := tOf gg (k * 8 + 1)
      obtain ⟨u2, r2⟩ : ∃ u, Gw.cell? ⟨g, k * 8 + 2, none⟩ = some u := ⟨_, by rw [cOf gg]; exact Array.getElem?_eq_getElem (by rw [List.size_toArray, List.length_append, rl, hXl]; omega)⟩
      have rf2 := tOf gg (k * 8 + 2)
      obtain ⟨u3, r3⟩ : ∃ u, Gw.cell? ⟨g, k * 8 + 3, none⟩ = some u := ⟨_, by rw [cOf gg]; exact Array.getElem?_eq_getElem (by rw [List.size_toArray, List.length_append, rl, hXl]; omega)⟩
      have rf3 := tOf gg (k * 8 + 3)
      obtain ⟨u4, r4⟩ : ∃ u, Gw.cell? ⟨g, k * 8 + 4, none⟩ = some u := ⟨_, by rw [cOf gg]; exact Array.getElem?_eq_getElem (by rw [List.size_toArray, List.length_append, rl, hXl]; omega)⟩
      have rf4 := tOf gg (k * 8 + 4)
      obtain ⟨u5, r5⟩ : ∃ u, Gw.cell? ⟨g, k * 8 + 5, none⟩ = some u := ⟨_, by rw [cOf gg]; exact Array.getElem?_eq_getElem (by rw [List.size_toArray, List.length_append, rl, hXl]; omega)⟩
      have rf5 := tOf gg (k * 8 + 5)
      obtain ⟨u6, r6⟩ : ∃ u, Gw.cell? ⟨g, k * 8 + 6, none⟩ = some u := ⟨_, by rw [cOf gg]; exact Array.getElem?_eq_getElem (by rw [List.size_toArray, List.length_append, rl, hXl]; omega)⟩
      have rf6 := tOf gg (k * 8 + 6)
      obtain ⟨u7, r7⟩ : ∃ u, Gw.cell? ⟨g, k * 8 + 7, none⟩ = some u := ⟨_, by rw [cOf gg]; exact Array.getElem?_eq_getElem (by rw [List.size_toArray, List.length_append, rl, hXl]; omega)⟩
      have rf7 := tOf gg (k * 8 + 7)
      have GG := Bx.mk gg; have BG := Bx.mk bG; have G0 := Bx.mk g0; have G2 := Bx.mk g2
      have hng0 : w.heap.size ≠ g := by omega
      have hng2 : w.heap.size + 1 + 1 ≠ g := by omega
      have hkn : (k : Int) < (fn : Int) := by omega
      clear g0 g2 g4 gg bG rl
      go_upto_region 26 with fail
      obtain ⟨K, hK⟩ : ∃ K, K = Gw.setCells g (k * 8) (fxC (.slice p4 n4 c4, .slice p5 n5 c5, .slice p6 n6 c6, F5)) := ⟨_, rfl⟩
      have bK : Below w.heap.size w K := by rw [hK]; exact belSets (by omega) _ _ _ BG.out
      have KG : K.heap[g]? = some (.cells ((X.set k (.slice p4 n4 c4, .slice p5 n5 c5, .slice p6 n6 c6, F5)).flatMap fxC ++ T).toArray 72 (0, 0)) := by rw [hK]; exact flat_setCells fxC 8 (fun _ => rfl) (.slice p4 n4 c4, .slice p5 n5 c5, .slice p6 n6 c6, F5) (by omega) GG.out
      have k0 : K.heap[w.heap.size]? = some (.cells #[.slice rp 8 rc, .slice pp pn pc, .int .i64 (S3.last : Int), .slice lp ln lc, .slice (some ⟨g, 0, none⟩) fn cap, .bool S3.known] 105 (0, 0)) := by rw [hK]; exact (heapSets' hng0 _ _ _).trans G0.out
      have k2 : K.heap[w.heap.size + 1 + 1]? = some (.cells #[.slice none 0 0, .slice none 0 0, .int .i64 0, .slice none 0 0, .slice none 0 0, .bool false] 105 (0, 0)) := by rw [hK]; exact (heapSets' hng2 _ _ _).trans G2.out
      have kK : ∀ q, Far w.heap.size G q → q < wc.heap.size → K.heap[q]? = wc.heap[q]? := fun q hq hl => by
        rw [hK]; exact (heapSets' (by omega) _ _ _).trans (KGW.out q hq hl)
      have eK : ((((((((Gw.setCell ⟨g, k * 8, none⟩ (.int .i64 (F5.st : Int))).setCell ⟨g, k * 8 + 1, none⟩ (.int .i64 (F5.pr : Int))).setCell ⟨g, k * 8 + 2, none⟩ (.bool F5.wk)).setCell ⟨g, k * 8 + 3, none⟩ (.int .u64 (F5.wv : Int))).setCell ⟨g, k * 8 + 4, none⟩ (.slice none 0 0)).setCell ⟨g, k * 8 + 5, none⟩ (.slice p4 n4 c4)).setCell ⟨g, k * 8 + 6, none⟩ (.slice p5 n5 c5)).setCell ⟨g, k * 8 + 7, none⟩ (.slice p6 n6 c6)) = K := by rw [hK]; rfl
      rw [eK]
      have KGG := Bx.mk KG; have BK := Bx.mk bK; have KK := Bx.mk kK
      clear x0 x1 x2 x3 x4 x5 m0 m1 m2 m3 m4 m5 m6 m7 r0 r1 r2 r3 r4 r5 r6 r7 rf0 rf1 rf2 rf3 rf4 rf5 rf6 rf7 hK eK KG bK GG BG G0 G2 KGW kK
      have x0 := cOf k0 0; have x1 := cOf k0 1; have x2 := cOf k0 2; have x3 := cOf k0 3; have x4 := cOf k0 4; have x5 := cOf k0 5
      have z0 := cOf k2 0; have z1 := cOf k2 1; have z2 := cOf k2 2; have z3 := cOf k2 3; have z4 := cOf k2 4; have z5 := cOf k2 5
      have zf0 := tOf k2 0; have zf1 := tOf k2 1; have zf2 := tOf k2 2; have zf3 := tOf k2 3; have zf4 := tOf k2 4; have zf5 := tOf k2 5
      simp only [List.getElem?_toArray, List.getElem?_cons_zero, List.getElem?_cons_succ] at x0 x1 x2 x3 x4 x5 z0 z1 z2 z3 z4 z5
      have hk2 := ltOf k2
      clear k0 k2
      go_wp2_with fail
      have bF := (belSet (belSet (belSet (belSet (belSet (belSet BK.out (w.heap.size + 1 + 1) 0 (.slice rp 8 rc) (by omega)) (w.heap.size + 1 + 1) 1 (.slice pp pn pc) (by omega)) (w.heap.size + 1 + 1) 2 (.int .i64 (S3.last : Int)) (by omega)) (w.heap.size + 1 + 1) 3 (.slice lp ln lc) (by omega)) (w.heap.size + 1 + 1) 4 (.slice (some ⟨g, 0, none⟩) fn cap) (by omega)) (w.heap.size + 1 + 1) 5 (.bool S3.known) (by omega))
      have kF : ∀ q, Far w.heap.size G q → q < wc.heap.size → ((((((K.setCell ⟨w.heap.size + 1 + 1, 0, none⟩ (.slice rp 8 rc)).setCell ⟨w.heap.size + 1 + 1, 1, none⟩ (.slice pp pn pc)).setCell ⟨w.heap.size + 1 + 1, 2, none⟩ (.int .i64 (S3.last : Int))).setCell ⟨w.heap.size + 1 + 1, 3, none⟩ (.slice lp ln lc)).setCell ⟨w.heap.size + 1 + 1, 4, none⟩ (.slice (some ⟨g, 0, none⟩) fn cap)).setCell ⟨w.heap.size + 1 + 1, 5, none⟩ (.bool S3.known)).heap[q]? = wc.heap[q]? := fun q hq hl => by
        have hn : q ≠ w.heap.size + 1 + 1 := by unfold Far at hq; omega
        rw [hset hn, hset hn, hset hn, hset hn, hset hn, hset hn]; exact KK.out q hq hl
      have eM : (memR os s x k rk rv works).regs = S3.regs ∧ (memR os s x k rk rv works).last = S3.last ∧ (memR os s x k rk rv works).facts = s.facts.set k F5 := by
        unfold memR; rw [← HS3.out, ← HF5.out]; exact ⟨rfl, rfl, rfl⟩
      rw [eM.1, eM.2.1, eM.2.2]
      refine bodyPost_ret (v := .agg #[.slice rp 8 rc, .slice pp pn pc, .int .i64 (S3.last : Int), .slice lp ln lc, .slice (some ⟨g, 0, none⟩) fn cap, .bool S3.known]) (by simp [results, go_sem, z0, z1, z2, z3, z4, z5]) rfl ⟨rp, rc, some ⟨g, 0, none⟩, cap, by rw [SF.out.1], ?_, ?_, bF⟩
      · exact (HE.out.regs.keep kF).imp fun q h _ => h.1
      · have := fact_mk (G := G) (hG g (by omega)) (b := fb) (c := cap) (X := X) (T := T) (e := 72) k (.slice p4 n4 c4, .slice p5 n5 c5, .slice p6 n6 c6, F5) (by rw [hset hng2.symm, hset hng2.symm, hset hng2.symm, hset hng2.symm, hset hng2.symm, hset hng2.symm]; exact KGG.out) (fun y hy => ((HX3.out y hy).keep kF).imp fun q h _ => h.1) ((HE.out.fx.keep kF).imp fun q h _ => h.1)
        rw [hXl, HX1.out, SF.out.2] at this
        exact this
end Go.Proofs.Ytccjekgbhablpaa
