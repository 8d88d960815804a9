/- The reference's flow: a thread: a number is reckoned: the statement that draws its order. -/
import Derived.Test.YtccjekgbhablpaaGh
namespace Go.Proofs.Ytccjekgbhablpaa
set_option maxRecDepth 100000
open Go.RowKit

set_option maxRecDepth 100000 in
set_option maxHeartbeats 25600000 in
theorem reg26_any (w wc : World) (G : Nat → Prop) (HGC : Bx (∀ W : World, wc.heap.size ≤ W.heap.size → ∀ q, W.heap.size ≤ q → FarT w.heap.size G q)) (s : RefSt) (h8 : s.regs.length = 8) (j : Nat) (H3 : Bx (1 ≤ 3 ^ j ∧ 3 ^ (j + 1) = 3 * 3 ^ j ∧ 3 ^ j ≤ 6561)) (x : Ins) (hop28 : 2 ≤ x.op ∧ x.op ≤ 8) (rd : Nat) (hrd8 : rd < 8) (HRD : Bx (x.rd = (rd : Int)))
    (a b : Cn) (hav : a.v < 18446744073709551616) (hbv : b.v < 18446744073709551616) (rq pq lq fq pa pb : Option Addr) (rqc pn pc ln lqc fn fc na ca nb cb b4 b5 xb : Nat) (h4w : b4 ≠ w.heap.size) (h5w : b5 ≠ w.heap.size) (hxw' : xb ≠ w.heap.size)
    (TH2 : Bx (ThrH w wc (FarT w.heap.size G) (3 ^ j) 10000 s (.slice rq 8 rqc) (.slice pq pn pc) (.slice lq ln lqc) (.slice fq fn fc))) (MA : Bx (MaskIn wc (FarT w.heap.size G) (3 ^ j) (.slice pa na ca) a.f)) (MB : Bx (MaskIn wc (FarT w.heap.size G) (3 ^ j) (.slice pb nb cb) b.f))
    (XI2 : Bx (wc.heap[xb]? = some (.cells #[.int .i64 x.op, .int .i64 x.rd, .int .i64 x.loc, .bool x.ar, .int .u64 x.an, .bool x.br, .int .u64 x.bn, .bool x.acq, .bool x.rel, .int .i64 x.dep, .int .i64 x.pred, .int .i64 x.succ, .int .i64 x.skip] 50 (0, 0)))) (h4 : Bx (wc.heap[b4]? = some (.cells #[.bool a.k, .int .u64 (a.v : Int), .slice pa na ca] 70 (0, 0)))) (h5 : Bx (wc.heap[b5]? = some (.cells #[.bool b.k, .int .u64 (b.v : Int), .slice pb nb cb] 70 (0, 0))))
    (sl0 sl1 sl2 sl3 sl4 sl5 sl7 sl8 sl9 sl10 sl11 sl12 sl13 sl14 sl18 sl19 sl20 sl21 sl22 sl23 sl24 sl25 sl26 sl27 sl28 sl29 sl30 sl31 sl32 sl33 sl34 sl35 sl36 sl37 sl38 sl39 sl40 sl41 sl42 sl43 sl44 sl45 sl46 sl47 sl48 sl49 sl50 sl51 sl52 sl53 sl54 sl55 sl56 sl57 sl58 sl59 sl60 sl61 sl62 sl63 sl64 sl65 sl66 sl67 sl68 sl69 sl70 sl71 sl72 sl73 sl74 sl75 sl76 sl77 sl78 sl79 sl80 sl81 sl82 sl83 sl84 sl85 sl86 sl87 sl88 sl89 sl90 sl91 sl92 sl93 sl94 sl95 sl96 sl97 sl98 sl99 sl100 sl101 sl102 sl103 sl104 sl105 sl106 sl107 sl108 sl109 sl110 sl111 sl112 sl113 sl114 sl115 sl116 sl117 sl118 sl119 sl120 sl121 sl122 sl123 sl124 sl125 sl126 sl127 sl128 sl129 sl130 sl131 sl132 sl133 sl134 sl135 sl136 sl137 sl138 sl139 sl140 sl141 sl142 sl143 sl144 sl145 : Value) (Q : Exit → Act → World → Prop) (hP : ∀ (c : _) (a : Act) (T : Array Value) (w : World), Q (.panic c) ⟨T, a.defers⟩ w → Q (.panic c) a w)
    (hQ : ∀ (w7 : World) (rp2 : Option Addr) (rc2 : Nat) (vv121 vv122 vv123 vv124 vv125 vv126 vv127 vv128 vv129 vv130 vv131 vv132 vv133 vv134 vv135 vv136 vv137 vv138 vv139 vv140 vv141 vv142 vv143 : Value), ThrH w w7 (FarT w.heap.size G) (3 ^ j) 10000 s (.slice rq 8 rqc) (.slice pq pn pc) (.slice lq ln lqc) (.slice fq fn fc) → RegM w7 (FarT w.heap.size G) (3 ^ (j + 1)) (.slice rp2 8 rc2) (s.regs.set rd ⟨a.k && b.k, if a.k && b.k then reckM x.op a.v b.v else 0, a.f ||| b.f⟩) → Q .normal ⟨#[sl0, sl1, sl2, sl3, sl4, sl5, .pointer (some ⟨w.heap.size, 0, none⟩), sl7, sl8, sl9, sl10, sl11, sl12, sl13, sl14, .pointer (some ⟨xb, 0, none⟩), .pointer (some ⟨b4, 0, none⟩), .pointer (some ⟨b5, 0, none⟩), sl18, sl19, sl20, sl21, sl22, sl23, sl24, sl25, sl26, sl27, sl28, sl29, sl30, sl31, sl32, sl33, sl34, sl35, sl36, sl37, sl38, sl39, sl40, sl41, sl42, sl43, sl44, sl45, sl46, sl47, sl48, sl49, sl50, sl51, sl52, sl53, sl54, sl55, sl56, sl57, sl58, sl59, sl60, sl61, sl62, sl63, sl64, sl65, sl66, sl67, sl68, sl69, sl70, sl71, sl72, sl73, sl74, sl75, sl76, sl77, sl78, sl79, sl80, sl81, sl82, sl83, sl84, sl85, sl86, sl87, sl88, sl89, sl90, sl91, sl92, sl93, sl94, sl95, sl96, sl97, sl98, sl99, sl100, sl101, sl102, sl103, sl104, sl105, sl106, sl107, sl108, sl109, sl110, sl111, sl112, sl113, sl114, sl115, sl116, sl117, sl118, sl119, sl120, vv121, vv122, vv123, vv124, vv125, vv126, vv127, vv128, vv129, vv130, vv131, vv132, vv133, vv134, vv135, vv136, vv137, vv138, vv139, vv140, vv141, vv142, vv143, sl144, sl145], []⟩ ((((((w7.setCell ⟨w.heap.size, 0, none⟩ (.slice rp2 8 rc2)).setCell ⟨w.heap.size, 1, none⟩ (.slice pq pn pc)).setCell ⟨w.heap.size, 2, none⟩ (.int .i64 (s.last : Int))).setCell ⟨w.heap.size, 3, none⟩ (.slice lq ln lqc)).setCell ⟨w.heap.size, 4, none⟩ (.slice fq fn fc)).setCell ⟨w.heap.size, 5, none⟩ (.bool s.known))) :
    Code.wp Try.prog (Go.Code.region 26 #[{ dst := some 121, op := Go.Op.load 105 (Go.Operand.tmp 6), type := 105, pos := "ref.go:183", after := #[], guard := none }, { dst := some 122, op := Go.Op.fieldAddr 50 (Go.Operand.tmp 15) 1, type := 0, pos := "ref.go:183", after := #[], guard := none }, { dst := some 123, op := Go.Op.load 3 (Go.Operand.tmp 122), type := 3, pos := "ref.go:183", after := #[{ on := 1, ground := Go.Ground.data }], guard := none }, { dst := some 124, op := Go.Op.fieldAddr 70 (Go.Operand.tmp 16) 0, type := 0, pos := "ref.go:183", after := #[], guard := none }, { dst := some 125, op := Go.Op.load 4 (Go.Operand.tmp 124), type := 4, pos := "ref.go:183", after := #[{ on := 3, ground := Go.Ground.data }], guard := none }, { dst := some 126, op := Go.Op.move (Go.Operand.tmp 125), type := 4, pos := "ref.go:183", after := #[{ on := 4, ground := Go.Ground.data }], guard := none }, { dst := some 127, op := Go.Op.fieldAddr 70 (Go.Operand.tmp 17) 0, type := 0, pos := "ref.go:183", after := #[{ on := 5, ground := Go.Ground.guard }], guard := some (5, true) }, { dst := some 128, op := Go.Op.load 4 (Go.Operand.tmp 127), type := 4, pos := "ref.go:183", after := #[{ on := 6, ground := Go.Ground.data }, { on := 5, ground := Go.Ground.guard }], guard := some (5, true) }, { dst := some 129, op := Go.Op.pick (Go.Operand.tmp 126) (Go.Operand.tmp 128) (Go.Operand.const (Go.Value.bool false)), type := 4, pos := "ref.go:183", after := #[{ on := 5, ground := Go.Ground.data }, { on := 7, ground := Go.Ground.data }], guard := none }, { dst := some 130, op := Go.Op.fieldAddr 50 (Go.Operand.tmp 15) 0, type := 0, pos := "ref.go:183", after := #[], guard := none }, { dst := some 131, op := Go.Op.load 3 (Go.Operand.tmp 130), type := 3, pos := "ref.go:183", after := #[{ on := 9, ground := Go.Ground.data }], guard := none }, { dst := some 132, op := Go.Op.fieldAddr 70 (Go.Operand.tmp 16) 1, type := 0, pos := "ref.go:183", after := #[], guard := none }, { dst := some 133, op := Go.Op.load 46 (Go.Operand.tmp 132), type := 46, pos := "ref.go:183", after := #[{ on := 11, ground := Go.Ground.data }], guard := none }, { dst := some 134, op := Go.Op.fieldAddr 70 (Go.Operand.tmp 17) 1, type := 0, pos := "ref.go:183", after := #[], guard := none }, { dst := some 135, op := Go.Op.load 46 (Go.Operand.tmp 134), type := 46, pos := "ref.go:183", after := #[{ on := 13, ground := Go.Ground.data }], guard := none }, { dst := some 136, op := Go.Op.call { callee := Go.Callee.value (Go.Operand.func 49), args := #[Go.Operand.tmp 131, Go.Operand.tmp 133, Go.Operand.tmp 135], argTypes := #[3, 46, 46] }, type := 46, pos := "ref.go:183", after := #[{ on := 10, ground := Go.Ground.data }, { on := 12, ground := Go.Ground.data }, { on := 14, ground := Go.Ground.data }, { on := 5, ground := Go.Ground.chain }], guard := none }, { dst := some 137, op := Go.Op.fieldAddr 70 (Go.Operand.tmp 16) 2, type := 0, pos := "ref.go:183", after := #[], guard := none }, { dst := some 138, op := Go.Op.load 64 (Go.Operand.tmp 137), type := 64, pos := "ref.go:183", after := #[{ on := 16, ground := Go.Ground.data }], guard := none }, { dst := some 139, op := Go.Op.fieldAddr 70 (Go.Operand.tmp 17) 2, type := 0, pos := "ref.go:183", after := #[], guard := none }, { dst := some 140, op := Go.Op.load 64 (Go.Operand.tmp 139), type := 64, pos := "ref.go:183", after := #[{ on := 18, ground := Go.Ground.data }], guard := none }, { dst := some 141, op := Go.Op.call { callee := Go.Callee.value (Go.Operand.func 47), args := #[Go.Operand.tmp 138, Go.Operand.tmp 140], argTypes := #[64, 64] }, type := 64, pos := "ref.go:183", after := #[{ on := 17, ground := Go.Ground.data }, { on := 19, ground := Go.Ground.data }, { on := 15, ground := Go.Ground.chain }], guard := none }, { dst := some 142, op := Go.Op.build 70 #[(0, Go.Operand.tmp 129), (1, Go.Operand.tmp 136), (2, Go.Operand.tmp 141)], type := 70, pos := "ref.go:183", after := #[{ on := 8, ground := Go.Ground.data }, { on := 15, ground := Go.Ground.data }, { on := 20, ground := Go.Ground.data }], guard := none }, { dst := some 143, op := Go.Op.call { callee := Go.Callee.value (Go.Operand.func 48), args := #[Go.Operand.tmp 121, Go.Operand.tmp 123, Go.Operand.tmp 142], argTypes := #[105, 3, 70] }, type := 105, pos := "ref.go:183", after := #[{ on := 0, ground := Go.Ground.data }, { on := 2, ground := Go.Ground.data }, { on := 21, ground := Go.Ground.data }, { on := 20, ground := Go.Ground.chain }], guard := none }, { dst := none, op := Go.Op.store 105 (Go.Operand.tmp 6) (Go.Operand.tmp 143), type := 0, pos := "ref.go:183", after := #[{ on := 22, ground := Go.Ground.data }, { on := 22, ground := Go.Ground.chain }, { on := 0, ground := Go.Ground.phase }, { on := 1, ground := Go.Ground.phase }, { on := 2, ground := Go.Ground.phase }, { on := 3, ground := Go.Ground.phase }, { on := 4, ground := Go.Ground.phase }, { on := 5, ground := Go.Ground.phase }, { on := 6, ground := Go.Ground.phase }, { on := 7, ground := Go.Ground.phase }, { on := 8, ground := Go.Ground.phase }, { on := 9, ground := Go.Ground.phase }, { on := 10, ground := Go.Ground.phase }, { on := 11, ground := Go.Ground.phase }, { on := 12, ground := Go.Ground.phase }, { on := 13, ground := Go.Ground.phase }, { on := 14, ground := Go.Ground.phase }, { on := 15, ground := Go.Ground.phase }, { on := 16, ground := Go.Ground.phase }, { on := 17, ground := Go.Ground.phase }, { on := 18, ground := Go.Ground.phase }, { on := 19, ground := Go.Ground.phase }, { on := 20, ground := Go.Ground.phase }, { on := 21, ground := Go.Ground.phase }, { on := 22, ground := Go.Ground.phase }], guard := none }] true) Q ⟨#[sl0, sl1, sl2, sl3, sl4, sl5, .pointer (some ⟨w.heap.size, 0, none⟩), sl7, sl8, sl9, sl10, sl11, sl12, sl13, sl14, .pointer (some ⟨xb, 0, none⟩), .pointer (some ⟨b4, 0, none⟩), .pointer (some ⟨b5, 0, none⟩), sl18, sl19, sl20, sl21, sl22, sl23, sl24, sl25, sl26, sl27, sl28, sl29, sl30, sl31, sl32, sl33, sl34, sl35, sl36, sl37, sl38, sl39, sl40, sl41, sl42, sl43, sl44, sl45, sl46, sl47, sl48, sl49, sl50, sl51, sl52, sl53, sl54, sl55, sl56, sl57, sl58, sl59, sl60, sl61, sl62, sl63, sl64, sl65, sl66, sl67, sl68, sl69, sl70, sl71, sl72, sl73, sl74, sl75, sl76, sl77, sl78, sl79, sl80, sl81, sl82, sl83, sl84, sl85, sl86, sl87, sl88, sl89, sl90, sl91, sl92, sl93, sl94, sl95, sl96, sl97, sl98, sl99, sl100, sl101, sl102, sl103, sl104, sl105, sl106, sl107, sl108, sl109, sl110, sl111, sl112, sl113, sl114, sl115, sl116, sl117, sl118, sl119, sl120, sl121, sl122, sl123, sl124, sl125, sl126, sl127, sl128, sl129, sl130, sl131, sl132, sl133, sl134, sl135, sl136, sl137, sl138, sl139, sl140, sl141, sl142, sl143, sl144, sl145], []⟩ wc := by
  have x0 := cOf XI2.out 0
  have t0 := cOf TH2.out.b0 0; have t1 := cOf TH2.out.b0 1; have t2 := cOf TH2.out.b0 2; have t3 := cOf TH2.out.b0 3; have t4 := cOf TH2.out.b0 4; have t5 := cOf TH2.out.b0 5
  have tf0 := tOf TH2.out.b0 0; have tf1 := tOf TH2.out.b0 1; have tf2 := tOf TH2.out.b0 2; have tf3 := tOf TH2.out.b0 3; have tf4 := tOf TH2.out.b0 4; have tf5 := tOf TH2.out.b0 5
  have x1 := cOf XI2.out 1
  have y0 := cOf h4.out 0; have y1 := cOf h4.out 1; have y2 := cOf h4.out 2
  have z0 := cOf h5.out 0; have z1 := cOf h5.out 1; have z2 := cOf h5.out 2
  simp only [List.getElem?_toArray, List.getElem?_cons_zero, List.getElem?_cons_succ] at x0 x1 t0 t1 t2 t3 t4 t5 y0 y1 y2 z0 z1 z2
  rw [HRD.out] at x1
  have J1 : Bx (∀ W, Below wc.drew.heap.size wc.drew W → Calls Try.prog 47 #[.slice pa na ca, .slice pb nb cb] W fun e w' => ∃ p' n' c', e = .returned (.slice p' n' c') ∧ MaskIn w' (FarT w.heap.size G) (3 ^ j + 3 ^ j) (.slice p' n' c') (a.f ||| b.f) ∧ Below W.heap.size W w') := ⟨fun W hbw => join_any W (FarT w.heap.size G) (HGC.out _ hbw.size) (3 ^ j) (3 ^ j) (by have := H3.out; omega) _ _ a.f b.f ((MA.out.below (belN wc _ 1)).below hbw) ((MB.out.below (belN wc _ 1)).below hbw)⟩
  have RK : Bx (∀ W, Calls Try.prog 49 #[.int .i64 x.op, .int .u64 (a.v : Int), .int .u64 (b.v : Int)] W fun e w' => e = .returned (.int .u64 ((reckM x.op a.v b.v : Nat) : Int)) ∧ Below W.heap.size W w') := ⟨fun W => refReckR_any x.op hop28.1 hop28.2 a.v b.v hav hbv W⟩
  have CS : Bx (∀ W kk p n cc, Below wc.drew.heap.size wc.drew W → MaskIn W (FarT w.heap.size G) (3 ^ j + 3 ^ j) (.slice p n cc) (a.f ||| b.f) → Calls Try.prog 48 #[.agg #[.slice rq 8 rqc, .slice pq pn pc, .int .i64 (s.last : Int), .slice lq ln lqc, .slice fq fn fc, .bool s.known], .int .i64 (rd : Int), .agg #[.bool kk, .int .u64 ((reckM x.op a.v b.v : Nat) : Int), .slice p n cc]] W fun e w' => ∃ rp' rc', e = .returned (.agg #[.slice rp' 8 rc', .slice pq pn pc, .int .i64 (s.last : Int), .slice lq ln lqc, .slice fq fn fc, .bool s.known]) ∧ RegM w' (FarT w.heap.size G) (3 ^ (j + 1)) (.slice rp' 8 rc') (s.regs.set rd ⟨kk, if kk then reckM x.op a.v b.v else 0, a.f ||| b.f⟩) ∧ Below W.heap.size W w') := ⟨fun W kk p n cc hbw hm => setR_any W (FarT w.heap.size G) (HGC.out _ hbw.size) (3 ^ (j + 1)) rq rqc pq lq fq pn pc ln lqc fn fc (s.last : Int) s.known s.regs h8 ((TH2.out.drew.regs.below hbw).mono (by have := H3.out; omega)) rd hrd8 kk (reckM x.op a.v b.v) (a.f ||| b.f) p n cc (hm.mono (by have := H3.out; omega))⟩
  have XD : Bx (wc.drew.heap[xb]? = some (.cells #[.int .i64 x.op, .int .i64 x.rd, .int .i64 x.loc, .bool x.ar, .int .u64 x.an, .bool x.br, .int .u64 x.bn, .bool x.acq, .bool x.rel, .int .i64 x.dep, .int .i64 x.pred, .int .i64 x.succ, .int .i64 x.skip] 50 (0, 0))) := ⟨XI2.out⟩
  have YD : Bx (wc.drew.heap[b4]? = some (.cells #[.bool a.k, .int .u64 (a.v : Int), .slice pa na ca] 70 (0, 0))) := ⟨h4.out⟩
  have ZD : Bx (wc.drew.heap[b5]? = some (.cells #[.bool b.k, .int .u64 (b.v : Int), .slice pb nb cb] 70 (0, 0))) := ⟨h5.out⟩
  have TD := Bx.mk TH2.out.drew
  have t0d : wc.drew.cell? ⟨w.heap.size, 0, none⟩ = some (.slice rq 8 rqc) := t0
  have t1d : wc.drew.cell? ⟨w.heap.size, 1, none⟩ = some (.slice pq pn pc) := t1
  have t2d : wc.drew.cell? ⟨w.heap.size, 2, none⟩ = some (.int .i64 (s.last : Int)) := t2
  have t3d : wc.drew.cell? ⟨w.heap.size, 3, none⟩ = some (.slice lq ln lqc) := t3
  have t4d : wc.drew.cell? ⟨w.heap.size, 4, none⟩ = some (.slice fq fn fc) := t4
  have t5d : wc.drew.cell? ⟨w.heap.size, 5, none⟩ = some (.bool s.known) := t5
  clear XI2 h4 h5 TH2
  obtain ⟨ak, hak⟩ : ∃ ak, ak = a.k := ⟨_, rfl⟩
  obtain ⟨bk, hbk⟩ : ∃ bk, bk = b.k := ⟨_, rfl⟩
  rw [← hak] at y0 YD
  rw [← hbk] at z0 ZD
  have HK : Bx ((a.k && b.k) = (ak && bk)) := ⟨by rw [hak, hbk]⟩
  clear hak hbk
  cases ak
  ·
    clear y0 y1 y2 z0 z1 z2 x0 x1 t0 t1 t2 t3 t4 t5 tf0 tf1 tf2 tf3 tf4 tf5
    have x0d := cOf XD.out 0; have x1d := cOf XD.out 1; have y0d := cOf YD.out 0; have y1d := cOf YD.out 1; have y2d := cOf YD.out 2; have z0d := cOf ZD.out 0; have z1d := cOf ZD.out 1; have z2d := cOf ZD.out 2
    simp only [List.getElem?_toArray, List.getElem?_cons_zero, List.getElem?_cons_succ] at x0d x1d y0d y1d y2d z0d z1d z2d
    rw [HRD.out] at x1d
    refine wp_region_held_drew (S := fun W => W.heap[xb]? = wc.drew.heap[xb]? ∧ W.heap[b4]? = wc.drew.heap[b4]? ∧ W.heap[b5]? = wc.drew.heap[b5]?) (by kernel_rfl) ⟨rfl, rfl, rfl⟩ (fun hHeld => ?_)
    generalize wc.drew = wd at *
    refine wpAnyH_take (i := 1) (v := .pointer (some ⟨xb, 1, none⟩)) rfl (by kernel_rfl) (by kernel_rfl) (by kernel_rfl) (fun _ _ _ h => hP _ _ _ _ h) (Or.inl ⟨by rfl, fun w' hw' => by go_simp; try rfl⟩) hHeld ?_
    (try simp only [Act.put, List.getElem_toArray, List.getElem_cons_zero, List.getElem_cons_succ, List.setIfInBounds_toArray, List.set_cons_zero, List.set_cons_succ])
    refine wpAnyH_take (i := 2) (v := .int .i64 (rd : Int)) rfl (by kernel_rfl) (by kernel_rfl) (by kernel_rfl) (fun _ _ _ h => hP _ _ _ _ h) (Or.inl ⟨by rfl, fun w' hw' => by have s1 := keepC hw'.1 x1d; go_simp; try rfl⟩) hHeld ?_
    (try simp only [Act.put, List.getElem_toArray, List.getElem_cons_zero, List.getElem_cons_succ, List.setIfInBounds_toArray, List.set_cons_zero, List.set_cons_succ])
    refine wpAnyH_take (i := 3) (v := .pointer (some ⟨b4, 0, none⟩)) rfl (by kernel_rfl) (by kernel_rfl) (by kernel_rfl) (fun _ _ _ h => hP _ _ _ _ h) (Or.inl ⟨by rfl, fun w' hw' => by go_simp; try rfl⟩) hHeld ?_
    (try simp only [Act.put, List.getElem_toArray, List.getElem_cons_zero, List.getElem_cons_succ, List.setIfInBounds_toArray, List.set_cons_zero, List.set_cons_succ])
    refine wpAnyH_take (i := 4) (v := .bool false) rfl (by kernel_rfl) (by kernel_rfl) (by kernel_rfl) (fun _ _ _ h => hP _ _ _ _ h) (Or.inl ⟨by rfl, fun w' hw' => by have s1 := keepC hw'.2.1 y0d; go_simp; try rfl⟩) hHeld ?_
    (try simp only [Act.put, List.getElem_toArray, List.getElem_cons_zero, List.getElem_cons_succ, List.setIfInBounds_toArray, List.set_cons_zero, List.set_cons_succ])
    refine wpAnyH_take (i := 5) (v := .bool false) rfl (by kernel_rfl) (by kernel_rfl) (by kernel_rfl) (fun _ _ _ h => hP _ _ _ _ h) (Or.inl ⟨by rfl, fun w' hw' => by go_simp; try rfl⟩) hHeld ?_
    (try simp only [Act.put, List.getElem_toArray, List.getElem_cons_zero, List.getElem_cons_succ, List.setIfInBounds_toArray, List.set_cons_zero, List.set_cons_succ])
    refine wpAnyH_take (i := 6) (v := undef) rfl (by kernel_rfl) (by kernel_rfl) (by kernel_rfl) (fun _ _ _ h => hP _ _ _ _ h) (Or.inr ⟨by rfl, rfl⟩) hHeld ?_
    (try simp only [Act.put, List.getElem_toArray, List.getElem_cons_zero, List.getElem_cons_succ, List.setIfInBounds_toArray, List.set_cons_zero, List.set_cons_succ])
    refine wpAnyH_take (i := 7) (v := undef) rfl (by kernel_rfl) (by kernel_rfl) (by kernel_rfl) (fun _ _ _ h => hP _ _ _ _ h) (Or.inr ⟨by rfl, rfl⟩) hHeld ?_
    (try simp only [Act.put, List.getElem_toArray, List.getElem_cons_zero, List.getElem_cons_succ, List.setIfInBounds_toArray, List.set_cons_zero, List.set_cons_succ])
    refine wpAnyH_take (i := 8) (v := .bool false) rfl (by kernel_rfl) (by kernel_rfl) (by kernel_rfl) (fun _ _ _ h => hP _ _ _ _ h) (Or.inl ⟨by rfl, fun w' hw' => by go_simp; try rfl⟩) hHeld ?_
    (try simp only [Act.put, List.getElem_toArray, List.getElem_cons_zero, List.getElem_cons_succ, List.setIfInBounds_toArray, List.set_cons_zero, List.set_cons_succ])
    refine wpAnyH_take (i := 9) (v := .pointer (some ⟨xb, 0, none⟩)) rfl (by kernel_rfl) (by kernel_rfl) (by kernel_rfl) (fun _ _ _ h => hP _ _ _ _ h) (Or.inl ⟨by rfl, fun w' hw' => by go_simp; try rfl⟩) hHeld ?_
    (try simp only [Act.put, List.getElem_toArray, List.getElem_cons_zero, List.getElem_cons_succ, List.setIfInBounds_toArray, List.set_cons_zero, List.set_cons_succ])
    refine wpAnyH_take (i := 10) (v := .int .i64 x.op) rfl (by kernel_rfl) (by kernel_rfl) (by kernel_rfl) (fun _ _ _ h => hP _ _ _ _ h) (Or.inl ⟨by rfl, fun w' hw' => by have s1 := keepC hw'.1 x0d; go_simp; try rfl⟩) hHeld ?_
    (try simp only [Act.put, List.getElem_toArray, List.getElem_cons_zero, List.getElem_cons_succ, List.setIfInBounds_toArray, List.set_cons_zero, List.set_cons_succ])
    refine wpAnyH_take (i := 11) (v := .pointer (some ⟨b4, 1, none⟩)) rfl (by kernel_rfl) (by kernel_rfl) (by kernel_rfl) (fun _ _ _ h => hP _ _ _ _ h) (Or.inl ⟨by rfl, fun w' hw' => by go_simp; try rfl⟩) hHeld ?_
    (try simp only [Act.put, List.getElem_toArray, List.getElem_cons_zero, List.getElem_cons_succ, List.setIfInBounds_toArray, List.set_cons_zero, List.set_cons_succ])
    refine wpAnyH_take (i := 12) (v := .int .u64 (a.v : Int)) rfl (by kernel_rfl) (by kernel_rfl) (by kernel_rfl) (fun _ _ _ h => hP _ _ _ _ h) (Or.inl ⟨by rfl, fun w' hw' => by have s1 := keepC hw'.2.1 y1d; go_simp; try rfl⟩) hHeld ?_
    (try simp only [Act.put, List.getElem_toArray, List.getElem_cons_zero, List.getElem_cons_succ, List.setIfInBounds_toArray, List.set_cons_zero, List.set_cons_succ])
    refine wpAnyH_take (i := 13) (v := .pointer (some ⟨b5, 1, none⟩)) rfl (by kernel_rfl) (by kernel_rfl) (by kernel_rfl) (fun _ _ _ h => hP _ _ _ _ h) (Or.inl ⟨by rfl, fun w' hw' => by go_simp; try rfl⟩) hHeld ?_
    (try simp only [Act.put, List.getElem_toArray, List.getElem_cons_zero, List.getElem_cons_succ, List.setIfInBounds_toArray, List.set_cons_zero, List.set_cons_succ])
    refine wpAnyH_take (i := 14) (v := .int .u64 (b.v : Int)) rfl (by kernel_rfl) (by kernel_rfl) (by kernel_rfl) (fun _ _ _ h => hP _ _ _ _ h) (Or.inl ⟨by rfl, fun w' hw' => by have s1 := keepC hw'.2.2 z1d; go_simp; try rfl⟩) hHeld ?_
    (try simp only [Act.put, List.getElem_toArray, List.getElem_cons_zero, List.getElem_cons_succ, List.setIfInBounds_toArray, List.set_cons_zero, List.set_cons_succ])
    refine wpAnyH_take (i := 16) (v := .pointer (some ⟨b4, 2, none⟩)) rfl (by kernel_rfl) (by kernel_rfl) (by kernel_rfl) (fun _ _ _ h => hP _ _ _ _ h) (Or.inl ⟨by rfl, fun w' hw' => by go_simp; try rfl⟩) hHeld ?_
    (try simp only [Act.put, List.getElem_toArray, List.getElem_cons_zero, List.getElem_cons_succ, List.setIfInBounds_toArray, List.set_cons_zero, List.set_cons_succ])
    refine wpAnyH_take (i := 17) (v := .slice pa na ca) rfl (by kernel_rfl) (by kernel_rfl) (by kernel_rfl) (fun _ _ _ h => hP _ _ _ _ h) (Or.inl ⟨by rfl, fun w' hw' => by have s1 := keepC hw'.2.1 y2d; go_simp; try rfl⟩) hHeld ?_
    (try simp only [Act.put, List.getElem_toArray, List.getElem_cons_zero, List.getElem_cons_succ, List.setIfInBounds_toArray, List.set_cons_zero, List.set_cons_succ])
    refine wpAnyH_take (i := 18) (v := .pointer (some ⟨b5, 2, none⟩)) rfl (by kernel_rfl) (by kernel_rfl) (by kernel_rfl) (fun _ _ _ h => hP _ _ _ _ h) (Or.inl ⟨by rfl, fun w' hw' => by go_simp; try rfl⟩) hHeld ?_
    (try simp only [Act.put, List.getElem_toArray, List.getElem_cons_zero, List.getElem_cons_succ, List.setIfInBounds_toArray, List.set_cons_zero, List.set_cons_succ])
    refine wpAnyH_take (i := 19) (v := .slice pb nb cb) rfl (by kernel_rfl) (by kernel_rfl) (by kernel_rfl) (fun _ _ _ h => hP _ _ _ _ h) (Or.inl ⟨by rfl, fun w' hw' => by have s1 := keepC hw'.2.2 z2d; go_simp; try rfl⟩) hHeld ?_
    (try simp only [Act.put, List.getElem_toArray, List.getElem_cons_zero, List.getElem_cons_succ, List.setIfInBounds_toArray, List.set_cons_zero, List.set_cons_succ])
    refine wpAnyH_ready (rs := [0, 15]) (by kernel_rfl) (by simp) ?_
    refine AllReadyH.cons rfl (fun K hK => ?_) (AllReadyH.cons rfl (fun K hK => ?_) AllReadyH.nil)
    · have t0 := t0d; have t1 := t1d; have t2 := t2d; have t3 := t3d; have t4 := t4d; have t5 := t5d
      go_simp
      refine hK.out _ _ hHeld (fun hHeld => ?_)
      clear hK K
      (try simp only [Act.put, List.getElem_toArray, List.getElem_cons_zero, List.getElem_cons_succ, List.setIfInBounds_toArray, List.set_cons_zero, List.set_cons_succ])
      refine wpAnyH_ready (rs := [15]) (by kernel_rfl) (by simp) ?_
      refine AllReadyH.cons rfl (fun K hK => ?_) AllReadyH.nil
      go_simp
      go_at_call 49; ((with_reducible refine (RK.out _).mono ?_); rintro e w5 ⟨rfl, b5'⟩)
      have B5 := Bx.mk b5'
      refine hK.out _ _ ⟨B5.out.block xb (ltOf XD.out), B5.out.block b4 (ltOf YD.out), B5.out.block b5 (ltOf ZD.out)⟩ (fun hHeld => ?_)
      clear hK K b5'
      (try simp only [Act.put, List.getElem_toArray, List.getElem_cons_zero, List.getElem_cons_succ, List.setIfInBounds_toArray, List.set_cons_zero, List.set_cons_succ])
      refine wpAnyH_ready (rs := [20]) (by kernel_rfl) (by simp) ?_
      refine AllReadyH.cons rfl (fun K hK => ?_) AllReadyH.nil
      go_simp
      go_at_call 47; ((with_reducible refine (J1.out _ B5.out).mono ?_); rintro e w6 ⟨p6, n6, c6, rfl, m6, b6⟩)
      have M6 := Bx.mk m6; have B6 := Bx.mk (bel B5.out b6)
      refine hK.out _ _ ⟨B6.out.block xb (ltOf XD.out), B6.out.block b4 (ltOf YD.out), B6.out.block b5 (ltOf ZD.out)⟩ (fun hHeld => ?_)
      clear hK K b6 m6
      (try simp only [Act.put, List.getElem_toArray, List.getElem_cons_zero, List.getElem_cons_succ, List.setIfInBounds_toArray, List.set_cons_zero, List.set_cons_succ])
      refine wpAnyH_take (i := 21) (v := _) rfl (by kernel_rfl) (by kernel_rfl) (by kernel_rfl) (fun _ _ _ h => hP _ _ _ _ h) (Or.inl ⟨by rfl, fun w' hw' => by go_simp; rfl⟩) hHeld ?_
      (try simp only [Act.put, List.getElem_toArray, List.getElem_cons_zero, List.getElem_cons_succ, List.setIfInBounds_toArray, List.set_cons_zero, List.set_cons_succ])
      refine wpAnyH_ready (rs := [22]) (by kernel_rfl) (by simp) ?_
      refine AllReadyH.cons rfl (fun K hK => ?_) AllReadyH.nil
      go_simp
      go_at_call 48; ((with_reducible refine (CS.out _ _ _ _ _ B6.out M6.out).mono ?_); rintro e w7 ⟨rp2, rc2, rfl, hr7, b7⟩)
      have B7 := Bx.mk (bel B6.out b7)
      have T7 := Bx.mk (TD.out.below B7.out)
      have HR7 := Bx.mk hr7
      refine hK.out _ _ ⟨B7.out.block xb (ltOf XD.out), B7.out.block b4 (ltOf YD.out), B7.out.block b5 (ltOf ZD.out)⟩ (fun hHeld => ?_)
      clear hK K b7 hr7
      (try simp only [Act.put, List.getElem_toArray, List.getElem_cons_zero, List.getElem_cons_succ, List.setIfInBounds_toArray, List.set_cons_zero, List.set_cons_succ])
      refine wpAnyH_ready (rs := [23]) (by kernel_rfl) (by simp) ?_
      refine AllReadyH.cons rfl (fun K hK => ?_) AllReadyH.nil
      have e0 := cOf T7.out.b0 0; have e1 := cOf T7.out.b0 1; have e2 := cOf T7.out.b0 2; have e3 := cOf T7.out.b0 3; have e4 := cOf T7.out.b0 4; have e5 := cOf T7.out.b0 5
      have ef0 := tOf T7.out.b0 0; have ef1 := tOf T7.out.b0 1; have ef2 := tOf T7.out.b0 2; have ef3 := tOf T7.out.b0 3; have ef4 := tOf T7.out.b0 4; have ef5 := tOf T7.out.b0 5
      simp only [List.getElem?_toArray, List.getElem?_cons_zero, List.getElem?_cons_succ] at e0 e1 e2 e3 e4 e5
      go_simp
      refine hK.out _ _ ⟨(hset6 hxw').trans hHeld.1, (hset6 h4w).trans hHeld.2.1, (hset6 h5w).trans hHeld.2.2⟩ (fun hHeld2 => ?_)
      clear hK K
      refine wpAnyH_done (by kernel_rfl) ?_ _
      exact hQ _ _ _ _ _ _ _ _ _ _ _ _ _ _ _ _ _ _ _ _ _ _ _ _ _ _ T7.out (by rw [HK.out]; exact HR7.out)
    · go_simp
      go_at_call 49; ((with_reducible refine (RK.out _).mono ?_); rintro e w5 ⟨rfl, b5'⟩)
      have B5 := Bx.mk b5'
      refine hK.out _ _ ⟨B5.out.block xb (ltOf XD.out), B5.out.block b4 (ltOf YD.out), B5.out.block b5 (ltOf ZD.out)⟩ (fun hHeld => ?_)
      clear hK K b5'
      (try simp only [Act.put, List.getElem_toArray, List.getElem_cons_zero, List.getElem_cons_succ, List.setIfInBounds_toArray, List.set_cons_zero, List.set_cons_succ])
      refine wpAnyH_ready (rs := [0, 20]) (by kernel_rfl) (by simp) ?_
      refine AllReadyH.cons rfl (fun K hK => ?_) (AllReadyH.cons rfl (fun K hK => ?_) AllReadyH.nil)
      · have t0 := cBel t0d B5.out; have t1 := cBel t1d B5.out; have t2 := cBel t2d B5.out; have t3 := cBel t3d B5.out; have t4 := cBel t4d B5.out; have t5 := cBel t5d B5.out
        go_simp
        refine hK.out _ _ hHeld (fun hHeld => ?_)
        clear hK K
        (try simp only [Act.put, List.getElem_toArray, List.getElem_cons_zero, List.getElem_cons_succ, List.setIfInBounds_toArray, List.set_cons_zero, List.set_cons_succ])
        refine wpAnyH_ready (rs := [20]) (by kernel_rfl) (by simp) ?_
        refine AllReadyH.cons rfl (fun K hK => ?_) AllReadyH.nil
        go_simp
        go_at_call 47; ((with_reducible refine (J1.out _ B5.out).mono ?_); rintro e w6 ⟨p6, n6, c6, rfl, m6, b6⟩)
        have M6 := Bx.mk m6; have B6 := Bx.mk (bel B5.out b6)
        refine hK.out _ _ ⟨B6.out.block xb (ltOf XD.out), B6.out.block b4 (ltOf YD.out), B6.out.block b5 (ltOf ZD.out)⟩ (fun hHeld => ?_)
        clear hK K b6 m6
        (try simp only [Act.put, List.getElem_toArray, List.getElem_cons_zero, List.getElem_cons_succ, List.setIfInBounds_toArray, List.set_cons_zero, List.set_cons_succ])
        refine wpAnyH_take (i := 21) (v := _) rfl (by kernel_rfl) (by kernel_rfl) (by kernel_rfl) (fun _ _ _ h => hP _ _ _ _ h) (Or.inl ⟨by rfl, fun w' hw' => by go_simp; rfl⟩) hHeld ?_
        (try simp only [Act.put, List.getElem_toArray, List.getElem_cons_zero, List.getElem_cons_succ, List.setIfInBounds_toArray, List.set_cons_zero, List.set_cons_succ])
        refine wpAnyH_ready (rs := [22]) (by kernel_rfl) (by simp) ?_
        refine AllReadyH.cons rfl (fun K hK => ?_) AllReadyH.nil
        go_simp
        go_at_call 48; ((with_reducible refine (CS.out _ _ _ _ _ B6.out M6.out).mono ?_); rintro e w7 ⟨rp2, rc2, rfl, hr7, b7⟩)
        have B7 := Bx.mk (bel B6.out b7)
        have T7 := Bx.mk (TD.out.below B7.out)
        have HR7 := Bx.mk hr7
        refine hK.out _ _ ⟨B7.out.block xb (ltOf XD.out), B7.out.block b4 (ltOf YD.out), B7.out.block b5 (ltOf ZD.out)⟩ (fun hHeld => ?_)
        clear hK K b7 hr7
        (try simp only [Act.put, List.getElem_toArray, List.getElem_cons_zero, List.getElem_cons_succ, List.setIfInBounds_toArray, List.set_cons_zero, List.set_cons_succ])
        refine wpAnyH_ready (rs := [23]) (by kernel_rfl) (by simp) ?_
        refine AllReadyH.cons rfl (fun K hK => ?_) AllReadyH.nil
        have e0 := cOf T7.out.b0 0; have e1 := cOf T7.out.b0 1; have e2 := cOf T7.out.b0 2; have e3 := cOf T7.out.b0 3; have e4 := cOf T7.out.b0 4; have e5 := cOf T7.out.b0 5
        have ef0 := tOf T7.out.b0 0; have ef1 := tOf T7.out.b0 1; have ef2 := tOf T7.out.b0 2; have ef3 := tOf T7.out.b0 3; have ef4 := tOf T7.out.b0 4; have ef5 := tOf T7.out.b0 5
        simp only [List.getElem?_toArray, List.getElem?_cons_zero, List.getElem?_cons_succ] at e0 e1 e2 e3 e4 e5
        go_simp
        refine hK.out _ _ ⟨(hset6 hxw').trans hHeld.1, (hset6 h4w).trans hHeld.2.1, (hset6 h5w).trans hHeld.2.2⟩ (fun hHeld2 => ?_)
        clear hK K
        refine wpAnyH_done (by kernel_rfl) ?_ _
        exact hQ _ _ _ _ _ _ _ _ _ _ _ _ _ _ _ _ _ _ _ _ _ _ _ _ _ _ T7.out (by rw [HK.out]; exact HR7.out)
      · go_simp
        go_at_call 47; ((with_reducible refine (J1.out _ B5.out).mono ?_); rintro e w6 ⟨p6, n6, c6, rfl, m6, b6⟩)
        have M6 := Bx.mk m6; have B6 := Bx.mk (bel B5.out b6)
        refine hK.out _ _ ⟨B6.out.block xb (ltOf XD.out), B6.out.block b4 (ltOf YD.out), B6.out.block b5 (ltOf ZD.out)⟩ (fun hHeld => ?_)
        clear hK K b6 m6
        (try simp only [Act.put, List.getElem_toArray, List.getElem_cons_zero, List.getElem_cons_succ, List.setIfInBounds_toArray, List.set_cons_zero, List.set_cons_succ])
        refine wpAnyH_take (i := 21) (v := _) rfl (by kernel_rfl) (by kernel_rfl) (by kernel_rfl) (fun _ _ _ h => hP _ _ _ _ h) (Or.inl ⟨by rfl, fun w' hw' => by go_simp; rfl⟩) hHeld ?_
        (try simp only [Act.put, List.getElem_toArray, List.getElem_cons_zero, List.getElem_cons_succ, List.setIfInBounds_toArray, List.set_cons_zero, List.set_cons_succ])
        refine wpAnyH_ready (rs := [0]) (by kernel_rfl) (by simp) ?_
        refine AllReadyH.cons rfl (fun K hK => ?_) AllReadyH.nil
        have t0 := cBel t0d B6.out; have t1 := cBel t1d B6.out; have t2 := cBel t2d B6.out; have t3 := cBel t3d B6.out; have t4 := cBel t4d B6.out; have t5 := cBel t5d B6.out
        go_simp
        refine hK.out _ _ hHeld (fun hHeld => ?_)
        clear hK K
        (try simp only [Act.put, List.getElem_toArray, List.getElem_cons_zero, List.getElem_cons_succ, List.setIfInBounds_toArray, List.set_cons_zero, List.set_cons_succ])
        refine wpAnyH_ready (rs := [22]) (by kernel_rfl) (by simp) ?_
        refine AllReadyH.cons rfl (fun K hK => ?_) AllReadyH.nil
        go_simp
        go_at_call 48; ((with_reducible refine (CS.out _ _ _ _ _ B6.out M6.out).mono ?_); rintro e w7 ⟨rp2, rc2, rfl, hr7, b7⟩)
        have B7 := Bx.mk (bel B6.out b7)
        have T7 := Bx.mk (TD.out.below B7.out)
        have HR7 := Bx.mk hr7
        refine hK.out _ _ ⟨B7.out.block xb (ltOf XD.out), B7.out.block b4 (ltOf YD.out), B7.out.block b5 (ltOf ZD.out)⟩ (fun hHeld => ?_)
        clear hK K b7 hr7
        (try simp only [Act.put, List.getElem_toArray, List.getElem_cons_zero, List.getElem_cons_succ, List.setIfInBounds_toArray, List.set_cons_zero, List.set_cons_succ])
        refine wpAnyH_ready (rs := [23]) (by kernel_rfl) (by simp) ?_
        refine AllReadyH.cons rfl (fun K hK => ?_) AllReadyH.nil
        have e0 := cOf T7.out.b0 0; have e1 := cOf T7.out.b0 1; have e2 := cOf T7.out.b0 2; have e3 := cOf T7.out.b0 3; have e4 := cOf T7.out.b0 4; have e5 := cOf T7.out.b0 5
        have ef0 := tOf T7.out.b0 0; have ef1 := tOf T7.out.b0 1; have ef2 := tOf T7.out.b0 2; have ef3 := tOf T7.out.b0 3; have ef4 := tOf T7.out.b0 4; have ef5 := tOf T7.out.b0 5
        simp only [List.getElem?_toArray, List.getElem?_cons_zero, List.getElem?_cons_succ] at e0 e1 e2 e3 e4 e5
        go_simp
        refine hK.out _ _ ⟨(hset6 hxw').trans hHeld.1, (hset6 h4w).trans hHeld.2.1, (hset6 h5w).trans hHeld.2.2⟩ (fun hHeld2 => ?_)
        clear hK K
        refine wpAnyH_done (by kernel_rfl) ?_ _
        exact hQ _ _ _ _ _ _ _ _ _ _ _ _ _ _ _ _ _ _ _ _ _ _ _ _ _ _ T7.out (by rw [HK.out]; exact HR7.out)
  ·
    clear y0 y1 y2 z0 z1 z2 x0 x1 t0 t1 t2 t3 t4 t5 tf0 tf1 tf2 tf3 tf4 tf5
    have x0d := cOf XD.out 0; have x1d := cOf XD.out 1; have y0d := cOf YD.out 0; have y1d := cOf YD.out 1; have y2d := cOf YD.out 2; have z0d := cOf ZD.out 0; have z1d := cOf ZD.out 1; have z2d := cOf ZD.out 2
    simp only [List.getElem?_toArray, List.getElem?_cons_zero, List.getElem?_cons_succ] at x0d x1d y0d y1d y2d z0d z1d z2d
    rw [HRD.out] at x1d
    refine wp_region_held_drew (S := fun W => W.heap[xb]? = wc.drew.heap[xb]? ∧ W.heap[b4]? = wc.drew.heap[b4]? ∧ W.heap[b5]? = wc.drew.heap[b5]?) (by kernel_rfl) ⟨rfl, rfl, rfl⟩ (fun hHeld => ?_)
    generalize wc.drew = wd at *
    refine wpAnyH_take (i := 1) (v := .pointer (some ⟨xb, 1, none⟩)) rfl (by kernel_rfl) (by kernel_rfl) (by kernel_rfl) (fun _ _ _ h => hP _ _ _ _ h) (Or.inl ⟨by rfl, fun w' hw' => by go_simp; try rfl⟩) hHeld ?_
    (try simp only [Act.put, List.getElem_toArray, List.getElem_cons_zero, List.getElem_cons_succ, List.setIfInBounds_toArray, List.set_cons_zero, List.set_cons_succ])
    refine wpAnyH_take (i := 2) (v := .int .i64 (rd : Int)) rfl (by kernel_rfl) (by kernel_rfl) (by kernel_rfl) (fun _ _ _ h => hP _ _ _ _ h) (Or.inl ⟨by rfl, fun w' hw' => by have s1 := keepC hw'.1 x1d; go_simp; try rfl⟩) hHeld ?_
    (try simp only [Act.put, List.getElem_toArray, List.getElem_cons_zero, List.getElem_cons_succ, List.setIfInBounds_toArray, List.set_cons_zero, List.set_cons_succ])
    refine wpAnyH_take (i := 3) (v := .pointer (some ⟨b4, 0, none⟩)) rfl (by kernel_rfl) (by kernel_rfl) (by kernel_rfl) (fun _ _ _ h => hP _ _ _ _ h) (Or.inl ⟨by rfl, fun w' hw' => by go_simp; try rfl⟩) hHeld ?_
    (try simp only [Act.put, List.getElem_toArray, List.getElem_cons_zero, List.getElem_cons_succ, List.setIfInBounds_toArray, List.set_cons_zero, List.set_cons_succ])
    refine wpAnyH_take (i := 4) (v := .bool true) rfl (by kernel_rfl) (by kernel_rfl) (by kernel_rfl) (fun _ _ _ h => hP _ _ _ _ h) (Or.inl ⟨by rfl, fun w' hw' => by have s1 := keepC hw'.2.1 y0d; go_simp; try rfl⟩) hHeld ?_
    (try simp only [Act.put, List.getElem_toArray, List.getElem_cons_zero, List.getElem_cons_succ, List.setIfInBounds_toArray, List.set_cons_zero, List.set_cons_succ])
    refine wpAnyH_take (i := 5) (v := .bool true) rfl (by kernel_rfl) (by kernel_rfl) (by kernel_rfl) (fun _ _ _ h => hP _ _ _ _ h) (Or.inl ⟨by rfl, fun w' hw' => by go_simp; try rfl⟩) hHeld ?_
    (try simp only [Act.put, List.getElem_toArray, List.getElem_cons_zero, List.getElem_cons_succ, List.setIfInBounds_toArray, List.set_cons_zero, List.set_cons_succ])
    refine wpAnyH_take (i := 6) (v := .pointer (some ⟨b5, 0, none⟩)) rfl (by kernel_rfl) (by kernel_rfl) (by kernel_rfl) (fun _ _ _ h => hP _ _ _ _ h) (Or.inl ⟨by rfl, fun w' hw' => by go_simp; try rfl⟩) hHeld ?_
    (try simp only [Act.put, List.getElem_toArray, List.getElem_cons_zero, List.getElem_cons_succ, List.setIfInBounds_toArray, List.set_cons_zero, List.set_cons_succ])
    refine wpAnyH_take (i := 7) (v := .bool bk) rfl (by kernel_rfl) (by kernel_rfl) (by kernel_rfl) (fun _ _ _ h => hP _ _ _ _ h) (Or.inl ⟨by rfl, fun w' hw' => by have s1 := keepC hw'.2.2 z0d; go_simp; try rfl⟩) hHeld ?_
    (try simp only [Act.put, List.getElem_toArray, List.getElem_cons_zero, List.getElem_cons_succ, List.setIfInBounds_toArray, List.set_cons_zero, List.set_cons_succ])
    refine wpAnyH_take (i := 8) (v := .bool bk) rfl (by kernel_rfl) (by kernel_rfl) (by kernel_rfl) (fun _ _ _ h => hP _ _ _ _ h) (Or.inl ⟨by rfl, fun w' hw' => by go_simp; try rfl⟩) hHeld ?_
    (try simp only [Act.put, List.getElem_toArray, List.getElem_cons_zero, List.getElem_cons_succ, List.setIfInBounds_toArray, List.set_cons_zero, List.set_cons_succ])
    refine wpAnyH_take (i := 9) (v := .pointer (some ⟨xb, 0, none⟩)) rfl (by kernel_rfl) (by kernel_rfl) (by kernel_rfl) (fun _ _ _ h => hP _ _ _ _ h) (Or.inl ⟨by rfl, fun w' hw' => by go_simp; try rfl⟩) hHeld ?_
    (try simp only [Act.put, List.getElem_toArray, List.getElem_cons_zero, List.getElem_cons_succ, List.setIfInBounds_toArray, List.set_cons_zero, List.set_cons_succ])
    refine wpAnyH_take (i := 10) (v := .int .i64 x.op) rfl (by kernel_rfl) (by kernel_rfl) (by kernel_rfl) (fun _ _ _ h => hP _ _ _ _ h) (Or.inl ⟨by rfl, fun w' hw' => by have s1 := keepC hw'.1 x0d; go_simp; try rfl⟩) hHeld ?_
    (try simp only [Act.put, List.getElem_toArray, List.getElem_cons_zero, List.getElem_cons_succ, List.setIfInBounds_toArray, List.set_cons_zero, List.set_cons_succ])
    refine wpAnyH_take (i := 11) (v := .pointer (some ⟨b4, 1, none⟩)) rfl (by kernel_rfl) (by kernel_rfl) (by kernel_rfl) (fun _ _ _ h => hP _ _ _ _ h) (Or.inl ⟨by rfl, fun w' hw' => by go_simp; try rfl⟩) hHeld ?_
    (try simp only [Act.put, List.getElem_toArray, List.getElem_cons_zero, List.getElem_cons_succ, List.setIfInBounds_toArray, List.set_cons_zero, List.set_cons_succ])
    refine wpAnyH_take (i := 12) (v := .int .u64 (a.v : Int)) rfl (by kernel_rfl) (by kernel_rfl) (by kernel_rfl) (fun _ _ _ h => hP _ _ _ _ h) (Or.inl ⟨by rfl, fun w' hw' => by have s1 := keepC hw'.2.1 y1d; go_simp; try rfl⟩) hHeld ?_
    (try simp only [Act.put, List.getElem_toArray, List.getElem_cons_zero, List.getElem_cons_succ, List.setIfInBounds_toArray, List.set_cons_zero, List.set_cons_succ])
    refine wpAnyH_take (i := 13) (v := .pointer (some ⟨b5, 1, none⟩)) rfl (by kernel_rfl) (by kernel_rfl) (by kernel_rfl) (fun _ _ _ h => hP _ _ _ _ h) (Or.inl ⟨by rfl, fun w' hw' => by go_simp; try rfl⟩) hHeld ?_
    (try simp only [Act.put, List.getElem_toArray, List.getElem_cons_zero, List.getElem_cons_succ, List.setIfInBounds_toArray, List.set_cons_zero, List.set_cons_succ])
    refine wpAnyH_take (i := 14) (v := .int .u64 (b.v : Int)) rfl (by kernel_rfl) (by kernel_rfl) (by kernel_rfl) (fun _ _ _ h => hP _ _ _ _ h) (Or.inl ⟨by rfl, fun w' hw' => by have s1 := keepC hw'.2.2 z1d; go_simp; try rfl⟩) hHeld ?_
    (try simp only [Act.put, List.getElem_toArray, List.getElem_cons_zero, List.getElem_cons_succ, List.setIfInBounds_toArray, List.set_cons_zero, List.set_cons_succ])
    refine wpAnyH_take (i := 16) (v := .pointer (some ⟨b4, 2, none⟩)) rfl (by kernel_rfl) (by kernel_rfl) (by kernel_rfl) (fun _ _ _ h => hP _ _ _ _ h) (Or.inl ⟨by rfl, fun w' hw' => by go_simp; try rfl⟩) hHeld ?_
    (try simp only [Act.put, List.getElem_toArray, List.getElem_cons_zero, List.getElem_cons_succ, List.setIfInBounds_toArray, List.set_cons_zero, List.set_cons_succ])
    refine wpAnyH_take (i := 17) (v := .slice pa na ca) rfl (by kernel_rfl) (by kernel_rfl) (by kernel_rfl) (fun _ _ _ h => hP _ _ _ _ h) (Or.inl ⟨by rfl, fun w' hw' => by have s1 := keepC hw'.2.1 y2d; go_simp; try rfl⟩) hHeld ?_
    (try simp only [Act.put, List.getElem_toArray, List.getElem_cons_zero, List.getElem_cons_succ, List.setIfInBounds_toArray, List.set_cons_zero, List.set_cons_succ])
    refine wpAnyH_take (i := 18) (v := .pointer (some ⟨b5, 2, none⟩)) rfl (by kernel_rfl) (by kernel_rfl) (by kernel_rfl) (fun _ _ _ h => hP _ _ _ _ h) (Or.inl ⟨by rfl, fun w' hw' => by go_simp; try rfl⟩) hHeld ?_
    (try simp only [Act.put, List.getElem_toArray, List.getElem_cons_zero, List.getElem_cons_succ, List.setIfInBounds_toArray, List.set_cons_zero, List.set_cons_succ])
    refine wpAnyH_take (i := 19) (v := .slice pb nb cb) rfl (by kernel_rfl) (by kernel_rfl) (by kernel_rfl) (fun _ _ _ h => hP _ _ _ _ h) (Or.inl ⟨by rfl, fun w' hw' => by have s1 := keepC hw'.2.2 z2d; go_simp; try rfl⟩) hHeld ?_
    (try simp only [Act.put, List.getElem_toArray, List.getElem_cons_zero, List.getElem_cons_succ, List.setIfInBounds_toArray, List.set_cons_zero, List.set_cons_succ])
    refine wpAnyH_ready (rs := [0, 15]) (by kernel_rfl) (by simp) ?_
    refine AllReadyH.cons rfl (fun K hK => ?_) (AllReadyH.cons rfl (fun K hK => ?_) AllReadyH.nil)
    · have t0 := t0d; have t1 := t1d; have t2 := t2d; have t3 := t3d; have t4 := t4d; have t5 := t5d
      go_simp
      refine hK.out _ _ hHeld (fun hHeld => ?_)
      clear hK K
      (try simp only [Act.put, List.getElem_toArray, List.getElem_cons_zero, List.getElem_cons_succ, List.setIfInBounds_toArray, List.set_cons_zero, List.set_cons_succ])
      refine wpAnyH_ready (rs := [15]) (by kernel_rfl) (by simp) ?_
      refine AllReadyH.cons rfl (fun K hK => ?_) AllReadyH.nil
      go_simp
      go_at_call 49; ((with_reducible refine (RK.out _).mono ?_); rintro e w5 ⟨rfl, b5'⟩)
      have B5 := Bx.mk b5'
      refine hK.out _ _ ⟨B5.out.block xb (ltOf XD.out), B5.out.block b4 (ltOf YD.out), B5.out.block b5 (ltOf ZD.out)⟩ (fun hHeld => ?_)
      clear hK K b5'
      (try simp only [Act.put, List.getElem_toArray, List.getElem_cons_zero, List.getElem_cons_succ, List.setIfInBounds_toArray, List.set_cons_zero, List.set_cons_succ])
      refine wpAnyH_ready (rs := [20]) (by kernel_rfl) (by simp) ?_
      refine AllReadyH.cons rfl (fun K hK => ?_) AllReadyH.nil
      go_simp
      go_at_call 47; ((with_reducible refine (J1.out _ B5.out).mono ?_); rintro e w6 ⟨p6, n6, c6, rfl, m6, b6⟩)
      have M6 := Bx.mk m6; have B6 := Bx.mk (bel B5.out b6)
      refine hK.out _ _ ⟨B6.out.block xb (ltOf XD.out), B6.out.block b4 (ltOf YD.out), B6.out.block b5 (ltOf ZD.out)⟩ (fun hHeld => ?_)
      clear hK K b6 m6
      (try simp only [Act.put, List.getElem_toArray, List.getElem_cons_zero, List.getElem_cons_succ, List.setIfInBounds_toArray, List.set_cons_zero, List.set_cons_succ])
      refine wpAnyH_take (i := 21) (v := _) rfl (by kernel_rfl) (by kernel_rfl) (by kernel_rfl) (fun _ _ _ h => hP _ _ _ _ h) (Or.inl ⟨by rfl, fun w' hw' => by go_simp; rfl⟩) hHeld ?_
      (try simp only [Act.put, List.getElem_toArray, List.getElem_cons_zero, List.getElem_cons_succ, List.setIfInBounds_toArray, List.set_cons_zero, List.set_cons_succ])
      refine wpAnyH_ready (rs := [22]) (by kernel_rfl) (by simp) ?_
      refine AllReadyH.cons rfl (fun K hK => ?_) AllReadyH.nil
      go_simp
      go_at_call 48; ((with_reducible refine (CS.out _ _ _ _ _ B6.out M6.out).mono ?_); rintro e w7 ⟨rp2, rc2, rfl, hr7, b7⟩)
      have B7 := Bx.mk (bel B6.out b7)
      have T7 := Bx.mk (TD.out.below B7.out)
      have HR7 := Bx.mk hr7
      refine hK.out _ _ ⟨B7.out.block xb (ltOf XD.out), B7.out.block b4 (ltOf YD.out), B7.out.block b5 (ltOf ZD.out)⟩ (fun hHeld => ?_)
      clear hK K b7 hr7
      (try simp only [Act.put, List.getElem_toArray, List.getElem_cons_zero, List.getElem_cons_succ, List.setIfInBounds_toArray, List.set_cons_zero, List.set_cons_succ])
      refine wpAnyH_ready (rs := [23]) (by kernel_rfl) (by simp) ?_
      refine AllReadyH.cons rfl (fun K hK => ?_) AllReadyH.nil
      have e0 := cOf T7.out.b0 0; have e1 := cOf T7.out.b0 1; have e2 := cOf T7.out.b0 2; have e3 := cOf T7.out.b0 3; have e4 := cOf T7.out.b0 4; have e5 := cOf T7.out.b0 5
      have ef0 := tOf T7.out.b0 0; have ef1 := tOf T7.out.b0 1; have ef2 := tOf T7.out.b0 2; have ef3 := tOf T7.out.b0 3; have ef4 := tOf T7.out.b0 4; have ef5 := tOf T7.out.b0 5
      simp only [List.getElem?_toArray, List.getElem?_cons_zero, List.getElem?_cons_succ] at e0 e1 e2 e3 e4 e5
      go_simp
      refine hK.out _ _ ⟨(hset6 hxw').trans hHeld.1, (hset6 h4w).trans hHeld.2.1, (hset6 h5w).trans hHeld.2.2⟩ (fun hHeld2 => ?_)
      clear hK K
      refine wpAnyH_done (by kernel_rfl) ?_ _
      exact hQ _ _ _ _ _ _ _ _ _ _ _ _ _ _ _ _ _ _ _ _ _ _ _ _ _ _ T7.out (by rw [HK.out]; exact HR7.out)
    · go_simp
      go_at_call 49; ((with_reducible refine (RK.out _).mono ?_); rintro e w5 ⟨rfl, b5'⟩)
      have B5 := Bx.mk b5'
      refine hK.out _ _ ⟨B5.out.block xb (ltOf XD.out), B5.out.block b4 (ltOf YD.out), B5.out.block b5 (ltOf ZD.out)⟩ (fun hHeld => ?_)
      clear hK K b5'
      (try simp only [Act.put, List.getElem_toArray, List.getElem_cons_zero, List.getElem_cons_succ, List.setIfInBounds_toArray, List.set_cons_zero, List.set_cons_succ])
      refine wpAnyH_ready (rs := [0, 20]) (by kernel_rfl) (by simp) ?_
      refine AllReadyH.cons rfl (fun K hK => ?_) (AllReadyH.cons rfl (fun K hK => ?_) AllReadyH.nil)
      · have t0 := cBel t0d B5.out; have t1 := cBel t1d B5.out; have t2 := cBel t2d B5.out; have t3 := cBel t3d B5.out; have t4 := cBel t4d B5.out; have t5 := cBel t5d B5.out
        go_simp
        refine hK.out _ _ hHeld (fun hHeld => ?_)
        clear hK K
        (try simp only [Act.put, List.getElem_toArray, List.getElem_cons_zero, List.getElem_cons_succ, List.setIfInBounds_toArray, List.set_cons_zero, List.set_cons_succ])
        refine wpAnyH_ready (rs := [20]) (by kernel_rfl) (by simp) ?_
        refine AllReadyH.cons rfl (fun K hK => ?_) AllReadyH.nil
        go_simp
        go_at_call 47; ((with_reducible refine (J1.out _ B5.out).mono ?_); rintro e w6 ⟨p6, n6, c6, rfl, m6, b6⟩)
        have M6 := Bx.mk m6; have B6 := Bx.mk (bel B5.out b6)
        refine hK.out _ _ ⟨B6.out.block xb (ltOf XD.out), B6.out.block b4 (ltOf YD.out), B6.out.block b5 (ltOf ZD.out)⟩ (fun hHeld => ?_)
        clear hK K b6 m6
        (try simp only [Act.put, List.getElem_toArray, List.getElem_cons_zero, List.getElem_cons_succ, List.setIfInBounds_toArray, List.set_cons_zero, List.set_cons_succ])
        refine wpAnyH_take (i := 21) (v := _) rfl (by kernel_rfl) (by kernel_rfl) (by kernel_rfl) (fun _ _ _ h => hP _ _ _ _ h) (Or.inl ⟨by rfl, fun w' hw' => by go_simp; rfl⟩) hHeld ?_
        (try simp only [Act.put, List.getElem_toArray, List.getElem_cons_zero, List.getElem_cons_succ, List.setIfInBounds_toArray, List.set_cons_zero, List.set_cons_succ])
        refine wpAnyH_ready (rs := [22]) (by kernel_rfl) (by simp) ?_
        refine AllReadyH.cons rfl (fun K hK => ?_) AllReadyH.nil
        go_simp
        go_at_call 48; ((with_reducible refine (CS.out _ _ _ _ _ B6.out M6.out).mono ?_); rintro e w7 ⟨rp2, rc2, rfl, hr7, b7⟩)
        have B7 := Bx.mk (bel B6.out b7)
        have T7 := Bx.mk (TD.out.below B7.out)
        have HR7 := Bx.mk hr7
        refine hK.out _ _ ⟨B7.out.block xb (ltOf XD.out), B7.out.block b4 (ltOf YD.out), B7.out.block b5 (ltOf ZD.out)⟩ (fun hHeld => ?_)
        clear hK K b7 hr7
        (try simp only [Act.put, List.getElem_toArray, List.getElem_cons_zero, List.getElem_cons_succ, List.setIfInBounds_toArray, List.set_cons_zero, List.set_cons_succ])
        refine wpAnyH_ready (rs := [23]) (by kernel_rfl) (by simp) ?_
        refine AllReadyH.cons rfl (fun K hK => ?_) AllReadyH.nil
        have e0 := cOf T7.out.b0 0; have e1 := cOf T7.out.b0 1; have e2 := cOf T7.out.b0 2; have e3 := cOf T7.out.b0 3; have e4 := cOf T7.out.b0 4; have e5 := cOf T7.out.b0 5
        have ef0 := tOf T7.out.b0 0; have ef1 := tOf T7.out.b0 1; have ef2 := tOf T7.out.b0 2; have ef3 := tOf T7.out.b0 3; have ef4 := tOf T7.out.b0 4; have ef5 := tOf T7.out.b0 5
        simp only [List.getElem?_toArray, List.getElem?_cons_zero, List.getElem?_cons_succ] at e0 e1 e2 e3 e4 e5
        go_simp
        refine hK.out _ _ ⟨(hset6 hxw').trans hHeld.1, (hset6 h4w).trans hHeld.2.1, (hset6 h5w).trans hHeld.2.2⟩ (fun hHeld2 => ?_)
        clear hK K
        refine wpAnyH_done (by kernel_rfl) ?_ _
        exact hQ _ _ _ _ _ _ _ _ _ _ _ _ _ _ _ _ _ _ _ _ _ _ _ _ _ _ T7.out (by rw [HK.out]; exact HR7.out)
      · go_simp
        go_at_call 47; ((with_reducible refine (J1.out _ B5.out).mono ?_); rintro e w6 ⟨p6, n6, c6, rfl, m6, b6⟩)
        have M6 := Bx.mk m6; have B6 := Bx.mk (bel B5.out b6)
        refine hK.out _ _ ⟨B6.out.block xb (ltOf XD.out), B6.out.block b4 (ltOf YD.out), B6.out.block b5 (ltOf ZD.out)⟩ (fun hHeld => ?_)
        clear hK K b6 m6
        (try simp only [Act.put, List.getElem_toArray, List.getElem_cons_zero, List.getElem_cons_succ, List.setIfInBounds_toArray, List.set_cons_zero, List.set_cons_succ])
        refine wpAnyH_take (i := 21) (v := _) rfl (by kernel_rfl) (by kernel_rfl) (by kernel_rfl) (fun _ _ _ h => hP _ _ _ _ h) (Or.inl ⟨by rfl, fun w' hw' => by go_simp; rfl⟩) hHeld ?_
        (try simp only [Act.put, List.getElem_toArray, List.getElem_cons_zero, List.getElem_cons_succ, List.setIfInBounds_toArray, List.set_cons_zero, List.set_cons_succ])
        refine wpAnyH_ready (rs := [0]) (by kernel_rfl) (by simp) ?_
        refine AllReadyH.cons rfl (fun K hK => ?_) AllReadyH.nil
        have t0 := cBel t0d B6.out; have t1 := cBel t1d B6.out; have t2 := cBel t2d B6.out; have t3 := cBel t3d B6.out; have t4 := cBel t4d B6.out; have t5 := cBel t5d B6.out
        go_simp
        refine hK.out _ _ hHeld (fun hHeld => ?_)
        clear hK K
        (try simp only [Act.put, List.getElem_toArray, List.getElem_cons_zero, List.getElem_cons_succ, List.setIfInBounds_toArray, List.set_cons_zero, List.set_cons_succ])
        refine wpAnyH_ready (rs := [22]) (by kernel_rfl) (by simp) ?_
        refine AllReadyH.cons rfl (fun K hK => ?_) AllReadyH.nil
        go_simp
        go_at_call 48; ((with_reducible refine (CS.out _ _ _ _ _ B6.out M6.out).mono ?_); rintro e w7 ⟨rp2, rc2, rfl, hr7, b7⟩)
        have B7 := Bx.mk (bel B6.out b7)
        have T7 := Bx.mk (TD.out.below B7.out)
        have HR7 := Bx.mk hr7
        refine hK.out _ _ ⟨B7.out.block xb (ltOf XD.out), B7.out.block b4 (ltOf YD.out), B7.out.block b5 (ltOf ZD.out)⟩ (fun hHeld => ?_)
        clear hK K b7 hr7
        (try simp only [Act.put, List.getElem_toArray, List.getElem_cons_zero, List.getElem_cons_succ, List.setIfInBounds_toArray, List.set_cons_zero, List.set_cons_succ])
        refine wpAnyH_ready (rs := [23]) (by kernel_rfl) (by simp) ?_
        refine AllReadyH.cons rfl (fun K hK => ?_) AllReadyH.nil
        have e0 := cOf T7.out.b0 0; have e1 := cOf T7.out.b0 1; have e2 := cOf T7.out.b0 2; have e3 := cOf T7.out.b0 3; have e4 := cOf T7.out.b0 4; have e5 := cOf T7.out.b0 5
        have ef0 := tOf T7.out.b0 0; have ef1 := tOf T7.out.b0 1; have ef2 := tOf T7.out.b0 2; have ef3 := tOf T7.out.b0 3; have ef4 := tOf T7.out.b0 4; have ef5 := tOf T7.out.b0 5
        simp only [List.getElem?_toArray, List.getElem?_cons_zero, List.getElem?_cons_succ] at e0 e1 e2 e3 e4 e5
        go_simp
        refine hK.out _ _ ⟨(hset6 hxw').trans hHeld.1, (hset6 h4w).trans hHeld.2.1, (hset6 h5w).trans hHeld.2.2⟩ (fun hHeld2 => ?_)
        clear hK K
        refine wpAnyH_done (by kernel_rfl) ?_ _
        exact hQ _ _ _ _ _ _ _ _ _ _ _ _ _ _ _ _ _ _ _ _ _ _ _ _ _ _ T7.out (by rw [HK.out]; exact HR7.out)
end Go.Proofs.Ytccjekgbhablpaa
