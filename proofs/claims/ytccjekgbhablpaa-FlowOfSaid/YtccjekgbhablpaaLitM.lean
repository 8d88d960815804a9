/- Litmus tests, as mathematics: instructions. -/
import Derived.Test.YtccjekgbhablpaaBase
namespace Go.Proofs.Ytccjekgbhablpaa
set_option maxRecDepth 100000

/-- an instruction -/
structure Ins where
  op : Int
  rd : Int
  loc : Int
  ar : Bool
  an : Int
  br : Bool
  bn : Int
  acq : Bool
  rel : Bool
  dep : Int
  pred : Int
  succ : Int
  skip : Int

/-- its cells -/
def insC (x : Ins) : List Value := [.int .i64 x.op, .int .i64 x.rd, .int .i64 x.loc, .bool x.ar, .int .u64 x.an, .bool x.br, .int .u64 x.bn, .bool x.acq, .bool x.rel, .int .i64 x.dep, .int .i64 x.pred, .int .i64 x.succ, .int .i64 x.skip]
/-- it as a value -/
def insV (x : Ins) : Value := .agg #[.int .i64 x.op, .int .i64 x.rd, .int .i64 x.loc, .bool x.ar, .int .u64 x.an, .bool x.br, .int .u64 x.bn, .bool x.acq, .bool x.rel, .int .i64 x.dep, .int .i64 x.pred, .int .i64 x.succ, .int .i64 x.skip]

def krd (op : Int) : Bool := decide (op = 9) || decide (op = 13) || decide (op = 11) || decide (op = 12)
def kwr (op : Int) : Bool := decide (op = 10) || decide (op = 14) || decide (op = 11) || decide (op = 12)
def isMem (op : Int) : Bool := krd op || kwr op
def known (op : Int) : Bool := decide (1 ≤ op) && decide (op ≤ 17)
def idx (n c : Int) : Bool := decide (0 ≤ n) && decide (n < c)
def sideM (n : Int) : Bool := decide (1 ≤ n) && decide (n ≤ 3)
def argOk (r : Bool) (n : Int) : Bool := !r || decide (n < 8)
def setsM (op : Int) : Bool := !(decide (op = 10) || decide (op = 15) || decide (op = 16) || decide (op = 17)) && known op

def zeroI : Ins := ⟨0, 0, 0, false, 0, false, 0, false, false, 0, 0, 0, 0⟩
/-- with those fields only that are needed -/
def needM (x : Ins) : Ins :=
  if x.op = 1 then { zeroI with op := x.op, rd := x.rd, ar := x.ar, an := x.an }
  else if 2 ≤ x.op ∧ x.op ≤ 8 then { zeroI with op := x.op, rd := x.rd, ar := x.ar, an := x.an, br := x.br, bn := x.bn }
  else if x.op = 9 ∨ x.op = 13 then { zeroI with op := x.op, rd := x.rd, loc := x.loc, acq := x.acq, rel := x.rel, dep := x.dep }
  else if x.op = 10 then { zeroI with op := x.op, loc := x.loc, ar := x.ar, an := x.an, acq := x.acq, rel := x.rel, dep := x.dep }
  else if x.op = 11 ∨ x.op = 12 ∨ x.op = 14 then { zeroI with op := x.op, rd := x.rd, loc := x.loc, ar := x.ar, an := x.an, acq := x.acq, rel := x.rel, dep := x.dep }
  else if x.op = 15 then { zeroI with op := x.op, pred := x.pred, succ := x.succ }
  else if x.op = 16 ∨ x.op = 17 then { zeroI with op := x.op, ar := x.ar, an := x.an, br := x.br, bn := x.bn, skip := x.skip }
  else zeroI
def namesM (x : Ins) (locs : Int) : Bool := (!(isMem x.op) || idx x.loc locs) && (idx x.rd 8 && argOk x.ar x.an && argOk x.br x.bn && idx x.dep 9)
def fitsM (x : Ins) : Bool := !(decide (x.op = 1) && x.ar) && !(decide (x.op = 15) && !(sideM x.pred && sideM x.succ)) && ((krd x.op || !x.acq) && (kwr x.op || !x.rel))
/-- numbers that an int holds -/
structure InsOk (x : Ins) : Prop where
  op : -9223372036854775808 ≤ x.op ∧ x.op ≤ 9223372036854775807
  skip : -9223372036854775808 ≤ x.skip ∧ x.skip ≤ 9223372036854775807
end Go.Proofs.Ytccjekgbhablpaa
