/- The flow of threads, as mathematics. -/
import Derived.Test.YtccjekgbhablpaaGb
import Derived.Test.YtccjekgbhablpaaGa
namespace Go.Proofs.Ytccjekgbhablpaa
set_option maxRecDepth 100000
open Go.RowKit

/-- what a register has: is it known, the number, the Ops on which it hangs -/
structure Cn where
  k : Bool
  v : Nat
  f : Nat
def cnC (c : Cn) : List Value := [.bool c.k, .int .u64 (c.v : Int), .int .u64 (c.f : Int)]
structure CnOk (c : Cn) : Prop where
  v : c.v < 18446744073709551616
  f : c.f < 18446744073709551616
def numC0 (n : Nat) : Cn := ⟨true, n, 0⟩

/-- two numbers, as an instruction from Add to Shr does -/
def reckM (op : Int) (a b : Nat) : Nat :=
  if op = 2 then (a + b) % 18446744073709551616
  else if op = 3 then (a + (18446744073709551616 - b)) % 18446744073709551616
  else if op = 4 then a ^^^ b
  else if op = 5 then a &&& b
  else if op = 6 then a ||| b
  else if op = 7 then a * 2 ^ (b % 64) % 18446744073709551616
  else if op = 8 then a / 2 ^ (b % 64)
  else 0
def combM (a b : Bool × Nat) (f : Nat → Nat → Nat) : Bool × Nat := if a.1 && b.1 then (true, f a.2 b.2) else (false, 0)

/-- a thread under way, and what is known of the Ops -/
structure WkM where
  regs : List Cn
  path : Nat
  lrOp : Nat
  lrLoc : Int
  state : List Nat
  wr : List (Bool × Nat)
  pair : List Nat
  place : List Nat
  value : List Nat
  fpath : List Nat
  left : List Nat

/-- what is given: numbers that are read, Scs that work -/
structure CtxM where
  reads : List (Bool × Nat)
  works : List Bool

def addM (a b : Nat) : Nat := (a + b) % 18446744073709551616
/-- does a branch skip? 1: yes -/
def eqlM (op : Int) (a b : Nat) : Nat := if decide (a = b) == decide (op = 16) then 1 else 0
def cnAt (l : List Cn) (i : Nat) : Cn := l.getD i ⟨true, 0, 0⟩
def argM (s : WkM) (r : Bool) (n : Nat) : Cn := if r then cnAt s.regs n else numC0 n
def readM (c : CtxM) (k : Nat) : Bool × Nat := if (c.reads.getD k (false, 0)).1 then c.reads.getD k (false, 0) else (false, 0)
def worksM (c : CtxM) (k : Nat) : Bool := c.works.getD k false
def setM (s : WkM) (rd : Nat) (c : Cn) : WkM := { s with regs := s.regs.set rd c }
def leaveM (s : WkM) (i at' k : Nat) (mem : Bool) : WkM :=
  let s1 : WkM := { s with left := s.left.set i (withN (s.left.getD i 0) (at' : Int)) }
  if mem then { s1 with state := s1.state.set k 2 } else s1
def brPath (s : WkM) (x : Ins) : WkM := { s with path := s.path ||| ((argM s x.ar x.an.toNat).f ||| (argM s x.br x.bn.toNat).f) }
def brVal (s : WkM) (x : Ins) : Bool × Nat :=
  combM ((argM s x.ar x.an.toNat).k, (argM s x.ar x.an.toNat).v) ((argM s x.br x.bn.toNat).k, (argM s x.br x.bn.toNat).v) (eqlM x.op)
def compM (s : WkM) (x : Ins) : WkM :=
  let a := argM s x.ar x.an.toNat
  let b := argM s x.br x.bn.toNat
  if x.op = 1 then setM s x.rd.toNat a
  else
    let r := combM (a.k, a.v) (b.k, b.v) (reckM x.op)
    setM s x.rd.toNat ⟨r.1, r.2, a.f ||| b.f⟩
def pairM' (s : WkM) (k : Nat) (x : Ins) : WkM :=
  { s with pair := if s.lrLoc = x.loc then s.pair.set k s.lrOp else s.pair, lrOp := 0, lrLoc := 0 }
def writeV (c : CtxM) (s : WkM) (k : Nat) (x : Ins) : Bool × Nat :=
  let a := argM s x.ar x.an.toNat
  if x.op = 12 then combM (a.k, a.v) (readM c k) addM else (a.k, a.v)
def writeM (c : CtxM) (s : WkM) (k : Nat) (x : Ins) : WkM :=
  { s with value := s.value.set k (argM s x.ar x.an.toNat).f, wr := s.wr.set k (writeV c s k x) }
def runM (s : WkM) (k : Nat) (x : Ins) : WkM :=
  { s with state := s.state.set k 1, fpath := s.fpath.set k s.path, place := if 0 < x.dep then s.place.set k (cnAt s.regs (x.dep.toNat - 1)).f else s.place }
def bit1 (k : Nat) : Nat := withN 0 (k : Int)
def endM (c : CtxM) (s : WkM) (k : Nat) (x : Ins) : WkM :=
  if krd x.op then setM s x.rd.toNat ⟨(readM c k).1, (readM c k).2, bit1 k⟩
  else if x.op = 14 then setM s x.rd.toNat ⟨true, 0, bit1 k⟩
  else s
def lrM (s : WkM) (k : Nat) (x : Ins) : WkM := if x.op = 13 then { s with lrOp := k + 1, lrLoc := x.loc } else s
def goM (c : CtxM) (s : WkM) (k : Nat) (x : Ins) : WkM :=
  let s1 := runM s k x
  let s2 := if kwr x.op then writeM c s1 k x else s1
  lrM (endM c s2 k x) k x
def accM (c : CtxM) (s : WkM) (k : Nat) (x : Ins) : WkM :=
  if x.op = 14 then
    let s1 := pairM' s k x
    if worksM c k then goM c s1 k x
    else { s1 with state := s1.state.set k 2, regs := s1.regs.set x.rd.toNat (numC0 1) }
  else goM c s k x
/-- a thread, from a place on -/
def walkM (c : CtxM) (i : Nat) : List Ins → Nat → Nat → Nat → WkM → WkM
  | [], _, _, _, s => s
  | x :: l, at', k, skip, s =>
    if 0 < skip then walkM c i l (at' + 1) (if isMem x.op then k + 1 else k) (skip - 1) (leaveM s i at' k (isMem x.op))
    else if isMem x.op then walkM c i l (at' + 1) (k + 1) 0 (accM c s k x)
    else if x.op = 16 ∨ x.op = 17 then
      if (brVal s x).1 then walkM c i l (at' + 1) k (if (brVal s x).2 = 1 then x.skip.toNat else 0) (brPath s x)
      else brPath s x
    else if x.op ≠ 15 then walkM c i l (at' + 1) k 0 (compM s x)
    else walkM c i l (at' + 1) k 0 s

/-- all registers are zero -/
def regs0 : List Cn := List.replicate 8 (numC0 0)
/-- how many Ops there are -/
def memL (l : List Ins) : Nat := (l.filter fun x => isMem x.op).length
def memT (t : List (List Ins)) : Nat := (t.map memL).sum

structure FlM where
  state : List Nat
  wr : List (Bool × Nat)
  pair : List Nat
  place : List Nat
  value : List Nat
  fpath : List Nat
  left : List Nat
  regs : List (List (Bool × Nat))
  whole : Bool
def startM (f : FlM) : WkM := ⟨regs0, 0, 0, 0, f.state, f.wr, f.pair, f.place, f.value, f.fpath, f.left⟩
def allK (l : List (Bool × Nat)) : Bool := l.all (·.1)
def valsM (l : List Cn) : List (Bool × Nat) := l.map fun c => (c.k, c.v)
/-- what a thread adds -/
def thrM (c : CtxM) (i k : Nat) (l : List Ins) (f : FlM) : FlM :=
  let s := walkM c i l 0 k 0 (startM f)
  ⟨s.state, s.wr, s.pair, s.place, s.value, s.fpath, s.left, f.regs.set i (valsM s.regs), f.whole && allK (valsM s.regs)⟩
def thrsM (c : CtxM) : List (List Ins) → Nat → Nat → FlM → FlM
  | [], _, _, f => f
  | l :: r, i, k, f => thrsM c r (i + 1) (k + memL l) (thrM c i k l f)
def blankM (n m : Nat) (whole : Bool) : FlM :=
  ⟨List.replicate n 0, List.replicate n (false, 0), List.replicate n 0, List.replicate n 0, List.replicate n 0, List.replicate n 0, List.replicate m 0, List.replicate m (List.replicate 8 (false, 0)), whole⟩
def flowM (c : CtxM) (t : List (List Ins)) : FlM := thrsM c t 0 0 (blankM (memT t) t.length true)

/-- sizes and bounds that stay -/
structure WkOk (n m : Nat) (s : WkM) : Prop where
  regs : s.regs.length = 8
  rok : ∀ c ∈ s.regs, CnOk c
  path : s.path < 18446744073709551616
  lr : s.lrOp ≤ n
  state : s.state.length = n
  wr : s.wr.length = n
  pair : s.pair.length = n
  place : s.place.length = n
  value : s.value.length = n
  fpath : s.fpath.length = n
  left : s.left.length = m
  lok : ∀ x ∈ s.left, x < 18446744073709551616
end Go.Proofs.Ytccjekgbhablpaa
