/- Layer 5 as mathematics: what a disk holds, and what each call makes of it. -/
import Derived.Test.YtalinhjalnndhaaMapL
namespace Go.Proofs.Ytalinhjalnndhaa
set_option maxRecDepth 100000

structure FileS where
  data : List Nat
  safe : Nat
  named : Bool
structure Chg where
  src : ByteArray
  dst : ByteArray
  file : Nat
  over : Option Nat
structure DS where
  names : KL
  safe : KL
  chg : List Chg
  made : Nat
  file : Nat → FileS
  room : Int
  used : Int
  crash : Int
  fail : Int
  dead : Bool
  calls : Nat

def DS.setF (S : DS) (n : Nat) (f : FileS) : DS := { S with file := fun i => if i = n then f else S.file i }
def Chg.app (c : Chg) (l : KL) : KL := if c.dst.size = 0 then kdel l c.src else kput (kdel l c.src) c.dst c.file

/-- how many bytes there is room for -/
def DS.free (S : DS) : Int := max (S.room - S.used) 0

/-- a changing call: the error's number, and what becomes of the disk -/
def beginC (S : DS) : Int := if S.fail = 0 then 8 else if S.crash = 0 then 9 else 0
def beginS (S : DS) : DS :=
  if S.fail = 0 then { S with fail := -1 }
  else if S.crash = 0 then { S with dead := true }
  else { S with fail := max (S.fail - 1) (-1), crash := max (S.crash - 1) (-1), calls := S.calls + 1 }

def DS.unname (S : DS) : Option Nat → DS
  | some g => S.setF g { S.file g with named := false }
  | none => S
def mkC (S : DS) (src dst : ByteArray) (f : Nat) : Chg := ⟨src, dst, f, kget S.names dst⟩
def renS (S : DS) (src dst : ByteArray) (f : Nat) : DS :=
  let S1 := S.unname (kget S.names dst)
  let S2 := S1.setF f { S1.file f with named := decide (dst.size ≠ 0) }
  { S2 with names := (mkC S src dst f).app S.names, chg := S.chg ++ [mkC S src dst f] }

def settleS (S : DS) (n : Nat) : DS := { S with safe := (S.chg.take n).foldl (fun l c => c.app l) S.safe, chg := [] }

def relF (S : DS) (n : Nat) : DS := if (S.file n).named then S else { S.setF n { S.file n with data := [] } with used := S.used - (S.file n).data.length }
def relO (S : DS) : Option Nat → DS
  | some n => relF S n
  | none => S
def relC (S : DS) (c : Chg) : DS := relO (relF S c.file) c.over
def relAll (S : DS) : List Chg → DS
  | [] => S
  | c :: l => relAll (relC S c) l

def pickN (choice : List Int) (i most : Nat) : Nat :=
  match choice[i]? with
  | some c => (c % ((most : Int) + 1)).toNat
  | none => 0
theorem pickN_le (choice : List Int) (i most : Nat) : pickN choice i most ≤ most := by
  unfold pickN
  split
  · rename_i c _
    have h1 := Int.emod_nonneg c (b := (most : Int) + 1) (by omega)
    have h2 := Int.emod_lt_of_pos c (b := (most : Int) + 1) (by omega)
    omega
  · omega

/-! ### the calls -/
def createC (S : DS) (name : ByteArray) : Int :=
  if S.dead then 9 else if name.size = 0 then 1 else if (kget S.names name).isSome then 6 else beginC S
def newF (S : DS) (name : ByteArray) : DS :=
  renS ({ S with made := S.made + 1 }.setF (S.made + 1) ⟨[], 0, false⟩) ⟨#[]⟩ name (S.made + 1)
def createS (S : DS) (name : ByteArray) : DS :=
  if S.dead then S else if name.size = 0 then S else if (kget S.names name).isSome then S
  else if beginC S = 8 then beginS S else newF (beginS S) name

def findC (S : DS) (name : ByteArray) : Int := if S.dead then 9 else if (kget S.names name).isSome then 0 else 5
def findN (S : DS) (name : ByteArray) : Option Nat := if S.dead then none else kget S.names name

def appF (S : DS) (n : Nat) (s : List Nat) : DS := { S.setF n { S.file n with data := (S.file n).data ++ s } with used := S.used + s.length }
def appendC (S : DS) (name : ByteArray) (s : List Nat) : Int :=
  if findC S name ≠ 0 then findC S name else if S.free < s.length then 7 else beginC S
def appendS (S : DS) (name : ByteArray) (s : List Nat) : DS :=
  match findN S name with
  | none => S
  | some n => if S.free < s.length then S else if beginC S = 8 then beginS S else appF (beginS S) n s

def readD (S : DS) (name : ByteArray) : List Nat :=
  match findN S name with
  | none => []
  | some n => (S.file n).data

def syncF (S : DS) (n : Nat) : DS := S.setF n { S.file n with safe := (S.file n).data.length }
def syncC (S : DS) (name : ByteArray) : Int := if findC S name ≠ 0 then findC S name else beginC S
def syncS (S : DS) (name : ByteArray) : DS :=
  match findN S name with
  | none => S
  | some n => if beginC S = 0 then syncF (beginS S) n else beginS S

def syncNamesC (S : DS) : Int := if S.dead then 9 else beginC S
def syncNamesS (S : DS) : DS :=
  if S.dead then S else if beginC S = 0 then settleS (relAll (beginS S) S.chg) S.chg.length else beginS S

def renameC (S : DS) (a b : ByteArray) : Int :=
  if findC S a ≠ 0 then findC S a else if b.size = 0 ∨ b = a then 1 else beginC S
def renameS (S : DS) (a b : ByteArray) : DS :=
  match findN S a with
  | none => S
  | some n => if b.size = 0 ∨ b = a then S else if beginC S = 8 then beginS S else renS (beginS S) a b n

def removeC (S : DS) (a : ByteArray) : Int := if findC S a ≠ 0 then findC S a else beginC S
def removeS (S : DS) (a : ByteArray) : DS :=
  match findN S a with
  | none => S
  | some n => if beginC S = 8 then beginS S else renS (beginS S) a ⟨#[]⟩ n

/-- the files of a map, the oldest first -/
def oldest (l : KL) : List Nat := (l.map (·.2)).mergeSort (fun a b => decide (a ≤ b))
/-- one file behind a crash: k is the number of the choice -/
def cutF (choice : List Int) (k : Nat) (f : FileS) : FileS :=
  let d := if f.safe < f.data.length then f.data.take (f.safe + pickN choice k (f.data.length - f.safe)) else f.data
  ⟨d, d.length, true⟩
def cutAll (choice : List Int) : List Nat → Nat → DS → DS
  | [], _, S => S
  | n :: l, k, S =>
    cutAll choice l (if (S.file n).safe < (S.file n).data.length then k + 1 else k)
      { S.setF n (cutF choice k (S.file n)) with used := S.used + (cutF choice k (S.file n)).data.length }
def restartS (S : DS) (choice : List Int) : DS :=
  let S1 := settleS S (pickN choice 0 S.chg.length)
  let S2 := cutAll choice (oldest S1.safe) 1 { S1 with names := S1.safe, used := 0 }
  { S2 with crash := -1, fail := -1, dead := false }

def newS (room : Int) : DS := ⟨[], [], [], 0, fun _ => ⟨[], 0, false⟩, max room 0, 0, -1, -1, false, 0⟩

end Go.Proofs.Ytalinhjalnndhaa
