/-
  NARROWER THAN 'FOR EVERY INPUT', by the rows' own cells (each row's printed sentence says how): ShaSums: laid · ShaTexts: laid · ShaBack: laid · OrdealSealed: laid · FrameReads: laid · FrameBack: laid · FrameTorn: laid · FrameBent: laid · FrameNumbers: laid · FrameLong: laid.
  DERIVED. THE GIVEN ROWS OF THIS SEAT. 10 by the template 'for every input the law returns true; each argument reads behind the call as it read before'; 0 by the template 'total and deterministic' (their statements: YtdhbeeeofaheeaaDoorTotals.lean).
  GIVEN WITH THE SEED: the statements are not yours to turn. If you find one false, say at which input.
  Laid BY PROGRAM, IN A SANDBOX (cutbox-rows.mjs): the forced cells as the released guide's own fill.sh prints them over the translation 0d57d8e43214b77c… (all of the seat's roots in one cut). By AI agents, Wed Nov 11 2026. No macro, syntax, notation, axiom, sorry.
-/
import Derived.Test.YtdhbeeeofaheeaaDoorChecked
import GoSem.Claim
import GoSem.ClaimJoined
import GoSem.ClaimMapViews
import Derived.JoinedTies
import Derived.KernelRfl
namespace Go.Proofs.YtdhbeeeofaheeaaDoor
/- THE CELL 'sum', in the pinned program and in every row, IS THE sha256 OF THE DUMP (.gsa) THAT YtdhbeeeofaheeaaDoorProg.lean LOADS. Nothing in Lean hashes anything: it is a label: what it is worth is what the hold of that sum in a sandbox is worth. -/
noncomputable def Tryd.pinned : Pinned := { name := "ytdhbeeeofaheeaadoor", sum := "0d57d8e43214b77ca7ecb537ccf3ccb7333a8238c63fa26f9a06f9a3ba0037f9", checked := Tryd.checked }
namespace Rows
def none {H : Type} : Left H := { results := [], args := [] }

/- WHAT THE LISTED PACKAGE-LEVEL VARIABLES READ AS WHEN THE CALL BEGINS. Each datum BY PROGRAM (the guide's laid-datum.mjs) off the statement by which the dump's own 'gosem.cut.vars' lays the variable. In a bare row this is a premise. The card (YtdhbeeeofaheeaaDoorCards.lean) ties it to the program's text. -/
def laid_ordeal_sha_roundConstants {H : Type} : DataW H := .agg [.lit (.int .u32 1116352408), .lit (.int .u32 1899447441), .lit (.int .u32 3049323471), .lit (.int .u32 3921009573), .lit (.int .u32 961987163), .lit (.int .u32 1508970993), .lit (.int .u32 2453635748), .lit (.int .u32 2870763221), .lit (.int .u32 3624381080), .lit (.int .u32 310598401), .lit (.int .u32 607225278), .lit (.int .u32 1426881987), .lit (.int .u32 1925078388), .lit (.int .u32 2162078206), .lit (.int .u32 2614888103), .lit (.int .u32 3248222580), .lit (.int .u32 3835390401), .lit (.int .u32 4022224774), .lit (.int .u32 264347078), .lit (.int .u32 604807628), .lit (.int .u32 770255983), .lit (.int .u32 1249150122), .lit (.int .u32 1555081692), .lit (.int .u32 1996064986), .lit (.int .u32 2554220882), .lit (.int .u32 2821834349), .lit (.int .u32 2952996808), .lit (.int .u32 3210313671), .lit (.int .u32 3336571891), .lit (.int .u32 3584528711), .lit (.int .u32 113926993), .lit (.int .u32 338241895), .lit (.int .u32 666307205), .lit (.int .u32 773529912), .lit (.int .u32 1294757372), .lit (.int .u32 1396182291), .lit (.int .u32 1695183700), .lit (.int .u32 1986661051), .lit (.int .u32 2177026350), .lit (.int .u32 2456956037), .lit (.int .u32 2730485921), .lit (.int .u32 2820302411), .lit (.int .u32 3259730800), .lit (.int .u32 3345764771), .lit (.int .u32 3516065817), .lit (.int .u32 3600352804), .lit (.int .u32 4094571909), .lit (.int .u32 275423344), .lit (.int .u32 430227734), .lit (.int .u32 506948616), .lit (.int .u32 659060556), .lit (.int .u32 883997877), .lit (.int .u32 958139571), .lit (.int .u32 1322822218), .lit (.int .u32 1537002063), .lit (.int .u32 1747873779), .lit (.int .u32 1955562222), .lit (.int .u32 2024104815), .lit (.int .u32 2227730452), .lit (.int .u32 2361852424), .lit (.int .u32 2428436474), .lit (.int .u32 2756734187), .lit (.int .u32 3204031479), .lit (.int .u32 3329325298)]
def laid_math_bits_deBruijn64tab {H : Type} : DataW H := .agg [.lit (.int .u8 0), .lit (.int .u8 1), .lit (.int .u8 56), .lit (.int .u8 2), .lit (.int .u8 57), .lit (.int .u8 49), .lit (.int .u8 28), .lit (.int .u8 3), .lit (.int .u8 61), .lit (.int .u8 58), .lit (.int .u8 42), .lit (.int .u8 50), .lit (.int .u8 38), .lit (.int .u8 29), .lit (.int .u8 17), .lit (.int .u8 4), .lit (.int .u8 62), .lit (.int .u8 47), .lit (.int .u8 59), .lit (.int .u8 36), .lit (.int .u8 45), .lit (.int .u8 43), .lit (.int .u8 51), .lit (.int .u8 22), .lit (.int .u8 53), .lit (.int .u8 39), .lit (.int .u8 33), .lit (.int .u8 30), .lit (.int .u8 24), .lit (.int .u8 18), .lit (.int .u8 12), .lit (.int .u8 5), .lit (.int .u8 63), .lit (.int .u8 55), .lit (.int .u8 48), .lit (.int .u8 27), .lit (.int .u8 60), .lit (.int .u8 41), .lit (.int .u8 37), .lit (.int .u8 16), .lit (.int .u8 46), .lit (.int .u8 35), .lit (.int .u8 44), .lit (.int .u8 21), .lit (.int .u8 52), .lit (.int .u8 32), .lit (.int .u8 23), .lit (.int .u8 11), .lit (.int .u8 54), .lit (.int .u8 26), .lit (.int .u8 40), .lit (.int .u8 15), .lit (.int .u8 34), .lit (.int .u8 20), .lit (.int .u8 31), .lit (.int .u8 10), .lit (.int .u8 25), .lit (.int .u8 14), .lit (.int .u8 19), .lit (.int .u8 9), .lit (.int .u8 13), .lit (.int .u8 8), .lit (.int .u8 7), .lit (.int .u8 6)]
def laid_ordeal_crc_halves {H : Type} : DataW H := .agg [.lit (.int .u32 0), .lit (.int .u32 274646895), .lit (.int .u32 549293790), .lit (.int .u32 820201905), .lit (.int .u32 1098587580), .lit (.int .u32 1361435347), .lit (.int .u32 1640403810), .lit (.int .u32 1905808397), .lit (.int .u32 2197175160), .lit (.int .u32 2460548119), .lit (.int .u32 2722870694), .lit (.int .u32 2987750089), .lit (.int .u32 3280807620), .lit (.int .u32 3553878443), .lit (.int .u32 3811616794), .lit (.int .u32 4084100981)]

/-- 'ordeallaw03.ShaSums': WHATEVER THE INPUT: true; the input reads as it did. -/
def shaSumsSpec : ChangeSpec := { name := "shaSums", fn := fun _ => fun
  | [d1, d2, d3] => { results := [.lit (.bool true)], args := [d1, d2, d3] }
  | _ => none }
def shaSumsRow : OpenClaim := { program := "ytdhbeeeofaheeaadoor", sum := "0d57d8e43214b77ca7ecb537ccf3ccb7333a8238c63fa26f9a06f9a3ba0037f9", func := "ordeal/ordeallaw03.ShaSums", spec := "shaSums", inPlace := ["internal/abi.NoEscape", "internal/bytealg.MakeNoZero"], named := ["ordeal/sha.roundConstants"], apart := false, laid := [("ordeal/sha.roundConstants", laid_ordeal_sha_roundConstants)] }
def ShaSumsSaid : Prop := shaSumsRow.holds Tryd.pinned (OpenSpec.ofChange shaSumsSpec)

/-- ITS FALSE NEIGHBOUR: 'it returns false'. Refute it at one input. -/
def shaSumsWrong : ChangeSpec := { name := "shaSums", fn := fun _ => fun
  | [d1, d2, d3] => { results := [.lit (.bool false)], args := [d1, d2, d3] }
  | _ => none }
def ShaSumsWrongFalsely : Prop := shaSumsRow.holds Tryd.pinned (OpenSpec.ofChange shaSumsWrong)

/-- 'ordeallaw03.ShaTexts': WHATEVER THE INPUT: true; the input reads as it did. -/
def shaTextsSpec : ChangeSpec := { name := "shaTexts", fn := fun _ => fun
  | [d1, d2, d3] => { results := [.lit (.bool true)], args := [d1, d2, d3] }
  | _ => none }
def shaTextsRow : OpenClaim := { program := "ytdhbeeeofaheeaadoor", sum := "0d57d8e43214b77ca7ecb537ccf3ccb7333a8238c63fa26f9a06f9a3ba0037f9", func := "ordeal/ordeallaw03.ShaTexts", spec := "shaTexts", inPlace := ["internal/abi.NoEscape", "internal/bytealg.MakeNoZero", "internal/bytealg.Compare"], named := ["ordeal/sha.roundConstants"], apart := false, laid := [("ordeal/sha.roundConstants", laid_ordeal_sha_roundConstants)] }
def ShaTextsSaid : Prop := shaTextsRow.holds Tryd.pinned (OpenSpec.ofChange shaTextsSpec)

/-- ITS FALSE NEIGHBOUR: 'it returns false'. Refute it at one input. -/
def shaTextsWrong : ChangeSpec := { name := "shaTexts", fn := fun _ => fun
  | [d1, d2, d3] => { results := [.lit (.bool false)], args := [d1, d2, d3] }
  | _ => none }
def ShaTextsWrongFalsely : Prop := shaTextsRow.holds Tryd.pinned (OpenSpec.ofChange shaTextsWrong)

/-- 'ordeallaw03.ShaBack': WHATEVER THE INPUT: true; the input reads as it did. -/
def shaBackSpec : ChangeSpec := { name := "shaBack", fn := fun _ => fun
  | [d1, d2] => { results := [.lit (.bool true)], args := [d1, d2] }
  | _ => none }
def shaBackRow : OpenClaim := { program := "ytdhbeeeofaheeaadoor", sum := "0d57d8e43214b77ca7ecb537ccf3ccb7333a8238c63fa26f9a06f9a3ba0037f9", func := "ordeal/ordeallaw03.ShaBack", spec := "shaBack", inPlace := ["internal/abi.NoEscape", "internal/bytealg.MakeNoZero", "internal/bytealg.Compare"], named := ["ordeal/sha.roundConstants"], apart := false, laid := [("ordeal/sha.roundConstants", laid_ordeal_sha_roundConstants)] }
def ShaBackSaid : Prop := shaBackRow.holds Tryd.pinned (OpenSpec.ofChange shaBackSpec)

/-- ITS FALSE NEIGHBOUR: 'it returns false'. Refute it at one input. -/
def shaBackWrong : ChangeSpec := { name := "shaBack", fn := fun _ => fun
  | [d1, d2] => { results := [.lit (.bool false)], args := [d1, d2] }
  | _ => none }
def ShaBackWrongFalsely : Prop := shaBackRow.holds Tryd.pinned (OpenSpec.ofChange shaBackWrong)

/-- 'ordealtop.OrdealSealed': WHATEVER THE INPUT: true; the input reads as it did. -/
def ordealSealedSpec : ChangeSpec := { name := "ordealSealed", fn := fun _ => fun
  | [d1, d2] => { results := [.lit (.bool true)], args := [d1, d2] }
  | _ => none }
def ordealSealedRow : OpenClaim := { program := "ytdhbeeeofaheeaadoor", sum := "0d57d8e43214b77ca7ecb537ccf3ccb7333a8238c63fa26f9a06f9a3ba0037f9", func := "ordeal/ordealtop.OrdealSealed", spec := "ordealSealed", inPlace := ["internal/abi.NoEscape", "internal/bytealg.MakeNoZero"], named := ["ordeal/crc.halves", "ordeal/sha.roundConstants", "math/bits.deBruijn64tab"], apart := false, laid := [("math/bits.deBruijn64tab", laid_math_bits_deBruijn64tab), ("ordeal/crc.halves", laid_ordeal_crc_halves), ("ordeal/sha.roundConstants", laid_ordeal_sha_roundConstants)] }
def OrdealSealedSaid : Prop := ordealSealedRow.holds Tryd.pinned (OpenSpec.ofChange ordealSealedSpec)

/-- ITS FALSE NEIGHBOUR: 'it returns false'. Refute it at one input. -/
def ordealSealedWrong : ChangeSpec := { name := "ordealSealed", fn := fun _ => fun
  | [d1, d2] => { results := [.lit (.bool false)], args := [d1, d2] }
  | _ => none }
def OrdealSealedWrongFalsely : Prop := ordealSealedRow.holds Tryd.pinned (OpenSpec.ofChange ordealSealedWrong)

/-- 'ordeallaw06.FrameReads': WHATEVER THE INPUT: true; the input reads as it did. -/
def frameReadsSpec : ChangeSpec := { name := "frameReads", fn := fun _ => fun
  | [d1, d2, d3] => { results := [.lit (.bool true)], args := [d1, d2, d3] }
  | _ => none }
def frameReadsRow : OpenClaim := { program := "ytdhbeeeofaheeaadoor", sum := "0d57d8e43214b77ca7ecb537ccf3ccb7333a8238c63fa26f9a06f9a3ba0037f9", func := "ordeal/ordeallaw06.FrameReads", spec := "frameReads", named := ["ordeal/crc.halves"], apart := false, laid := [("ordeal/crc.halves", laid_ordeal_crc_halves)] }
def FrameReadsSaid : Prop := frameReadsRow.holds Tryd.pinned (OpenSpec.ofChange frameReadsSpec)

/-- ITS FALSE NEIGHBOUR: 'it returns false'. Refute it at one input. -/
def frameReadsWrong : ChangeSpec := { name := "frameReads", fn := fun _ => fun
  | [d1, d2, d3] => { results := [.lit (.bool false)], args := [d1, d2, d3] }
  | _ => none }
def FrameReadsWrongFalsely : Prop := frameReadsRow.holds Tryd.pinned (OpenSpec.ofChange frameReadsWrong)

/-- 'ordeallaw06.FrameBack': WHATEVER THE INPUT: true; the input reads as it did. -/
def frameBackSpec : ChangeSpec := { name := "frameBack", fn := fun _ => fun
  | [d1, d2, d3] => { results := [.lit (.bool true)], args := [d1, d2, d3] }
  | _ => none }
def frameBackRow : OpenClaim := { program := "ytdhbeeeofaheeaadoor", sum := "0d57d8e43214b77ca7ecb537ccf3ccb7333a8238c63fa26f9a06f9a3ba0037f9", func := "ordeal/ordeallaw06.FrameBack", spec := "frameBack", named := ["ordeal/crc.halves"], apart := false, laid := [("ordeal/crc.halves", laid_ordeal_crc_halves)] }
def FrameBackSaid : Prop := frameBackRow.holds Tryd.pinned (OpenSpec.ofChange frameBackSpec)

/-- ITS FALSE NEIGHBOUR: 'it returns false'. Refute it at one input. -/
def frameBackWrong : ChangeSpec := { name := "frameBack", fn := fun _ => fun
  | [d1, d2, d3] => { results := [.lit (.bool false)], args := [d1, d2, d3] }
  | _ => none }
def FrameBackWrongFalsely : Prop := frameBackRow.holds Tryd.pinned (OpenSpec.ofChange frameBackWrong)

/-- 'ordeallaw06.FrameTorn': WHATEVER THE INPUT: true; the input reads as it did. -/
def frameTornSpec : ChangeSpec := { name := "frameTorn", fn := fun _ => fun
  | [d1, d2, d3] => { results := [.lit (.bool true)], args := [d1, d2, d3] }
  | _ => none }
def frameTornRow : OpenClaim := { program := "ytdhbeeeofaheeaadoor", sum := "0d57d8e43214b77ca7ecb537ccf3ccb7333a8238c63fa26f9a06f9a3ba0037f9", func := "ordeal/ordeallaw06.FrameTorn", spec := "frameTorn", named := ["ordeal/crc.halves"], apart := false, laid := [("ordeal/crc.halves", laid_ordeal_crc_halves)] }
def FrameTornSaid : Prop := frameTornRow.holds Tryd.pinned (OpenSpec.ofChange frameTornSpec)

/-- ITS FALSE NEIGHBOUR: 'it returns false'. Refute it at one input. -/
def frameTornWrong : ChangeSpec := { name := "frameTorn", fn := fun _ => fun
  | [d1, d2, d3] => { results := [.lit (.bool false)], args := [d1, d2, d3] }
  | _ => none }
def FrameTornWrongFalsely : Prop := frameTornRow.holds Tryd.pinned (OpenSpec.ofChange frameTornWrong)

/-- 'ordeallaw06.FrameBent': WHATEVER THE INPUT: true; the input reads as it did. -/
def frameBentSpec : ChangeSpec := { name := "frameBent", fn := fun _ => fun
  | [d1, d2, d3, d4, d5, d6] => { results := [.lit (.bool true)], args := [d1, d2, d3, d4, d5, d6] }
  | _ => none }
def frameBentRow : OpenClaim := { program := "ytdhbeeeofaheeaadoor", sum := "0d57d8e43214b77ca7ecb537ccf3ccb7333a8238c63fa26f9a06f9a3ba0037f9", func := "ordeal/ordeallaw06.FrameBent", spec := "frameBent", named := ["ordeal/crc.halves"], apart := false, laid := [("ordeal/crc.halves", laid_ordeal_crc_halves)] }
def FrameBentSaid : Prop := frameBentRow.holds Tryd.pinned (OpenSpec.ofChange frameBentSpec)

/-- ITS FALSE NEIGHBOUR: 'it returns false'. Refute it at one input. -/
def frameBentWrong : ChangeSpec := { name := "frameBent", fn := fun _ => fun
  | [d1, d2, d3, d4, d5, d6] => { results := [.lit (.bool false)], args := [d1, d2, d3, d4, d5, d6] }
  | _ => none }
def FrameBentWrongFalsely : Prop := frameBentRow.holds Tryd.pinned (OpenSpec.ofChange frameBentWrong)

/-- 'ordeallaw06.FrameNumbers': WHATEVER THE INPUT: true; the input reads as it did. -/
def frameNumbersSpec : ChangeSpec := { name := "frameNumbers", fn := fun _ => fun
  | [d1, d2, d3, d4] => { results := [.lit (.bool true)], args := [d1, d2, d3, d4] }
  | _ => none }
def frameNumbersRow : OpenClaim := { program := "ytdhbeeeofaheeaadoor", sum := "0d57d8e43214b77ca7ecb537ccf3ccb7333a8238c63fa26f9a06f9a3ba0037f9", func := "ordeal/ordeallaw06.FrameNumbers", spec := "frameNumbers", named := ["ordeal/crc.halves"], apart := false, laid := [("ordeal/crc.halves", laid_ordeal_crc_halves)] }
def FrameNumbersSaid : Prop := frameNumbersRow.holds Tryd.pinned (OpenSpec.ofChange frameNumbersSpec)

/-- ITS FALSE NEIGHBOUR: 'it returns false'. Refute it at one input. -/
def frameNumbersWrong : ChangeSpec := { name := "frameNumbers", fn := fun _ => fun
  | [d1, d2, d3, d4] => { results := [.lit (.bool false)], args := [d1, d2, d3, d4] }
  | _ => none }
def FrameNumbersWrongFalsely : Prop := frameNumbersRow.holds Tryd.pinned (OpenSpec.ofChange frameNumbersWrong)

/-- 'ordeallaw06.FrameLong': WHATEVER THE INPUT: true; the input reads as it did. -/
def frameLongSpec : ChangeSpec := { name := "frameLong", fn := fun _ => fun
  | [d] => { results := [.lit (.bool true)], args := [d] }
  | _ => none }
def frameLongRow : OpenClaim := { program := "ytdhbeeeofaheeaadoor", sum := "0d57d8e43214b77ca7ecb537ccf3ccb7333a8238c63fa26f9a06f9a3ba0037f9", func := "ordeal/ordeallaw06.FrameLong", spec := "frameLong", named := ["ordeal/crc.halves"], apart := false, laid := [("ordeal/crc.halves", laid_ordeal_crc_halves)] }
def FrameLongSaid : Prop := frameLongRow.holds Tryd.pinned (OpenSpec.ofChange frameLongSpec)

/-- ITS FALSE NEIGHBOUR: 'it returns false'. Refute it at one input. -/
def frameLongWrong : ChangeSpec := { name := "frameLong", fn := fun _ => fun
  | [d] => { results := [.lit (.bool false)], args := [d] }
  | _ => none }
def FrameLongWrongFalsely : Prop := frameLongRow.holds Tryd.pinned (OpenSpec.ofChange frameLongWrong)

/- THE SECOND FORM. 'bulk': how many values and letters a reading holds, each counted each time it is reached (what is shared counts as often as it is met; a slice's spare places count too). A statement '..UptoSaid' is the law's where the arguments, and the package variables that the reading takes, are together of bulk at most 1048576: NARROWER than '..Said'. Prove '..Said' where nothing that the law and all that it calls make is longer than what came in: it says more and counts as full. Else prove '..UptoSaid'. A law counts once. -/
mutual
def uptoBulk {H : Type} : DataW H → Nat
  | .lit (.string bytes) => bytes.length + 1
  | .lit _ => 1
  | .nil => 1
  | .ptr d => uptoBulk d + 1
  | .slice elems spare => uptoBulkAll elems + uptoBulkAll spare + 1
  | .agg parts => uptoBulkAll parts + 1
  | .iface _ d => uptoBulk d + 1
  | .map entries => uptoBulkEntries entries + 1
  | .held _ => 1
def uptoBulkAll {H : Type} : List (DataW H) → Nat
  | [] => 0
  | d :: r => uptoBulk d + uptoBulkAll r
def uptoBulkEntries {H : Type} : List (Lit × DataW H) → Nat
  | [] => 0
  | x :: r => uptoBulkEntry x + uptoBulkEntries r
def uptoBulkEntry {H : Type} : Lit × DataW H → Nat
  | (.string bytes, d) => bytes.length + uptoBulk d + 1
  | (_, d) => uptoBulk d + 1
 end
def uptoSmall : (H : Type) → List (DataW H) → Bool := fun _ ds => decide (uptoBulkAll ds ≤ 1048576)
def OpenSpec.upto (s : _root_.Go.ChangeSpec) : _root_.Go.OpenSpec := { _root_.Go.OpenSpec.ofChange s with cond := some uptoSmall }

/-- 'ordeallaw03.ShaSums', WHERE WHAT IT READS IS OF BULK AT MOST 1048576: true; the input reads as it did. -/
def shaSumsUptoRow : OpenClaim := { program := "ytdhbeeeofaheeaadoor", sum := "0d57d8e43214b77ca7ecb537ccf3ccb7333a8238c63fa26f9a06f9a3ba0037f9", func := "ordeal/ordeallaw03.ShaSums", spec := "shaSums", inPlace := ["internal/abi.NoEscape", "internal/bytealg.MakeNoZero"], named := ["ordeal/sha.roundConstants"], apart := false, laid := [("ordeal/sha.roundConstants", laid_ordeal_sha_roundConstants)], narrowed := true }
def ShaSumsUptoSaid : Prop := shaSumsUptoRow.holds Tryd.pinned (OpenSpec.upto shaSumsSpec)

/-- 'ordeallaw03.ShaTexts', WHERE WHAT IT READS IS OF BULK AT MOST 1048576: true; the input reads as it did. -/
def shaTextsUptoRow : OpenClaim := { program := "ytdhbeeeofaheeaadoor", sum := "0d57d8e43214b77ca7ecb537ccf3ccb7333a8238c63fa26f9a06f9a3ba0037f9", func := "ordeal/ordeallaw03.ShaTexts", spec := "shaTexts", inPlace := ["internal/abi.NoEscape", "internal/bytealg.MakeNoZero", "internal/bytealg.Compare"], named := ["ordeal/sha.roundConstants"], apart := false, laid := [("ordeal/sha.roundConstants", laid_ordeal_sha_roundConstants)], narrowed := true }
def ShaTextsUptoSaid : Prop := shaTextsUptoRow.holds Tryd.pinned (OpenSpec.upto shaTextsSpec)

/-- 'ordeallaw03.ShaBack', WHERE WHAT IT READS IS OF BULK AT MOST 1048576: true; the input reads as it did. -/
def shaBackUptoRow : OpenClaim := { program := "ytdhbeeeofaheeaadoor", sum := "0d57d8e43214b77ca7ecb537ccf3ccb7333a8238c63fa26f9a06f9a3ba0037f9", func := "ordeal/ordeallaw03.ShaBack", spec := "shaBack", inPlace := ["internal/abi.NoEscape", "internal/bytealg.MakeNoZero", "internal/bytealg.Compare"], named := ["ordeal/sha.roundConstants"], apart := false, laid := [("ordeal/sha.roundConstants", laid_ordeal_sha_roundConstants)], narrowed := true }
def ShaBackUptoSaid : Prop := shaBackUptoRow.holds Tryd.pinned (OpenSpec.upto shaBackSpec)

/-- 'ordealtop.OrdealSealed', WHERE WHAT IT READS IS OF BULK AT MOST 1048576: true; the input reads as it did. -/
def ordealSealedUptoRow : OpenClaim := { program := "ytdhbeeeofaheeaadoor", sum := "0d57d8e43214b77ca7ecb537ccf3ccb7333a8238c63fa26f9a06f9a3ba0037f9", func := "ordeal/ordealtop.OrdealSealed", spec := "ordealSealed", inPlace := ["internal/abi.NoEscape", "internal/bytealg.MakeNoZero"], named := ["ordeal/crc.halves", "ordeal/sha.roundConstants", "math/bits.deBruijn64tab"], apart := false, laid := [("math/bits.deBruijn64tab", laid_math_bits_deBruijn64tab), ("ordeal/crc.halves", laid_ordeal_crc_halves), ("ordeal/sha.roundConstants", laid_ordeal_sha_roundConstants)], narrowed := true }
def OrdealSealedUptoSaid : Prop := ordealSealedUptoRow.holds Tryd.pinned (OpenSpec.upto ordealSealedSpec)

/-- 'ordeallaw06.FrameReads', WHERE WHAT IT READS IS OF BULK AT MOST 1048576: true; the input reads as it did. -/
def frameReadsUptoRow : OpenClaim := { program := "ytdhbeeeofaheeaadoor", sum := "0d57d8e43214b77ca7ecb537ccf3ccb7333a8238c63fa26f9a06f9a3ba0037f9", func := "ordeal/ordeallaw06.FrameReads", spec := "frameReads", named := ["ordeal/crc.halves"], apart := false, laid := [("ordeal/crc.halves", laid_ordeal_crc_halves)], narrowed := true }
def FrameReadsUptoSaid : Prop := frameReadsUptoRow.holds Tryd.pinned (OpenSpec.upto frameReadsSpec)

/-- 'ordeallaw06.FrameBack', WHERE WHAT IT READS IS OF BULK AT MOST 1048576: true; the input reads as it did. -/
def frameBackUptoRow : OpenClaim := { program := "ytdhbeeeofaheeaadoor", sum := "0d57d8e43214b77ca7ecb537ccf3ccb7333a8238c63fa26f9a06f9a3ba0037f9", func := "ordeal/ordeallaw06.FrameBack", spec := "frameBack", named := ["ordeal/crc.halves"], apart := false, laid := [("ordeal/crc.halves", laid_ordeal_crc_halves)], narrowed := true }
def FrameBackUptoSaid : Prop := frameBackUptoRow.holds Tryd.pinned (OpenSpec.upto frameBackSpec)

/-- 'ordeallaw06.FrameTorn', WHERE WHAT IT READS IS OF BULK AT MOST 1048576: true; the input reads as it did. -/
def frameTornUptoRow : OpenClaim := { program := "ytdhbeeeofaheeaadoor", sum := "0d57d8e43214b77ca7ecb537ccf3ccb7333a8238c63fa26f9a06f9a3ba0037f9", func := "ordeal/ordeallaw06.FrameTorn", spec := "frameTorn", named := ["ordeal/crc.halves"], apart := false, laid := [("ordeal/crc.halves", laid_ordeal_crc_halves)], narrowed := true }
def FrameTornUptoSaid : Prop := frameTornUptoRow.holds Tryd.pinned (OpenSpec.upto frameTornSpec)

/-- 'ordeallaw06.FrameBent', WHERE WHAT IT READS IS OF BULK AT MOST 1048576: true; the input reads as it did. -/
def frameBentUptoRow : OpenClaim := { program := "ytdhbeeeofaheeaadoor", sum := "0d57d8e43214b77ca7ecb537ccf3ccb7333a8238c63fa26f9a06f9a3ba0037f9", func := "ordeal/ordeallaw06.FrameBent", spec := "frameBent", named := ["ordeal/crc.halves"], apart := false, laid := [("ordeal/crc.halves", laid_ordeal_crc_halves)], narrowed := true }
def FrameBentUptoSaid : Prop := frameBentUptoRow.holds Tryd.pinned (OpenSpec.upto frameBentSpec)

/-- 'ordeallaw06.FrameNumbers', WHERE WHAT IT READS IS OF BULK AT MOST 1048576: true; the input reads as it did. -/
def frameNumbersUptoRow : OpenClaim := { program := "ytdhbeeeofaheeaadoor", sum := "0d57d8e43214b77ca7ecb537ccf3ccb7333a8238c63fa26f9a06f9a3ba0037f9", func := "ordeal/ordeallaw06.FrameNumbers", spec := "frameNumbers", named := ["ordeal/crc.halves"], apart := false, laid := [("ordeal/crc.halves", laid_ordeal_crc_halves)], narrowed := true }
def FrameNumbersUptoSaid : Prop := frameNumbersUptoRow.holds Tryd.pinned (OpenSpec.upto frameNumbersSpec)

/-- 'ordeallaw06.FrameLong', WHERE WHAT IT READS IS OF BULK AT MOST 1048576: true; the input reads as it did. -/
def frameLongUptoRow : OpenClaim := { program := "ytdhbeeeofaheeaadoor", sum := "0d57d8e43214b77ca7ecb537ccf3ccb7333a8238c63fa26f9a06f9a3ba0037f9", func := "ordeal/ordeallaw06.FrameLong", spec := "frameLong", named := ["ordeal/crc.halves"], apart := false, laid := [("ordeal/crc.halves", laid_ordeal_crc_halves)], narrowed := true }
def FrameLongUptoSaid : Prop := frameLongUptoRow.holds Tryd.pinned (OpenSpec.upto frameLongSpec)

end Rows
end Go.Proofs.YtdhbeeeofaheeaaDoor
