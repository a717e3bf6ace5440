/-
  NARROWER THAN 'FOR EVERY INPUT', by the rows' own cells (each row's printed sentence says how): RupImplies: laid · RupChecks: laid · RupOdd: laid · RupNames: laid · RupSound: laid · RupOwn: laid · RupMore: laid · RupPrefix: laid · RupEmpty: laid.
  DERIVED. THE GIVEN ROWS OF THIS SEAT. 9 by the template 'for every input the law returns true; each argument reads behind the call as it read before'; 0 by the template 'total and deterministic' (their statements: YtfhodbnhaaiceaaDoorTotals.lean).
  GIVEN WITH THE SEED: the statements are not yours to turn. If you find one false, say at which input.
  Laid BY PROGRAM, IN A SANDBOX (cutbox-rows.mjs): the forced cells as the released guide's own fill.sh prints them over the translation 557cf13a6ab2f56c… (all of the seat's roots in one cut). By AI agents, Wed Nov 11 2026. No macro, syntax, notation, axiom, sorry.
-/
import Derived.Test.YtfhodbnhaaiceaaDoorChecked
import GoSem.Claim
import GoSem.ClaimJoined
import GoSem.ClaimMapViews
import Derived.JoinedTies
import Derived.KernelRfl
namespace Go.Proofs.YtfhodbnhaaiceaaDoor
/- THE CELL 'sum', in the pinned program and in every row, IS THE sha256 OF THE DUMP (.gsa) THAT YtfhodbnhaaiceaaDoorProg.lean LOADS. Nothing in Lean hashes anything: it is a label: what it is worth is what the hold of that sum in a sandbox is worth. -/
noncomputable def Tryd.pinned : Pinned := { name := "ytfhodbnhaaiceaadoor", sum := "557cf13a6ab2f56c6dda21d756d30efa935973b40af1aa97762f38e01dfdffc4", checked := Tryd.checked }
namespace Rows
def none {H : Type} : Left H := { results := [], args := [] }

/- WHAT THE LISTED PACKAGE-LEVEL VARIABLES READ AS WHEN THE CALL BEGINS. Each datum BY PROGRAM (the guide's laid-datum.mjs) off the statement by which the dump's own 'gosem.cut.vars' lays the variable. In a bare row this is a premise. The card (YtfhodbnhaaiceaaDoorCards.lean) ties it to the program's text. -/
def laid_math_bits_deBruijn32tab {H : Type} : DataW H := .agg [.lit (.int .u8 0), .lit (.int .u8 1), .lit (.int .u8 28), .lit (.int .u8 2), .lit (.int .u8 29), .lit (.int .u8 14), .lit (.int .u8 24), .lit (.int .u8 3), .lit (.int .u8 30), .lit (.int .u8 22), .lit (.int .u8 20), .lit (.int .u8 15), .lit (.int .u8 25), .lit (.int .u8 17), .lit (.int .u8 4), .lit (.int .u8 8), .lit (.int .u8 31), .lit (.int .u8 27), .lit (.int .u8 13), .lit (.int .u8 23), .lit (.int .u8 21), .lit (.int .u8 19), .lit (.int .u8 16), .lit (.int .u8 7), .lit (.int .u8 26), .lit (.int .u8 12), .lit (.int .u8 18), .lit (.int .u8 6), .lit (.int .u8 11), .lit (.int .u8 5), .lit (.int .u8 10), .lit (.int .u8 9)]
def laid_math_bits_deBruijn64tab {H : Type} : DataW H := .agg [.lit (.int .u8 0), .lit (.int .u8 1), .lit (.int .u8 56), .lit (.int .u8 2), .lit (.int .u8 57), .lit (.int .u8 49), .lit (.int .u8 28), .lit (.int .u8 3), .lit (.int .u8 61), .lit (.int .u8 58), .lit (.int .u8 42), .lit (.int .u8 50), .lit (.int .u8 38), .lit (.int .u8 29), .lit (.int .u8 17), .lit (.int .u8 4), .lit (.int .u8 62), .lit (.int .u8 47), .lit (.int .u8 59), .lit (.int .u8 36), .lit (.int .u8 45), .lit (.int .u8 43), .lit (.int .u8 51), .lit (.int .u8 22), .lit (.int .u8 53), .lit (.int .u8 39), .lit (.int .u8 33), .lit (.int .u8 30), .lit (.int .u8 24), .lit (.int .u8 18), .lit (.int .u8 12), .lit (.int .u8 5), .lit (.int .u8 63), .lit (.int .u8 55), .lit (.int .u8 48), .lit (.int .u8 27), .lit (.int .u8 60), .lit (.int .u8 41), .lit (.int .u8 37), .lit (.int .u8 16), .lit (.int .u8 46), .lit (.int .u8 35), .lit (.int .u8 44), .lit (.int .u8 21), .lit (.int .u8 52), .lit (.int .u8 32), .lit (.int .u8 23), .lit (.int .u8 11), .lit (.int .u8 54), .lit (.int .u8 26), .lit (.int .u8 40), .lit (.int .u8 15), .lit (.int .u8 34), .lit (.int .u8 20), .lit (.int .u8 31), .lit (.int .u8 10), .lit (.int .u8 25), .lit (.int .u8 14), .lit (.int .u8 19), .lit (.int .u8 9), .lit (.int .u8 13), .lit (.int .u8 8), .lit (.int .u8 7), .lit (.int .u8 6)]
def laid_internal_strconv_uint64pow10 {H : Type} : DataW H := .agg [.lit (.int .u64 1), .lit (.int .u64 10), .lit (.int .u64 100), .lit (.int .u64 1000), .lit (.int .u64 10000), .lit (.int .u64 100000), .lit (.int .u64 1000000), .lit (.int .u64 10000000), .lit (.int .u64 100000000), .lit (.int .u64 1000000000), .lit (.int .u64 10000000000), .lit (.int .u64 100000000000), .lit (.int .u64 1000000000000), .lit (.int .u64 10000000000000), .lit (.int .u64 100000000000000), .lit (.int .u64 1000000000000000), .lit (.int .u64 10000000000000000), .lit (.int .u64 100000000000000000), .lit (.int .u64 1000000000000000000), .lit (.int .u64 10000000000000000000)]

/-- 'weepholelaw05.RupImplies': WHATEVER THE INPUT: true; the input reads as it did. -/
def rupImpliesSpec : ChangeSpec := { name := "rupImplies", fn := fun _ => fun
  | [d1, d2, d3] => { results := [.lit (.bool true)], args := [d1, d2, d3] }
  | _ => none }
def rupImpliesRow : OpenClaim := { program := "ytfhodbnhaaiceaadoor", sum := "557cf13a6ab2f56c6dda21d756d30efa935973b40af1aa97762f38e01dfdffc4", func := "weephole/weepholelaw05.RupImplies", spec := "rupImplies", unfollowed := true, recurses := true, named := ["internal/strconv.uint64pow10", "math/bits.deBruijn32tab", "math/bits.deBruijn64tab"], apart := false, laid := [("math/bits.deBruijn32tab", laid_math_bits_deBruijn32tab), ("math/bits.deBruijn64tab", laid_math_bits_deBruijn64tab), ("internal/strconv.uint64pow10", laid_internal_strconv_uint64pow10)] }
def RupImpliesSaid : Prop := rupImpliesRow.holds Tryd.pinned (OpenSpec.ofChange rupImpliesSpec)

/-- ITS FALSE NEIGHBOUR: 'it returns false'. Refute it at one input. -/
def rupImpliesWrong : ChangeSpec := { name := "rupImplies", fn := fun _ => fun
  | [d1, d2, d3] => { results := [.lit (.bool false)], args := [d1, d2, d3] }
  | _ => none }
def RupImpliesWrongFalsely : Prop := rupImpliesRow.holds Tryd.pinned (OpenSpec.ofChange rupImpliesWrong)

/-- 'weepholelaw05.RupChecks': WHATEVER THE INPUT: true; the input reads as it did. -/
def rupChecksSpec : ChangeSpec := { name := "rupChecks", fn := fun _ => fun
  | [d1, d2, d3] => { results := [.lit (.bool true)], args := [d1, d2, d3] }
  | _ => none }
def rupChecksRow : OpenClaim := { program := "ytfhodbnhaaiceaadoor", sum := "557cf13a6ab2f56c6dda21d756d30efa935973b40af1aa97762f38e01dfdffc4", func := "weephole/weepholelaw05.RupChecks", spec := "rupChecks", unfollowed := true, recurses := true, named := ["internal/strconv.uint64pow10", "math/bits.deBruijn32tab", "math/bits.deBruijn64tab"], apart := false, laid := [("math/bits.deBruijn32tab", laid_math_bits_deBruijn32tab), ("math/bits.deBruijn64tab", laid_math_bits_deBruijn64tab), ("internal/strconv.uint64pow10", laid_internal_strconv_uint64pow10)] }
def RupChecksSaid : Prop := rupChecksRow.holds Tryd.pinned (OpenSpec.ofChange rupChecksSpec)

/-- ITS FALSE NEIGHBOUR: 'it returns false'. Refute it at one input. -/
def rupChecksWrong : ChangeSpec := { name := "rupChecks", fn := fun _ => fun
  | [d1, d2, d3] => { results := [.lit (.bool false)], args := [d1, d2, d3] }
  | _ => none }
def RupChecksWrongFalsely : Prop := rupChecksRow.holds Tryd.pinned (OpenSpec.ofChange rupChecksWrong)

/-- 'weepholelaw05.RupOdd': WHATEVER THE INPUT: true; the input reads as it did. -/
def rupOddSpec : ChangeSpec := { name := "rupOdd", fn := fun _ => fun
  | [d1, d2] => { results := [.lit (.bool true)], args := [d1, d2] }
  | _ => none }
def rupOddRow : OpenClaim := { program := "ytfhodbnhaaiceaadoor", sum := "557cf13a6ab2f56c6dda21d756d30efa935973b40af1aa97762f38e01dfdffc4", func := "weephole/weepholelaw05.RupOdd", spec := "rupOdd", unfollowed := true, recurses := true, named := ["internal/strconv.uint64pow10", "math/bits.deBruijn32tab", "math/bits.deBruijn64tab"], apart := false, laid := [("math/bits.deBruijn32tab", laid_math_bits_deBruijn32tab), ("math/bits.deBruijn64tab", laid_math_bits_deBruijn64tab), ("internal/strconv.uint64pow10", laid_internal_strconv_uint64pow10)] }
def RupOddSaid : Prop := rupOddRow.holds Tryd.pinned (OpenSpec.ofChange rupOddSpec)

/-- ITS FALSE NEIGHBOUR: 'it returns false'. Refute it at one input. -/
def rupOddWrong : ChangeSpec := { name := "rupOdd", fn := fun _ => fun
  | [d1, d2] => { results := [.lit (.bool false)], args := [d1, d2] }
  | _ => none }
def RupOddWrongFalsely : Prop := rupOddRow.holds Tryd.pinned (OpenSpec.ofChange rupOddWrong)

/-- 'weepholelaw05.RupNames': WHATEVER THE INPUT: true; the input reads as it did. -/
def rupNamesSpec : ChangeSpec := { name := "rupNames", fn := fun _ => fun
  | [] => { results := [.lit (.bool true)], args := [] }
  | _ => none }
def rupNamesRow : OpenClaim := { program := "ytfhodbnhaaiceaadoor", sum := "557cf13a6ab2f56c6dda21d756d30efa935973b40af1aa97762f38e01dfdffc4", func := "weephole/weepholelaw05.RupNames", spec := "rupNames", unfollowed := true, recurses := true, named := ["internal/strconv.uint64pow10", "math/bits.deBruijn32tab", "math/bits.deBruijn64tab"], apart := false, laid := [("math/bits.deBruijn32tab", laid_math_bits_deBruijn32tab), ("math/bits.deBruijn64tab", laid_math_bits_deBruijn64tab), ("internal/strconv.uint64pow10", laid_internal_strconv_uint64pow10)] }
def RupNamesSaid : Prop := rupNamesRow.holds Tryd.pinned (OpenSpec.ofChange rupNamesSpec)

/-- ITS FALSE NEIGHBOUR: 'it returns false'. Refute it at one input. -/
def rupNamesWrong : ChangeSpec := { name := "rupNames", fn := fun _ => fun
  | [] => { results := [.lit (.bool false)], args := [] }
  | _ => none }
def RupNamesWrongFalsely : Prop := rupNamesRow.holds Tryd.pinned (OpenSpec.ofChange rupNamesWrong)

/-- 'weepholelaw05.RupSound': WHATEVER THE INPUT: true; the input reads as it did. -/
def rupSoundSpec : ChangeSpec := { name := "rupSound", fn := fun _ => fun
  | [d1, d2, d3, d4] => { results := [.lit (.bool true)], args := [d1, d2, d3, d4] }
  | _ => none }
def rupSoundRow : OpenClaim := { program := "ytfhodbnhaaiceaadoor", sum := "557cf13a6ab2f56c6dda21d756d30efa935973b40af1aa97762f38e01dfdffc4", func := "weephole/weepholelaw05.RupSound", spec := "rupSound", unfollowed := true, recurses := true, named := ["internal/strconv.uint64pow10", "math/bits.deBruijn32tab", "math/bits.deBruijn64tab"], apart := false, laid := [("math/bits.deBruijn32tab", laid_math_bits_deBruijn32tab), ("math/bits.deBruijn64tab", laid_math_bits_deBruijn64tab), ("internal/strconv.uint64pow10", laid_internal_strconv_uint64pow10)] }
def RupSoundSaid : Prop := rupSoundRow.holds Tryd.pinned (OpenSpec.ofChange rupSoundSpec)

/-- ITS FALSE NEIGHBOUR: 'it returns false'. Refute it at one input. -/
def rupSoundWrong : ChangeSpec := { name := "rupSound", fn := fun _ => fun
  | [d1, d2, d3, d4] => { results := [.lit (.bool false)], args := [d1, d2, d3, d4] }
  | _ => none }
def RupSoundWrongFalsely : Prop := rupSoundRow.holds Tryd.pinned (OpenSpec.ofChange rupSoundWrong)

/-- 'weepholelaw05.RupOwn': WHATEVER THE INPUT: true; the input reads as it did. -/
def rupOwnSpec : ChangeSpec := { name := "rupOwn", fn := fun _ => fun
  | [d1, d2, d3] => { results := [.lit (.bool true)], args := [d1, d2, d3] }
  | _ => none }
def rupOwnRow : OpenClaim := { program := "ytfhodbnhaaiceaadoor", sum := "557cf13a6ab2f56c6dda21d756d30efa935973b40af1aa97762f38e01dfdffc4", func := "weephole/weepholelaw05.RupOwn", spec := "rupOwn", unfollowed := true, recurses := true, named := ["internal/strconv.uint64pow10", "math/bits.deBruijn32tab", "math/bits.deBruijn64tab"], apart := false, laid := [("math/bits.deBruijn32tab", laid_math_bits_deBruijn32tab), ("math/bits.deBruijn64tab", laid_math_bits_deBruijn64tab), ("internal/strconv.uint64pow10", laid_internal_strconv_uint64pow10)] }
def RupOwnSaid : Prop := rupOwnRow.holds Tryd.pinned (OpenSpec.ofChange rupOwnSpec)

/-- ITS FALSE NEIGHBOUR: 'it returns false'. Refute it at one input. -/
def rupOwnWrong : ChangeSpec := { name := "rupOwn", fn := fun _ => fun
  | [d1, d2, d3] => { results := [.lit (.bool false)], args := [d1, d2, d3] }
  | _ => none }
def RupOwnWrongFalsely : Prop := rupOwnRow.holds Tryd.pinned (OpenSpec.ofChange rupOwnWrong)

/-- 'weepholelaw05.RupMore': WHATEVER THE INPUT: true; the input reads as it did. -/
def rupMoreSpec : ChangeSpec := { name := "rupMore", fn := fun _ => fun
  | [d1, d2, d3, d4] => { results := [.lit (.bool true)], args := [d1, d2, d3, d4] }
  | _ => none }
def rupMoreRow : OpenClaim := { program := "ytfhodbnhaaiceaadoor", sum := "557cf13a6ab2f56c6dda21d756d30efa935973b40af1aa97762f38e01dfdffc4", func := "weephole/weepholelaw05.RupMore", spec := "rupMore", unfollowed := true, recurses := true, named := ["internal/strconv.uint64pow10", "math/bits.deBruijn32tab", "math/bits.deBruijn64tab"], apart := false, laid := [("math/bits.deBruijn32tab", laid_math_bits_deBruijn32tab), ("math/bits.deBruijn64tab", laid_math_bits_deBruijn64tab), ("internal/strconv.uint64pow10", laid_internal_strconv_uint64pow10)] }
def RupMoreSaid : Prop := rupMoreRow.holds Tryd.pinned (OpenSpec.ofChange rupMoreSpec)

/-- ITS FALSE NEIGHBOUR: 'it returns false'. Refute it at one input. -/
def rupMoreWrong : ChangeSpec := { name := "rupMore", fn := fun _ => fun
  | [d1, d2, d3, d4] => { results := [.lit (.bool false)], args := [d1, d2, d3, d4] }
  | _ => none }
def RupMoreWrongFalsely : Prop := rupMoreRow.holds Tryd.pinned (OpenSpec.ofChange rupMoreWrong)

/-- 'weepholelaw05.RupPrefix': WHATEVER THE INPUT: true; the input reads as it did. -/
def rupPrefixSpec : ChangeSpec := { name := "rupPrefix", fn := fun _ => fun
  | [d1, d2, d3] => { results := [.lit (.bool true)], args := [d1, d2, d3] }
  | _ => none }
def rupPrefixRow : OpenClaim := { program := "ytfhodbnhaaiceaadoor", sum := "557cf13a6ab2f56c6dda21d756d30efa935973b40af1aa97762f38e01dfdffc4", func := "weephole/weepholelaw05.RupPrefix", spec := "rupPrefix", unfollowed := true, recurses := true, named := ["internal/strconv.uint64pow10", "math/bits.deBruijn32tab", "math/bits.deBruijn64tab"], apart := false, laid := [("math/bits.deBruijn32tab", laid_math_bits_deBruijn32tab), ("math/bits.deBruijn64tab", laid_math_bits_deBruijn64tab), ("internal/strconv.uint64pow10", laid_internal_strconv_uint64pow10)] }
def RupPrefixSaid : Prop := rupPrefixRow.holds Tryd.pinned (OpenSpec.ofChange rupPrefixSpec)

/-- ITS FALSE NEIGHBOUR: 'it returns false'. Refute it at one input. -/
def rupPrefixWrong : ChangeSpec := { name := "rupPrefix", fn := fun _ => fun
  | [d1, d2, d3] => { results := [.lit (.bool false)], args := [d1, d2, d3] }
  | _ => none }
def RupPrefixWrongFalsely : Prop := rupPrefixRow.holds Tryd.pinned (OpenSpec.ofChange rupPrefixWrong)

/-- 'weepholelaw05.RupEmpty': WHATEVER THE INPUT: true; the input reads as it did. -/
def rupEmptySpec : ChangeSpec := { name := "rupEmpty", fn := fun _ => fun
  | [d1, d2, d3] => { results := [.lit (.bool true)], args := [d1, d2, d3] }
  | _ => none }
def rupEmptyRow : OpenClaim := { program := "ytfhodbnhaaiceaadoor", sum := "557cf13a6ab2f56c6dda21d756d30efa935973b40af1aa97762f38e01dfdffc4", func := "weephole/weepholelaw05.RupEmpty", spec := "rupEmpty", unfollowed := true, recurses := true, named := ["internal/strconv.uint64pow10", "math/bits.deBruijn32tab", "math/bits.deBruijn64tab"], apart := false, laid := [("math/bits.deBruijn32tab", laid_math_bits_deBruijn32tab), ("math/bits.deBruijn64tab", laid_math_bits_deBruijn64tab), ("internal/strconv.uint64pow10", laid_internal_strconv_uint64pow10)] }
def RupEmptySaid : Prop := rupEmptyRow.holds Tryd.pinned (OpenSpec.ofChange rupEmptySpec)

/-- ITS FALSE NEIGHBOUR: 'it returns false'. Refute it at one input. -/
def rupEmptyWrong : ChangeSpec := { name := "rupEmpty", fn := fun _ => fun
  | [d1, d2, d3] => { results := [.lit (.bool false)], args := [d1, d2, d3] }
  | _ => none }
def RupEmptyWrongFalsely : Prop := rupEmptyRow.holds Tryd.pinned (OpenSpec.ofChange rupEmptyWrong)

/- THE SECOND FORM. 'bulk': how many values and letters a reading holds, each counted each time it is reached (what is shared counts as often as it is met; a slice's spare places count too). A statement '..UptoSaid' is the law's where the arguments, and the package variables that the reading takes, are together of bulk at most 1048576: NARROWER than '..Said'. Prove '..Said' where nothing that the law and all that it calls make is longer than what came in: it says more and counts as full. Else prove '..UptoSaid'. A law counts once. -/
mutual
def uptoBulk {H : Type} : DataW H → Nat
  | .lit (.string bytes) => bytes.length + 1
  | .lit _ => 1
  | .nil => 1
  | .ptr d => uptoBulk d + 1
  | .slice elems spare => uptoBulkAll elems + uptoBulkAll spare + 1
  | .agg parts => uptoBulkAll parts + 1
  | .iface _ d => uptoBulk d + 1
  | .map entries => uptoBulkEntries entries + 1
  | .held _ => 1
def uptoBulkAll {H : Type} : List (DataW H) → Nat
  | [] => 0
  | d :: r => uptoBulk d + uptoBulkAll r
def uptoBulkEntries {H : Type} : List (Lit × DataW H) → Nat
  | [] => 0
  | x :: r => uptoBulkEntry x + uptoBulkEntries r
def uptoBulkEntry {H : Type} : Lit × DataW H → Nat
  | (.string bytes, d) => bytes.length + uptoBulk d + 1
  | (_, d) => uptoBulk d + 1
 end
def uptoSmall : (H : Type) → List (DataW H) → Bool := fun _ ds => decide (uptoBulkAll ds ≤ 1048576)
def OpenSpec.upto (s : _root_.Go.ChangeSpec) : _root_.Go.OpenSpec := { _root_.Go.OpenSpec.ofChange s with cond := some uptoSmall }

/-- 'weepholelaw05.RupImplies', WHERE WHAT IT READS IS OF BULK AT MOST 1048576: true; the input reads as it did. -/
def rupImpliesUptoRow : OpenClaim := { program := "ytfhodbnhaaiceaadoor", sum := "557cf13a6ab2f56c6dda21d756d30efa935973b40af1aa97762f38e01dfdffc4", func := "weephole/weepholelaw05.RupImplies", spec := "rupImplies", unfollowed := true, recurses := true, named := ["internal/strconv.uint64pow10", "math/bits.deBruijn32tab", "math/bits.deBruijn64tab"], apart := false, laid := [("math/bits.deBruijn32tab", laid_math_bits_deBruijn32tab), ("math/bits.deBruijn64tab", laid_math_bits_deBruijn64tab), ("internal/strconv.uint64pow10", laid_internal_strconv_uint64pow10)], narrowed := true }
def RupImpliesUptoSaid : Prop := rupImpliesUptoRow.holds Tryd.pinned (OpenSpec.upto rupImpliesSpec)

/-- 'weepholelaw05.RupChecks', WHERE WHAT IT READS IS OF BULK AT MOST 1048576: true; the input reads as it did. -/
def rupChecksUptoRow : OpenClaim := { program := "ytfhodbnhaaiceaadoor", sum := "557cf13a6ab2f56c6dda21d756d30efa935973b40af1aa97762f38e01dfdffc4", func := "weephole/weepholelaw05.RupChecks", spec := "rupChecks", unfollowed := true, recurses := true, named := ["internal/strconv.uint64pow10", "math/bits.deBruijn32tab", "math/bits.deBruijn64tab"], apart := false, laid := [("math/bits.deBruijn32tab", laid_math_bits_deBruijn32tab), ("math/bits.deBruijn64tab", laid_math_bits_deBruijn64tab), ("internal/strconv.uint64pow10", laid_internal_strconv_uint64pow10)], narrowed := true }
def RupChecksUptoSaid : Prop := rupChecksUptoRow.holds Tryd.pinned (OpenSpec.upto rupChecksSpec)

/-- 'weepholelaw05.RupOdd', WHERE WHAT IT READS IS OF BULK AT MOST 1048576: true; the input reads as it did. -/
def rupOddUptoRow : OpenClaim := { program := "ytfhodbnhaaiceaadoor", sum := "557cf13a6ab2f56c6dda21d756d30efa935973b40af1aa97762f38e01dfdffc4", func := "weephole/weepholelaw05.RupOdd", spec := "rupOdd", unfollowed := true, recurses := true, named := ["internal/strconv.uint64pow10", "math/bits.deBruijn32tab", "math/bits.deBruijn64tab"], apart := false, laid := [("math/bits.deBruijn32tab", laid_math_bits_deBruijn32tab), ("math/bits.deBruijn64tab", laid_math_bits_deBruijn64tab), ("internal/strconv.uint64pow10", laid_internal_strconv_uint64pow10)], narrowed := true }
def RupOddUptoSaid : Prop := rupOddUptoRow.holds Tryd.pinned (OpenSpec.upto rupOddSpec)

/-- 'weepholelaw05.RupNames', WHERE WHAT IT READS IS OF BULK AT MOST 1048576: true; the input reads as it did. -/
def rupNamesUptoRow : OpenClaim := { program := "ytfhodbnhaaiceaadoor", sum := "557cf13a6ab2f56c6dda21d756d30efa935973b40af1aa97762f38e01dfdffc4", func := "weephole/weepholelaw05.RupNames", spec := "rupNames", unfollowed := true, recurses := true, named := ["internal/strconv.uint64pow10", "math/bits.deBruijn32tab", "math/bits.deBruijn64tab"], apart := false, laid := [("math/bits.deBruijn32tab", laid_math_bits_deBruijn32tab), ("math/bits.deBruijn64tab", laid_math_bits_deBruijn64tab), ("internal/strconv.uint64pow10", laid_internal_strconv_uint64pow10)], narrowed := true }
def RupNamesUptoSaid : Prop := rupNamesUptoRow.holds Tryd.pinned (OpenSpec.upto rupNamesSpec)

/-- 'weepholelaw05.RupSound', WHERE WHAT IT READS IS OF BULK AT MOST 1048576: true; the input reads as it did. -/
def rupSoundUptoRow : OpenClaim := { program := "ytfhodbnhaaiceaadoor", sum := "557cf13a6ab2f56c6dda21d756d30efa935973b40af1aa97762f38e01dfdffc4", func := "weephole/weepholelaw05.RupSound", spec := "rupSound", unfollowed := true, recurses := true, named := ["internal/strconv.uint64pow10", "math/bits.deBruijn32tab", "math/bits.deBruijn64tab"], apart := false, laid := [("math/bits.deBruijn32tab", laid_math_bits_deBruijn32tab), ("math/bits.deBruijn64tab", laid_math_bits_deBruijn64tab), ("internal/strconv.uint64pow10", laid_internal_strconv_uint64pow10)], narrowed := true }
def RupSoundUptoSaid : Prop := rupSoundUptoRow.holds Tryd.pinned (OpenSpec.upto rupSoundSpec)

/-- 'weepholelaw05.RupOwn', WHERE WHAT IT READS IS OF BULK AT MOST 1048576: true; the input reads as it did. -/
def rupOwnUptoRow : OpenClaim := { program := "ytfhodbnhaaiceaadoor", sum := "557cf13a6ab2f56c6dda21d756d30efa935973b40af1aa97762f38e01dfdffc4", func := "weephole/weepholelaw05.RupOwn", spec := "rupOwn", unfollowed := true, recurses := true, named := ["internal/strconv.uint64pow10", "math/bits.deBruijn32tab", "math/bits.deBruijn64tab"], apart := false, laid := [("math/bits.deBruijn32tab", laid_math_bits_deBruijn32tab), ("math/bits.deBruijn64tab", laid_math_bits_deBruijn64tab), ("internal/strconv.uint64pow10", laid_internal_strconv_uint64pow10)], narrowed := true }
def RupOwnUptoSaid : Prop := rupOwnUptoRow.holds Tryd.pinned (OpenSpec.upto rupOwnSpec)

/-- 'weepholelaw05.RupMore', WHERE WHAT IT READS IS OF BULK AT MOST 1048576: true; the input reads as it did. -/
def rupMoreUptoRow : OpenClaim := { program := "ytfhodbnhaaiceaadoor", sum := "557cf13a6ab2f56c6dda21d756d30efa935973b40af1aa97762f38e01dfdffc4", func := "weephole/weepholelaw05.RupMore", spec := "rupMore", unfollowed := true, recurses := true, named := ["internal/strconv.uint64pow10", "math/bits.deBruijn32tab", "math/bits.deBruijn64tab"], apart := false, laid := [("math/bits.deBruijn32tab", laid_math_bits_deBruijn32tab), ("math/bits.deBruijn64tab", laid_math_bits_deBruijn64tab), ("internal/strconv.uint64pow10", laid_internal_strconv_uint64pow10)], narrowed := true }
def RupMoreUptoSaid : Prop := rupMoreUptoRow.holds Tryd.pinned (OpenSpec.upto rupMoreSpec)

/-- 'weepholelaw05.RupPrefix', WHERE WHAT IT READS IS OF BULK AT MOST 1048576: true; the input reads as it did. -/
def rupPrefixUptoRow : OpenClaim := { program := "ytfhodbnhaaiceaadoor", sum := "557cf13a6ab2f56c6dda21d756d30efa935973b40af1aa97762f38e01dfdffc4", func := "weephole/weepholelaw05.RupPrefix", spec := "rupPrefix", unfollowed := true, recurses := true, named := ["internal/strconv.uint64pow10", "math/bits.deBruijn32tab", "math/bits.deBruijn64tab"], apart := false, laid := [("math/bits.deBruijn32tab", laid_math_bits_deBruijn32tab), ("math/bits.deBruijn64tab", laid_math_bits_deBruijn64tab), ("internal/strconv.uint64pow10", laid_internal_strconv_uint64pow10)], narrowed := true }
def RupPrefixUptoSaid : Prop := rupPrefixUptoRow.holds Tryd.pinned (OpenSpec.upto rupPrefixSpec)

/-- 'weepholelaw05.RupEmpty', WHERE WHAT IT READS IS OF BULK AT MOST 1048576: true; the input reads as it did. -/
def rupEmptyUptoRow : OpenClaim := { program := "ytfhodbnhaaiceaadoor", sum := "557cf13a6ab2f56c6dda21d756d30efa935973b40af1aa97762f38e01dfdffc4", func := "weephole/weepholelaw05.RupEmpty", spec := "rupEmpty", unfollowed := true, recurses := true, named := ["internal/strconv.uint64pow10", "math/bits.deBruijn32tab", "math/bits.deBruijn64tab"], apart := false, laid := [("math/bits.deBruijn32tab", laid_math_bits_deBruijn32tab), ("math/bits.deBruijn64tab", laid_math_bits_deBruijn64tab), ("internal/strconv.uint64pow10", laid_internal_strconv_uint64pow10)], narrowed := true }
def RupEmptyUptoSaid : Prop := rupEmptyUptoRow.holds Tryd.pinned (OpenSpec.upto rupEmptySpec)

end Rows
end Go.Proofs.YtfhodbnhaaiceaaDoor
