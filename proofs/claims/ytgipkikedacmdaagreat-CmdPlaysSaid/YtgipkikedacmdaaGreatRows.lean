/-
  No cell of these rows narrows 'for every input' (looked for: loops, veiled, ifaces, maps, wideKeys, modest, calm, conditions, laid).
  DERIVED. THE GIVEN ROWS OF THIS SEAT. 6 by the template 'for every input the law returns true; each argument reads behind the call as it read before'; 0 by the template 'total and deterministic' (their statements: YtgipkikedacmdaaGreatTotals.lean).
  GIVEN WITH THE SEED: the statements are not yours to turn. If you find one false, say at which input.
  Laid BY PROGRAM, IN A SANDBOX (cutbox-rows.mjs): the forced cells as the released guide's own fill.sh prints them over the translation 524ae4cfc27793a0… (all of the seat's roots in one cut). By AI agents, Wed Nov 11 2026. No macro, syntax, notation, axiom, sorry.
-/
import Derived.Test.YtgipkikedacmdaaGreatChecked
import GoSem.Claim
import GoSem.ClaimJoined
import GoSem.ClaimMapViews
import Derived.JoinedTies
import Derived.KernelRfl
namespace Go.Proofs.YtgipkikedacmdaaGreat
/- THE CELL 'sum', in the pinned program and in every row, IS THE sha256 OF THE DUMP (.gsa) THAT YtgipkikedacmdaaGreatProg.lean LOADS. Nothing in Lean hashes anything: it is a label: what it is worth is what the hold of that sum in a sandbox is worth. -/
noncomputable def Tryz.pinned : Pinned := { name := "ytgipkikedacmdaagreat", sum := "524ae4cfc27793a08b2c91d7558458c096146559df514a7c3c8ed16d28d17031", checked := Tryz.checked }
namespace Rows
def none {H : Type} : Left H := { results := [], args := [] }

/-- 'folkmootlaw09.CmdChecks': WHATEVER THE INPUT: true; the input reads as it did. -/
def cmdChecksSpec : ChangeSpec := { name := "cmdChecks", fn := fun _ => fun
  | [d1, d2] => { results := [.lit (.bool true)], args := [d1, d2] }
  | _ => none }
def cmdChecksRow : OpenClaim := { program := "ytgipkikedacmdaagreat", sum := "524ae4cfc27793a08b2c91d7558458c096146559df514a7c3c8ed16d28d17031", func := "folkmoot/folkmootlaw09.CmdChecks", spec := "cmdChecks", inPlace := ["math.Float64frombits"], unfollowed := true, recurses := true, plainKeys := false, apart := false }
def CmdChecksSaid : Prop := cmdChecksRow.holds Tryz.pinned (OpenSpec.ofChange cmdChecksSpec)

/-- ITS FALSE NEIGHBOUR: 'it returns false'. Refute it at one input. -/
def cmdChecksWrong : ChangeSpec := { name := "cmdChecks", fn := fun _ => fun
  | [d1, d2] => { results := [.lit (.bool false)], args := [d1, d2] }
  | _ => none }
def CmdChecksWrongFalsely : Prop := cmdChecksRow.holds Tryz.pinned (OpenSpec.ofChange cmdChecksWrong)

/-- 'folkmootlaw09.CmdPlays': WHATEVER THE INPUT: true; the input reads as it did. -/
def cmdPlaysSpec : ChangeSpec := { name := "cmdPlays", fn := fun _ => fun
  | [d1, d2] => { results := [.lit (.bool true)], args := [d1, d2] }
  | _ => none }
def cmdPlaysRow : OpenClaim := { program := "ytgipkikedacmdaagreat", sum := "524ae4cfc27793a08b2c91d7558458c096146559df514a7c3c8ed16d28d17031", func := "folkmoot/folkmootlaw09.CmdPlays", spec := "cmdPlays", inPlace := ["math.Float64frombits"], unfollowed := true, recurses := true, plainKeys := false, apart := false }
def CmdPlaysSaid : Prop := cmdPlaysRow.holds Tryz.pinned (OpenSpec.ofChange cmdPlaysSpec)

/-- ITS FALSE NEIGHBOUR: 'it returns false'. Refute it at one input. -/
def cmdPlaysWrong : ChangeSpec := { name := "cmdPlays", fn := fun _ => fun
  | [d1, d2] => { results := [.lit (.bool false)], args := [d1, d2] }
  | _ => none }
def CmdPlaysWrongFalsely : Prop := cmdPlaysRow.holds Tryz.pinned (OpenSpec.ofChange cmdPlaysWrong)

/-- 'folkmootlaw09.CmdGrows': WHATEVER THE INPUT: true; the input reads as it did. -/
def cmdGrowsSpec : ChangeSpec := { name := "cmdGrows", fn := fun _ => fun
  | [d1, d2] => { results := [.lit (.bool true)], args := [d1, d2] }
  | _ => none }
def cmdGrowsRow : OpenClaim := { program := "ytgipkikedacmdaagreat", sum := "524ae4cfc27793a08b2c91d7558458c096146559df514a7c3c8ed16d28d17031", func := "folkmoot/folkmootlaw09.CmdGrows", spec := "cmdGrows", inPlace := ["math.Float64frombits"], unfollowed := true, recurses := true, plainKeys := false, apart := false }
def CmdGrowsSaid : Prop := cmdGrowsRow.holds Tryz.pinned (OpenSpec.ofChange cmdGrowsSpec)

/-- ITS FALSE NEIGHBOUR: 'it returns false'. Refute it at one input. -/
def cmdGrowsWrong : ChangeSpec := { name := "cmdGrows", fn := fun _ => fun
  | [d1, d2] => { results := [.lit (.bool false)], args := [d1, d2] }
  | _ => none }
def CmdGrowsWrongFalsely : Prop := cmdGrowsRow.holds Tryz.pinned (OpenSpec.ofChange cmdGrowsWrong)

/-- 'folkmootlaw13.WirePuts': WHATEVER THE INPUT: true; the input reads as it did. -/
def wirePutsSpec : ChangeSpec := { name := "wirePuts", fn := fun _ => fun
  | [d1, d2] => { results := [.lit (.bool true)], args := [d1, d2] }
  | _ => none }
def wirePutsRow : OpenClaim := { program := "ytgipkikedacmdaagreat", sum := "524ae4cfc27793a08b2c91d7558458c096146559df514a7c3c8ed16d28d17031", func := "folkmoot/folkmootlaw13.WirePuts", spec := "wirePuts", inPlace := ["math.Float64frombits"], unfollowed := true, recurses := true, plainKeys := false, apart := false }
def WirePutsSaid : Prop := wirePutsRow.holds Tryz.pinned (OpenSpec.ofChange wirePutsSpec)

/-- ITS FALSE NEIGHBOUR: 'it returns false'. Refute it at one input. -/
def wirePutsWrong : ChangeSpec := { name := "wirePuts", fn := fun _ => fun
  | [d1, d2] => { results := [.lit (.bool false)], args := [d1, d2] }
  | _ => none }
def WirePutsWrongFalsely : Prop := wirePutsRow.holds Tryz.pinned (OpenSpec.ofChange wirePutsWrong)

/-- 'folkmootlaw13.WireBack': WHATEVER THE INPUT: true; the input reads as it did. -/
def wireBackSpec : ChangeSpec := { name := "wireBack", fn := fun _ => fun
  | [d1, d2, d3, d4] => { results := [.lit (.bool true)], args := [d1, d2, d3, d4] }
  | _ => none }
def wireBackRow : OpenClaim := { program := "ytgipkikedacmdaagreat", sum := "524ae4cfc27793a08b2c91d7558458c096146559df514a7c3c8ed16d28d17031", func := "folkmoot/folkmootlaw13.WireBack", spec := "wireBack", inPlace := ["math.Float64frombits"], unfollowed := true, recurses := true, plainKeys := false, apart := false }
def WireBackSaid : Prop := wireBackRow.holds Tryz.pinned (OpenSpec.ofChange wireBackSpec)

/-- ITS FALSE NEIGHBOUR: 'it returns false'. Refute it at one input. -/
def wireBackWrong : ChangeSpec := { name := "wireBack", fn := fun _ => fun
  | [d1, d2, d3, d4] => { results := [.lit (.bool false)], args := [d1, d2, d3, d4] }
  | _ => none }
def WireBackWrongFalsely : Prop := wireBackRow.holds Tryz.pinned (OpenSpec.ofChange wireBackWrong)

/-- 'folkmootlaw13.WireUnlike': WHATEVER THE INPUT: true; the input reads as it did. -/
def wireUnlikeSpec : ChangeSpec := { name := "wireUnlike", fn := fun _ => fun
  | [d1, d2] => { results := [.lit (.bool true)], args := [d1, d2] }
  | _ => none }
def wireUnlikeRow : OpenClaim := { program := "ytgipkikedacmdaagreat", sum := "524ae4cfc27793a08b2c91d7558458c096146559df514a7c3c8ed16d28d17031", func := "folkmoot/folkmootlaw13.WireUnlike", spec := "wireUnlike", inPlace := ["math.Float64frombits"], unfollowed := true, recurses := true, plainKeys := false, apart := false }
def WireUnlikeSaid : Prop := wireUnlikeRow.holds Tryz.pinned (OpenSpec.ofChange wireUnlikeSpec)

/-- ITS FALSE NEIGHBOUR: 'it returns false'. Refute it at one input. -/
def wireUnlikeWrong : ChangeSpec := { name := "wireUnlike", fn := fun _ => fun
  | [d1, d2] => { results := [.lit (.bool false)], args := [d1, d2] }
  | _ => none }
def WireUnlikeWrongFalsely : Prop := wireUnlikeRow.holds Tryz.pinned (OpenSpec.ofChange wireUnlikeWrong)

/- THE SECOND FORM. 'bulk': how many values and letters a reading holds, each counted each time it is reached (what is shared counts as often as it is met; a slice's spare places count too). A statement '..UptoSaid' is the law's where the arguments, and the package variables that the reading takes, are together of bulk at most 1048576: NARROWER than '..Said'. Prove '..Said' where nothing that the law and all that it calls make is longer than what came in: it says more and counts as full. Else prove '..UptoSaid'. A law counts once. -/
mutual
def uptoBulk {H : Type} : DataW H → Nat
  | .lit (.string bytes) => bytes.length + 1
  | .lit _ => 1
  | .nil => 1
  | .ptr d => uptoBulk d + 1
  | .slice elems spare => uptoBulkAll elems + uptoBulkAll spare + 1
  | .agg parts => uptoBulkAll parts + 1
  | .iface _ d => uptoBulk d + 1
  | .map entries => uptoBulkEntries entries + 1
  | .held _ => 1
def uptoBulkAll {H : Type} : List (DataW H) → Nat
  | [] => 0
  | d :: r => uptoBulk d + uptoBulkAll r
def uptoBulkEntries {H : Type} : List (Lit × DataW H) → Nat
  | [] => 0
  | x :: r => uptoBulkEntry x + uptoBulkEntries r
def uptoBulkEntry {H : Type} : Lit × DataW H → Nat
  | (.string bytes, d) => bytes.length + uptoBulk d + 1
  | (_, d) => uptoBulk d + 1
 end
def uptoSmall : (H : Type) → List (DataW H) → Bool := fun _ ds => decide (uptoBulkAll ds ≤ 1048576)
def OpenSpec.upto (s : _root_.Go.ChangeSpec) : _root_.Go.OpenSpec := { _root_.Go.OpenSpec.ofChange s with cond := some uptoSmall }

/-- 'folkmootlaw09.CmdChecks', WHERE WHAT IT READS IS OF BULK AT MOST 1048576: true; the input reads as it did. -/
def cmdChecksUptoRow : OpenClaim := { program := "ytgipkikedacmdaagreat", sum := "524ae4cfc27793a08b2c91d7558458c096146559df514a7c3c8ed16d28d17031", func := "folkmoot/folkmootlaw09.CmdChecks", spec := "cmdChecks", inPlace := ["math.Float64frombits"], unfollowed := true, recurses := true, plainKeys := false, apart := false, narrowed := true }
def CmdChecksUptoSaid : Prop := cmdChecksUptoRow.holds Tryz.pinned (OpenSpec.upto cmdChecksSpec)

/-- 'folkmootlaw09.CmdPlays', WHERE WHAT IT READS IS OF BULK AT MOST 1048576: true; the input reads as it did. -/
def cmdPlaysUptoRow : OpenClaim := { program := "ytgipkikedacmdaagreat", sum := "524ae4cfc27793a08b2c91d7558458c096146559df514a7c3c8ed16d28d17031", func := "folkmoot/folkmootlaw09.CmdPlays", spec := "cmdPlays", inPlace := ["math.Float64frombits"], unfollowed := true, recurses := true, plainKeys := false, apart := false, narrowed := true }
def CmdPlaysUptoSaid : Prop := cmdPlaysUptoRow.holds Tryz.pinned (OpenSpec.upto cmdPlaysSpec)

/-- 'folkmootlaw09.CmdGrows', WHERE WHAT IT READS IS OF BULK AT MOST 1048576: true; the input reads as it did. -/
def cmdGrowsUptoRow : OpenClaim := { program := "ytgipkikedacmdaagreat", sum := "524ae4cfc27793a08b2c91d7558458c096146559df514a7c3c8ed16d28d17031", func := "folkmoot/folkmootlaw09.CmdGrows", spec := "cmdGrows", inPlace := ["math.Float64frombits"], unfollowed := true, recurses := true, plainKeys := false, apart := false, narrowed := true }
def CmdGrowsUptoSaid : Prop := cmdGrowsUptoRow.holds Tryz.pinned (OpenSpec.upto cmdGrowsSpec)

/-- 'folkmootlaw13.WirePuts', WHERE WHAT IT READS IS OF BULK AT MOST 1048576: true; the input reads as it did. -/
def wirePutsUptoRow : OpenClaim := { program := "ytgipkikedacmdaagreat", sum := "524ae4cfc27793a08b2c91d7558458c096146559df514a7c3c8ed16d28d17031", func := "folkmoot/folkmootlaw13.WirePuts", spec := "wirePuts", inPlace := ["math.Float64frombits"], unfollowed := true, recurses := true, plainKeys := false, apart := false, narrowed := true }
def WirePutsUptoSaid : Prop := wirePutsUptoRow.holds Tryz.pinned (OpenSpec.upto wirePutsSpec)

/-- 'folkmootlaw13.WireBack', WHERE WHAT IT READS IS OF BULK AT MOST 1048576: true; the input reads as it did. -/
def wireBackUptoRow : OpenClaim := { program := "ytgipkikedacmdaagreat", sum := "524ae4cfc27793a08b2c91d7558458c096146559df514a7c3c8ed16d28d17031", func := "folkmoot/folkmootlaw13.WireBack", spec := "wireBack", inPlace := ["math.Float64frombits"], unfollowed := true, recurses := true, plainKeys := false, apart := false, narrowed := true }
def WireBackUptoSaid : Prop := wireBackUptoRow.holds Tryz.pinned (OpenSpec.upto wireBackSpec)

/-- 'folkmootlaw13.WireUnlike', WHERE WHAT IT READS IS OF BULK AT MOST 1048576: true; the input reads as it did. -/
def wireUnlikeUptoRow : OpenClaim := { program := "ytgipkikedacmdaagreat", sum := "524ae4cfc27793a08b2c91d7558458c096146559df514a7c3c8ed16d28d17031", func := "folkmoot/folkmootlaw13.WireUnlike", spec := "wireUnlike", inPlace := ["math.Float64frombits"], unfollowed := true, recurses := true, plainKeys := false, apart := false, narrowed := true }
def WireUnlikeUptoSaid : Prop := wireUnlikeUptoRow.holds Tryz.pinned (OpenSpec.upto wireUnlikeSpec)

end Rows
end Go.Proofs.YtgipkikedacmdaaGreat
