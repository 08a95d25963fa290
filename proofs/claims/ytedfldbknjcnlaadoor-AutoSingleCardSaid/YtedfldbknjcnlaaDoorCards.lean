/-
  DERIVED. GIVEN WITH THE SEED: THE CARDS: each row of YtedfldbknjcnlaaDoorRows.lean that lists a variable, with what it lists TIED to the program's text (the seventh form; the later family's looks); each row that meets fmt, with fmt's text TOLD by the authors' own Lean function (tested against real Go, not proved from fmt's source: count such statements apart). THE CARD IS WHAT COUNTS. Prove the row's statement (the work); the ties are given (YtedfldbknjcnlaaDoorTie.lean); close each card by the builder's one call (the guide's Derived/Test/ToyasCard.lean, 'card_holds'). Laid BY PROGRAM, IN A SANDBOX (cutbox-door.mjs). By AI agents, Wed Nov 11 2026. No macro, syntax, notation, axiom, sorry.
-/
import Derived.Test.YtedfldbknjcnlaaDoorRows
import GoSem.ClaimSeven
namespace Go.Proofs.YtedfldbknjcnlaaDoor
namespace Rows

/-- THE TIED CARD OF 'boskagelaw03.AutoFacts'. -/
def autoFactsCard : Claim7 := { stood := { row := autoFactsRow, standIns := [], harness := (true, "9a88a3d69f40339572187f89316f5d4bd45c71bb86463f2eaf0197cd599a7001"), looks := false }, kinds := [], alts := [], laidByText := true, laidKinds := [.widerDeep], laidTests := true, laidLooks := .later }
def AutoFactsCardSaid : Prop := Claim7.holds Tryd.pinned (.plain (OpenSpec.ofChange autoFactsSpec)) autoFactsCard

/-- THE TIED CARD OF 'boskagelaw03.AutoAccepts'. -/
def autoAcceptsCard : Claim7 := { stood := { row := autoAcceptsRow, standIns := [], harness := (true, "9a88a3d69f40339572187f89316f5d4bd45c71bb86463f2eaf0197cd599a7001"), looks := false }, kinds := [], alts := [], laidByText := true, laidKinds := [.data, .widerDeep], laidTests := true, laidLooks := .later }
def AutoAcceptsCardSaid : Prop := Claim7.holds Tryd.pinned (.plain (OpenSpec.ofChange autoAcceptsSpec)) autoAcceptsCard

/-- THE TIED CARD OF 'boskagelaw03.AutoRuns'. -/
def autoRunsCard : Claim7 := { stood := { row := autoRunsRow, standIns := [], harness := (true, "9a88a3d69f40339572187f89316f5d4bd45c71bb86463f2eaf0197cd599a7001"), looks := false }, kinds := [], alts := [], laidByText := true, laidKinds := [.widerDeep], laidTests := true, laidLooks := .later }
def AutoRunsCardSaid : Prop := Claim7.holds Tryd.pinned (.plain (OpenSpec.ofChange autoRunsSpec)) autoRunsCard

/-- THE TIED CARD OF 'boskagelaw03.AutoTrims'. -/
def autoTrimsCard : Claim7 := { stood := { row := autoTrimsRow, standIns := [], harness := (true, "9a88a3d69f40339572187f89316f5d4bd45c71bb86463f2eaf0197cd599a7001"), looks := false }, kinds := [], alts := [], laidByText := true, laidKinds := [.widerDeep], laidTests := true, laidLooks := .later }
def AutoTrimsCardSaid : Prop := Claim7.holds Tryd.pinned (.plain (OpenSpec.ofChange autoTrimsSpec)) autoTrimsCard

/-- THE TIED CARD OF 'boskagelaw03.AutoSingle'. -/
def autoSingleCard : Claim7 := { stood := { row := autoSingleRow, standIns := [], harness := (true, "9a88a3d69f40339572187f89316f5d4bd45c71bb86463f2eaf0197cd599a7001"), looks := false }, kinds := [], alts := [], laidByText := true, laidKinds := [.widerDeep], laidTests := true, laidLooks := .later }
def AutoSingleCardSaid : Prop := Claim7.holds Tryd.pinned (.plain (OpenSpec.ofChange autoSingleSpec)) autoSingleCard

/-- THE TIED CARD OF 'boskagelaw03.AutoMeans'. -/
def autoMeansCard : Claim7 := { stood := { row := autoMeansRow, standIns := [], harness := (true, "9a88a3d69f40339572187f89316f5d4bd45c71bb86463f2eaf0197cd599a7001"), looks := false }, kinds := [], alts := [], laidByText := true, laidKinds := [.data, .widerDeep], laidTests := true, laidLooks := .later }
def AutoMeansCardSaid : Prop := Claim7.holds Tryd.pinned (.plain (OpenSpec.ofChange autoMeansSpec)) autoMeansCard

/-- THE SECOND FORM's CARD OF 'boskagelaw03.AutoFacts'. -/
def autoFactsUptoCard : Claim7 := { stood := { row := autoFactsUptoRow, standIns := [], harness := (true, "9a88a3d69f40339572187f89316f5d4bd45c71bb86463f2eaf0197cd599a7001"), looks := false }, kinds := [], alts := [], laidByText := true, laidKinds := [.widerDeep], laidTests := true, laidLooks := .later }
def AutoFactsUptoCardSaid : Prop := Claim7.holds Tryd.pinned (.plain (OpenSpec.upto autoFactsSpec)) autoFactsUptoCard

/-- THE SECOND FORM's CARD OF 'boskagelaw03.AutoAccepts'. -/
def autoAcceptsUptoCard : Claim7 := { stood := { row := autoAcceptsUptoRow, standIns := [], harness := (true, "9a88a3d69f40339572187f89316f5d4bd45c71bb86463f2eaf0197cd599a7001"), looks := false }, kinds := [], alts := [], laidByText := true, laidKinds := [.data, .widerDeep], laidTests := true, laidLooks := .later }
def AutoAcceptsUptoCardSaid : Prop := Claim7.holds Tryd.pinned (.plain (OpenSpec.upto autoAcceptsSpec)) autoAcceptsUptoCard

/-- THE SECOND FORM's CARD OF 'boskagelaw03.AutoRuns'. -/
def autoRunsUptoCard : Claim7 := { stood := { row := autoRunsUptoRow, standIns := [], harness := (true, "9a88a3d69f40339572187f89316f5d4bd45c71bb86463f2eaf0197cd599a7001"), looks := false }, kinds := [], alts := [], laidByText := true, laidKinds := [.widerDeep], laidTests := true, laidLooks := .later }
def AutoRunsUptoCardSaid : Prop := Claim7.holds Tryd.pinned (.plain (OpenSpec.upto autoRunsSpec)) autoRunsUptoCard

/-- THE SECOND FORM's CARD OF 'boskagelaw03.AutoTrims'. -/
def autoTrimsUptoCard : Claim7 := { stood := { row := autoTrimsUptoRow, standIns := [], harness := (true, "9a88a3d69f40339572187f89316f5d4bd45c71bb86463f2eaf0197cd599a7001"), looks := false }, kinds := [], alts := [], laidByText := true, laidKinds := [.widerDeep], laidTests := true, laidLooks := .later }
def AutoTrimsUptoCardSaid : Prop := Claim7.holds Tryd.pinned (.plain (OpenSpec.upto autoTrimsSpec)) autoTrimsUptoCard

/-- THE SECOND FORM's CARD OF 'boskagelaw03.AutoSingle'. -/
def autoSingleUptoCard : Claim7 := { stood := { row := autoSingleUptoRow, standIns := [], harness := (true, "9a88a3d69f40339572187f89316f5d4bd45c71bb86463f2eaf0197cd599a7001"), looks := false }, kinds := [], alts := [], laidByText := true, laidKinds := [.widerDeep], laidTests := true, laidLooks := .later }
def AutoSingleUptoCardSaid : Prop := Claim7.holds Tryd.pinned (.plain (OpenSpec.upto autoSingleSpec)) autoSingleUptoCard

/-- THE SECOND FORM's CARD OF 'boskagelaw03.AutoMeans'. -/
def autoMeansUptoCard : Claim7 := { stood := { row := autoMeansUptoRow, standIns := [], harness := (true, "9a88a3d69f40339572187f89316f5d4bd45c71bb86463f2eaf0197cd599a7001"), looks := false }, kinds := [], alts := [], laidByText := true, laidKinds := [.data, .widerDeep], laidTests := true, laidLooks := .later }
def AutoMeansUptoCardSaid : Prop := Claim7.holds Tryd.pinned (.plain (OpenSpec.upto autoMeansSpec)) autoMeansUptoCard
end Rows
end Go.Proofs.YtedfldbknjcnlaaDoor
