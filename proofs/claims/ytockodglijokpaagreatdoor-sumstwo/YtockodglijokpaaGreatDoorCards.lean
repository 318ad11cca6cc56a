/-
  DERIVED. GIVEN WITH THE SEED: THE CARDS: each row of YtockodglijokpaaGreatDoorRows.lean that lists a variable, with what it lists TIED to the program's text (the seventh form; the later family's looks); each row that meets fmt, with fmt's text TOLD by the authors' own Lean function (tested against real Go, not proved from fmt's source: count such statements apart). THE CARD IS WHAT COUNTS. Prove the row's statement (the work); the ties are given (YtockodglijokpaaGreatDoorTie.lean); close each card by the builder's one call (the guide's Derived/Test/ToyasCard.lean, 'card_holds'). Laid BY PROGRAM, IN A SANDBOX (cutbox-door.mjs). By AI agents, Wed Nov 11 2026. No macro, syntax, notation, axiom, sorry.
-/
import Derived.Test.YtockodglijokpaaGreatDoorRows
import GoSem.ClaimSeven
namespace Go.Proofs.YtockodglijokpaaGreatDoor
namespace Rows

/-- THE TIED CARD OF 'girderlaw06.SumsTwo'. -/
def sumsTwoCard : Claim7 := { stood := { row := sumsTwoRow, standIns := [], harness := (true, "b0fd608b141375d6a331aa6d204d656c0fd7fe7431babc4a56aa3bd106dc56b6"), looks := false }, kinds := [], alts := [], laidByText := true, laidKinds := [.data], laidTests := true, laidLooks := .later }
def SumsTwoCardSaid : Prop := Claim7.holds Tryz.pinned (.plain (OpenSpec.ofChange sumsTwoSpec)) sumsTwoCard

/-- THE TIED CARD OF 'girderlaw06.SumsExact'. -/
def sumsExactCard : Claim7 := { stood := { row := sumsExactRow, standIns := [], harness := (true, "b0fd608b141375d6a331aa6d204d656c0fd7fe7431babc4a56aa3bd106dc56b6"), looks := false }, kinds := [], alts := [], laidByText := true, laidKinds := [.data], laidTests := true, laidLooks := .later }
def SumsExactCardSaid : Prop := Claim7.holds Tryz.pinned (.plain (OpenSpec.ofChange sumsExactSpec)) sumsExactCard

/-- THE TIED CARD OF 'girderlaw06.SumsDots'. -/
def sumsDotsCard : Claim7 := { stood := { row := sumsDotsRow, standIns := [], harness := (true, "b0fd608b141375d6a331aa6d204d656c0fd7fe7431babc4a56aa3bd106dc56b6"), looks := false }, kinds := [], alts := [], laidByText := true, laidKinds := [.data], laidTests := true, laidLooks := .later }
def SumsDotsCardSaid : Prop := Claim7.holds Tryz.pinned (.plain (OpenSpec.ofChange sumsDotsSpec)) sumsDotsCard

/-- THE TIED CARD OF 'girderlaw06.SumsKeeps'. -/
def sumsKeepsCard : Claim7 := { stood := { row := sumsKeepsRow, standIns := [], harness := (true, "b0fd608b141375d6a331aa6d204d656c0fd7fe7431babc4a56aa3bd106dc56b6"), looks := false }, kinds := [], alts := [], laidByText := true, laidKinds := [.data], laidTests := true, laidLooks := .later }
def SumsKeepsCardSaid : Prop := Claim7.holds Tryz.pinned (.plain (OpenSpec.ofChange sumsKeepsSpec)) sumsKeepsCard

/-- THE TIED CARD OF 'girderlaw06.SumsEdges'. -/
def sumsEdgesCard : Claim7 := { stood := { row := sumsEdgesRow, standIns := [], harness := (true, "b0fd608b141375d6a331aa6d204d656c0fd7fe7431babc4a56aa3bd106dc56b6"), looks := false }, kinds := [], alts := [], laidByText := true, laidKinds := [.data], laidTests := true, laidLooks := .later }
def SumsEdgesCardSaid : Prop := Claim7.holds Tryz.pinned (.plain (OpenSpec.ofChange sumsEdgesSpec)) sumsEdgesCard

/-- THE SECOND FORM's CARD OF 'girderlaw06.SumsTwo'. -/
def sumsTwoUptoCard : Claim7 := { stood := { row := sumsTwoUptoRow, standIns := [], harness := (true, "b0fd608b141375d6a331aa6d204d656c0fd7fe7431babc4a56aa3bd106dc56b6"), looks := false }, kinds := [], alts := [], laidByText := true, laidKinds := [.data], laidTests := true, laidLooks := .later }
def SumsTwoUptoCardSaid : Prop := Claim7.holds Tryz.pinned (.plain (OpenSpec.upto sumsTwoSpec)) sumsTwoUptoCard

/-- THE SECOND FORM's CARD OF 'girderlaw06.SumsExact'. -/
def sumsExactUptoCard : Claim7 := { stood := { row := sumsExactUptoRow, standIns := [], harness := (true, "b0fd608b141375d6a331aa6d204d656c0fd7fe7431babc4a56aa3bd106dc56b6"), looks := false }, kinds := [], alts := [], laidByText := true, laidKinds := [.data], laidTests := true, laidLooks := .later }
def SumsExactUptoCardSaid : Prop := Claim7.holds Tryz.pinned (.plain (OpenSpec.upto sumsExactSpec)) sumsExactUptoCard

/-- THE SECOND FORM's CARD OF 'girderlaw06.SumsDots'. -/
def sumsDotsUptoCard : Claim7 := { stood := { row := sumsDotsUptoRow, standIns := [], harness := (true, "b0fd608b141375d6a331aa6d204d656c0fd7fe7431babc4a56aa3bd106dc56b6"), looks := false }, kinds := [], alts := [], laidByText := true, laidKinds := [.data], laidTests := true, laidLooks := .later }
def SumsDotsUptoCardSaid : Prop := Claim7.holds Tryz.pinned (.plain (OpenSpec.upto sumsDotsSpec)) sumsDotsUptoCard

/-- THE SECOND FORM's CARD OF 'girderlaw06.SumsKeeps'. -/
def sumsKeepsUptoCard : Claim7 := { stood := { row := sumsKeepsUptoRow, standIns := [], harness := (true, "b0fd608b141375d6a331aa6d204d656c0fd7fe7431babc4a56aa3bd106dc56b6"), looks := false }, kinds := [], alts := [], laidByText := true, laidKinds := [.data], laidTests := true, laidLooks := .later }
def SumsKeepsUptoCardSaid : Prop := Claim7.holds Tryz.pinned (.plain (OpenSpec.upto sumsKeepsSpec)) sumsKeepsUptoCard

/-- THE SECOND FORM's CARD OF 'girderlaw06.SumsEdges'. -/
def sumsEdgesUptoCard : Claim7 := { stood := { row := sumsEdgesUptoRow, standIns := [], harness := (true, "b0fd608b141375d6a331aa6d204d656c0fd7fe7431babc4a56aa3bd106dc56b6"), looks := false }, kinds := [], alts := [], laidByText := true, laidKinds := [.data], laidTests := true, laidLooks := .later }
def SumsEdgesUptoCardSaid : Prop := Claim7.holds Tryz.pinned (.plain (OpenSpec.upto sumsEdgesSpec)) sumsEdgesUptoCard
end Rows
end Go.Proofs.YtockodglijokpaaGreatDoor
