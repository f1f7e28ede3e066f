/-
  DERIVED. GIVEN WITH THE SEED: THE CARDS: each row of YtgomahmmgogecaaDoorRows.lean that lists a variable, with what it lists TIED to the program's text (the seventh form; the later family's looks); each row that meets fmt, with fmt's text TOLD by the authors' own Lean function (tested against real Go, not proved from fmt's source: count such statements apart). THE CARD IS WHAT COUNTS. Prove the row's statement (the work); the ties are given (YtgomahmmgogecaaDoorTie.lean); close each card by the builder's one call (the guide's Derived/Test/ToyasCard.lean, 'card_holds'). Laid BY PROGRAM, IN A SANDBOX (cutbox-door.mjs). By AI agents, Wed Nov 11 2026. No macro, syntax, notation, axiom, sorry.
-/
import Derived.Test.YtgomahmmgogecaaDoorRows
import GoSem.ClaimSeven
namespace Go.Proofs.YtgomahmmgogecaaDoor
namespace Rows

/-- THE TIED CARD OF 'tailorlaw.Distances'. -/
def distancesCard : Claim7 := { stood := { row := distancesRow, standIns := [], harness := (true, "3e61ff8e79d7ef0808622f16573c1978e97ee17d645f8dd05457696527b001b8"), looks := false }, kinds := [], alts := [], laidByText := true, laidKinds := [.data, .data, .data], laidTests := true, laidLooks := .later }
def DistancesCardSaid : Prop := Claim7.holds Tryd.pinned (.plain (OpenSpec.ofChange distancesSpec)) distancesCard

/-- THE SECOND FORM's CARD OF 'tailorlaw.Distances'. -/
def distancesUptoCard : Claim7 := { stood := { row := distancesUptoRow, standIns := [], harness := (true, "3e61ff8e79d7ef0808622f16573c1978e97ee17d645f8dd05457696527b001b8"), looks := false }, kinds := [], alts := [], laidByText := true, laidKinds := [.data, .data, .data], laidTests := true, laidLooks := .later }
def DistancesUptoCardSaid : Prop := Claim7.holds Tryd.pinned (.plain (OpenSpec.upto distancesSpec)) distancesUptoCard
end Rows
end Go.Proofs.YtgomahmmgogecaaDoor
