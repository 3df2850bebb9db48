/-
  DERIVED. GIVEN WITH THE SEED: THE CARDS: each row of YtblnhcnfeagjhaaGreatDoorRows.lean that lists a variable, with what it lists TIED to the program's text (the seventh form; the later family's looks); each row that meets fmt, with fmt's text TOLD by the authors' own Lean function (tested against real Go, not proved from fmt's source: count such statements apart). THE CARD IS WHAT COUNTS. Prove the row's statement (the work); the ties are given (YtblnhcnfeagjhaaGreatDoorTie.lean); close each card by the builder's one call (the guide's Derived/Test/ToyasCard.lean, 'card_holds'). Laid BY PROGRAM, IN A SANDBOX (cutbox-door.mjs). By AI agents, Wed Nov 11 2026. No macro, syntax, notation, axiom, sorry.
-/
import Derived.Test.YtblnhcnfeagjhaaGreatDoorRows
import GoSem.ClaimSeven
namespace Go.Proofs.YtblnhcnfeagjhaaGreatDoor
namespace Rows

/-- THE TIED CARD OF 'belfrylaw10.TimersPlays'. -/
def timersPlaysCard : Claim7 := { stood := { row := timersPlaysRow, standIns := [], harness := (true, "9f770caa6feca11b56de59bf80309216f28f8328df38c3e2ba805f0ecb5f865c"), looks := true }, kinds := [], alts := [], laidByText := true, laidKinds := [.data, .data, .data], laidTests := true, laidLooks := .later }
def TimersPlaysCardSaid : Prop := Claim7.holds Tryz.pinned (.plain (OpenSpec.ofChange timersPlaysSpec)) timersPlaysCard

/-- THE TIED CARD OF 'belfrylaw10.TimersDue'. -/
def timersDueCard : Claim7 := { stood := { row := timersDueRow, standIns := [], harness := (true, "9f770caa6feca11b56de59bf80309216f28f8328df38c3e2ba805f0ecb5f865c"), looks := true }, kinds := [], alts := [], laidByText := true, laidKinds := [.data, .data, .data], laidTests := true, laidLooks := .later }
def TimersDueCardSaid : Prop := Claim7.holds Tryz.pinned (.plain (OpenSpec.ofChange timersDueSpec)) timersDueCard

/-- THE TIED CARD OF 'belfrylaw10.TimersAfter'. -/
def timersAfterCard : Claim7 := { stood := { row := timersAfterRow, standIns := [], harness := (true, "9f770caa6feca11b56de59bf80309216f28f8328df38c3e2ba805f0ecb5f865c"), looks := true }, kinds := [], alts := [], laidByText := true, laidKinds := [.data, .data, .data], laidTests := true, laidLooks := .later }
def TimersAfterCardSaid : Prop := Claim7.holds Tryz.pinned (.plain (OpenSpec.ofChange timersAfterSpec)) timersAfterCard

/-- THE TIED CARD OF 'belfrylaw10.TimersRight'. -/
def timersRightCard : Claim7 := { stood := { row := timersRightRow, standIns := [], harness := (true, "9f770caa6feca11b56de59bf80309216f28f8328df38c3e2ba805f0ecb5f865c"), looks := true }, kinds := [], alts := [], laidByText := true, laidKinds := [.data, .data, .data], laidTests := true, laidLooks := .later }
def TimersRightCardSaid : Prop := Claim7.holds Tryz.pinned (.plain (OpenSpec.ofChange timersRightSpec)) timersRightCard

/-- THE TIED CARD OF 'belfrylaw10.TimersNil'. -/
def timersNilCard : Claim7 := { stood := { row := timersNilRow, standIns := [], harness := (true, "9f770caa6feca11b56de59bf80309216f28f8328df38c3e2ba805f0ecb5f865c"), looks := true }, kinds := [], alts := [], laidByText := true, laidKinds := [.data, .data, .data], laidTests := true, laidLooks := .later }
def TimersNilCardSaid : Prop := Claim7.holds Tryz.pinned (.plain (OpenSpec.ofChange timersNilSpec)) timersNilCard

/-- THE TIED CARD OF 'belfrylaw10.TimersCopies'. -/
def timersCopiesCard : Claim7 := { stood := { row := timersCopiesRow, standIns := [], harness := (true, "9f770caa6feca11b56de59bf80309216f28f8328df38c3e2ba805f0ecb5f865c"), looks := true }, kinds := [], alts := [], laidByText := true, laidKinds := [.data, .data, .data], laidTests := true, laidLooks := .later }
def TimersCopiesCardSaid : Prop := Claim7.holds Tryz.pinned (.plain (OpenSpec.ofChange timersCopiesSpec)) timersCopiesCard

/-- THE SECOND FORM's CARD OF 'belfrylaw10.TimersPlays'. -/
def timersPlaysUptoCard : Claim7 := { stood := { row := timersPlaysUptoRow, standIns := [], harness := (true, "9f770caa6feca11b56de59bf80309216f28f8328df38c3e2ba805f0ecb5f865c"), looks := true }, kinds := [], alts := [], laidByText := true, laidKinds := [.data, .data, .data], laidTests := true, laidLooks := .later }
def TimersPlaysUptoCardSaid : Prop := Claim7.holds Tryz.pinned (.plain (OpenSpec.upto timersPlaysSpec)) timersPlaysUptoCard

/-- THE SECOND FORM's CARD OF 'belfrylaw10.TimersDue'. -/
def timersDueUptoCard : Claim7 := { stood := { row := timersDueUptoRow, standIns := [], harness := (true, "9f770caa6feca11b56de59bf80309216f28f8328df38c3e2ba805f0ecb5f865c"), looks := true }, kinds := [], alts := [], laidByText := true, laidKinds := [.data, .data, .data], laidTests := true, laidLooks := .later }
def TimersDueUptoCardSaid : Prop := Claim7.holds Tryz.pinned (.plain (OpenSpec.upto timersDueSpec)) timersDueUptoCard

/-- THE SECOND FORM's CARD OF 'belfrylaw10.TimersAfter'. -/
def timersAfterUptoCard : Claim7 := { stood := { row := timersAfterUptoRow, standIns := [], harness := (true, "9f770caa6feca11b56de59bf80309216f28f8328df38c3e2ba805f0ecb5f865c"), looks := true }, kinds := [], alts := [], laidByText := true, laidKinds := [.data, .data, .data], laidTests := true, laidLooks := .later }
def TimersAfterUptoCardSaid : Prop := Claim7.holds Tryz.pinned (.plain (OpenSpec.upto timersAfterSpec)) timersAfterUptoCard

/-- THE SECOND FORM's CARD OF 'belfrylaw10.TimersRight'. -/
def timersRightUptoCard : Claim7 := { stood := { row := timersRightUptoRow, standIns := [], harness := (true, "9f770caa6feca11b56de59bf80309216f28f8328df38c3e2ba805f0ecb5f865c"), looks := true }, kinds := [], alts := [], laidByText := true, laidKinds := [.data, .data, .data], laidTests := true, laidLooks := .later }
def TimersRightUptoCardSaid : Prop := Claim7.holds Tryz.pinned (.plain (OpenSpec.upto timersRightSpec)) timersRightUptoCard

/-- THE SECOND FORM's CARD OF 'belfrylaw10.TimersNil'. -/
def timersNilUptoCard : Claim7 := { stood := { row := timersNilUptoRow, standIns := [], harness := (true, "9f770caa6feca11b56de59bf80309216f28f8328df38c3e2ba805f0ecb5f865c"), looks := true }, kinds := [], alts := [], laidByText := true, laidKinds := [.data, .data, .data], laidTests := true, laidLooks := .later }
def TimersNilUptoCardSaid : Prop := Claim7.holds Tryz.pinned (.plain (OpenSpec.upto timersNilSpec)) timersNilUptoCard

/-- THE SECOND FORM's CARD OF 'belfrylaw10.TimersCopies'. -/
def timersCopiesUptoCard : Claim7 := { stood := { row := timersCopiesUptoRow, standIns := [], harness := (true, "9f770caa6feca11b56de59bf80309216f28f8328df38c3e2ba805f0ecb5f865c"), looks := true }, kinds := [], alts := [], laidByText := true, laidKinds := [.data, .data, .data], laidTests := true, laidLooks := .later }
def TimersCopiesUptoCardSaid : Prop := Claim7.holds Tryz.pinned (.plain (OpenSpec.upto timersCopiesSpec)) timersCopiesUptoCard
end Rows
end Go.Proofs.YtblnhcnfeagjhaaGreatDoor
