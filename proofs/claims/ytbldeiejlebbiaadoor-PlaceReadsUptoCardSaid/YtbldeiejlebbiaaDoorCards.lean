/-
  DERIVED. GIVEN WITH THE SEED: THE CARDS: each row of YtbldeiejlebbiaaDoorRows.lean that lists a variable, with what it lists TIED to the program's text (the seventh form; the later family's looks); each row that meets fmt, with fmt's text TOLD by the authors' own Lean function (tested against real Go, not proved from fmt's source: count such statements apart). THE CARD IS WHAT COUNTS. Prove the row's statement (the work); the ties are given (YtbldeiejlebbiaaDoorTie.lean); close each card by the builder's one call (the guide's Derived/Test/ToyasCard.lean, 'card_holds'). Laid BY PROGRAM, IN A SANDBOX (cutbox-door.mjs). By AI agents, Wed Nov 11 2026. No macro, syntax, notation, axiom, sorry.
-/
import Derived.Test.YtbldeiejlebbiaaDoorRows
import GoSem.ClaimSeven
namespace Go.Proofs.YtbldeiejlebbiaaDoor
namespace Rows

/-- THE TIED CARD OF 'erratalaw03.PlaceFolds'. -/
def placeFoldsCard : Claim7 := { stood := { row := placeFoldsRow, standIns := [], harness := (true, "3742b9978f10043a0d4dd19e9cd77b510406459eed4520dcce2a07e91f64bb7e"), looks := true }, kinds := [], alts := [], laidByText := true, laidKinds := [.data, .data, .data, .sentinel, .sentinel], laidTests := true, laidLooks := .later }
def PlaceFoldsCardSaid : Prop := Claim7.holds Tryd.pinned (.plain (OpenSpec.ofChange placeFoldsSpec)) placeFoldsCard

/-- THE TIED CARD OF 'erratalaw03.PlaceUnfolds'. -/
def placeUnfoldsCard : Claim7 := { stood := { row := placeUnfoldsRow, standIns := [], harness := (true, "3742b9978f10043a0d4dd19e9cd77b510406459eed4520dcce2a07e91f64bb7e"), looks := true }, kinds := [], alts := [], laidByText := true, laidKinds := [.data, .data, .data, .sentinel, .sentinel], laidTests := true, laidLooks := .later }
def PlaceUnfoldsCardSaid : Prop := Claim7.holds Tryd.pinned (.plain (OpenSpec.ofChange placeUnfoldsSpec)) placeUnfoldsCard

/-- THE TIED CARD OF 'erratalaw03.PlaceTrees'. -/
def placeTreesCard : Claim7 := { stood := { row := placeTreesRow, standIns := [], harness := (true, "3742b9978f10043a0d4dd19e9cd77b510406459eed4520dcce2a07e91f64bb7e"), looks := true }, kinds := [], alts := [], laidByText := true, laidKinds := [.data, .data, .data, .sentinel, .sentinel], laidTests := true, laidLooks := .later }
def PlaceTreesCardSaid : Prop := Claim7.holds Tryd.pinned (.plain (OpenSpec.ofChange placeTreesSpec)) placeTreesCard

/-- THE TIED CARD OF 'erratalaw03.PlaceReads'. -/
def placeReadsCard : Claim7 := { stood := { row := placeReadsRow, standIns := [], harness := (true, "3742b9978f10043a0d4dd19e9cd77b510406459eed4520dcce2a07e91f64bb7e"), looks := true }, kinds := [], alts := [], laidByText := true, laidKinds := [.data, .data, .data, .sentinel, .sentinel], laidTests := true, laidLooks := .later }
def PlaceReadsCardSaid : Prop := Claim7.holds Tryd.pinned (.plain (OpenSpec.ofChange placeReadsSpec)) placeReadsCard

/-- THE TIED CARD OF 'erratalaw03.PlaceBack'. -/
def placeBackCard : Claim7 := { stood := { row := placeBackRow, standIns := [], harness := (true, "3742b9978f10043a0d4dd19e9cd77b510406459eed4520dcce2a07e91f64bb7e"), looks := true }, kinds := [], alts := [], laidByText := true, laidKinds := [.data, .data, .data, .sentinel, .sentinel], laidTests := true, laidLooks := .later }
def PlaceBackCardSaid : Prop := Claim7.holds Tryd.pinned (.plain (OpenSpec.ofChange placeBackSpec)) placeBackCard

/-- THE TIED CARD OF 'erratalaw03.PlaceMeets'. -/
def placeMeetsCard : Claim7 := { stood := { row := placeMeetsRow, standIns := [], harness := (true, "3742b9978f10043a0d4dd19e9cd77b510406459eed4520dcce2a07e91f64bb7e"), looks := true }, kinds := [], alts := [], laidByText := true, laidKinds := [.data, .data, .data, .sentinel, .sentinel], laidTests := true, laidLooks := .later }
def PlaceMeetsCardSaid : Prop := Claim7.holds Tryd.pinned (.plain (OpenSpec.ofChange placeMeetsSpec)) placeMeetsCard

/-- THE SECOND FORM's CARD OF 'erratalaw03.PlaceFolds'. -/
def placeFoldsUptoCard : Claim7 := { stood := { row := placeFoldsUptoRow, standIns := [], harness := (true, "3742b9978f10043a0d4dd19e9cd77b510406459eed4520dcce2a07e91f64bb7e"), looks := true }, kinds := [], alts := [], laidByText := true, laidKinds := [.data, .data, .data, .sentinel, .sentinel], laidTests := true, laidLooks := .later }
def PlaceFoldsUptoCardSaid : Prop := Claim7.holds Tryd.pinned (.plain (OpenSpec.upto placeFoldsSpec)) placeFoldsUptoCard

/-- THE SECOND FORM's CARD OF 'erratalaw03.PlaceUnfolds'. -/
def placeUnfoldsUptoCard : Claim7 := { stood := { row := placeUnfoldsUptoRow, standIns := [], harness := (true, "3742b9978f10043a0d4dd19e9cd77b510406459eed4520dcce2a07e91f64bb7e"), looks := true }, kinds := [], alts := [], laidByText := true, laidKinds := [.data, .data, .data, .sentinel, .sentinel], laidTests := true, laidLooks := .later }
def PlaceUnfoldsUptoCardSaid : Prop := Claim7.holds Tryd.pinned (.plain (OpenSpec.upto placeUnfoldsSpec)) placeUnfoldsUptoCard

/-- THE SECOND FORM's CARD OF 'erratalaw03.PlaceTrees'. -/
def placeTreesUptoCard : Claim7 := { stood := { row := placeTreesUptoRow, standIns := [], harness := (true, "3742b9978f10043a0d4dd19e9cd77b510406459eed4520dcce2a07e91f64bb7e"), looks := true }, kinds := [], alts := [], laidByText := true, laidKinds := [.data, .data, .data, .sentinel, .sentinel], laidTests := true, laidLooks := .later }
def PlaceTreesUptoCardSaid : Prop := Claim7.holds Tryd.pinned (.plain (OpenSpec.upto placeTreesSpec)) placeTreesUptoCard

/-- THE SECOND FORM's CARD OF 'erratalaw03.PlaceReads'. -/
def placeReadsUptoCard : Claim7 := { stood := { row := placeReadsUptoRow, standIns := [], harness := (true, "3742b9978f10043a0d4dd19e9cd77b510406459eed4520dcce2a07e91f64bb7e"), looks := true }, kinds := [], alts := [], laidByText := true, laidKinds := [.data, .data, .data, .sentinel, .sentinel], laidTests := true, laidLooks := .later }
def PlaceReadsUptoCardSaid : Prop := Claim7.holds Tryd.pinned (.plain (OpenSpec.upto placeReadsSpec)) placeReadsUptoCard

/-- THE SECOND FORM's CARD OF 'erratalaw03.PlaceBack'. -/
def placeBackUptoCard : Claim7 := { stood := { row := placeBackUptoRow, standIns := [], harness := (true, "3742b9978f10043a0d4dd19e9cd77b510406459eed4520dcce2a07e91f64bb7e"), looks := true }, kinds := [], alts := [], laidByText := true, laidKinds := [.data, .data, .data, .sentinel, .sentinel], laidTests := true, laidLooks := .later }
def PlaceBackUptoCardSaid : Prop := Claim7.holds Tryd.pinned (.plain (OpenSpec.upto placeBackSpec)) placeBackUptoCard

/-- THE SECOND FORM's CARD OF 'erratalaw03.PlaceMeets'. -/
def placeMeetsUptoCard : Claim7 := { stood := { row := placeMeetsUptoRow, standIns := [], harness := (true, "3742b9978f10043a0d4dd19e9cd77b510406459eed4520dcce2a07e91f64bb7e"), looks := true }, kinds := [], alts := [], laidByText := true, laidKinds := [.data, .data, .data, .sentinel, .sentinel], laidTests := true, laidLooks := .later }
def PlaceMeetsUptoCardSaid : Prop := Claim7.holds Tryd.pinned (.plain (OpenSpec.upto placeMeetsSpec)) placeMeetsUptoCard
end Rows
end Go.Proofs.YtbldeiejlebbiaaDoor
