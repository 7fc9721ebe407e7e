/- What WordsLines' row of variables gives the walks. -/
import Derived.Test.YtkafcbiiponacaaDoorLaid
namespace Go.Proofs.YtkafcbiiponacaaDoor
open Go.ChangeShapes Go.WideShapes Go.ChangeAt Go.RowKit
theorem g1_of_laidL {W : World} (h : laidMetH Tryd.prog Rows.wordsLinesRow.laid W) : G1 W :=
  have h0 : laidMet Tryd.prog Rows.wordsLinesRow.laid W := h
  ⟨esc_of_laid h0.tail.tail.tail.tail.tail.tail, pow_of_laid h0.tail.tail, err_of_laid h0.tail.tail.tail.tail⟩
end Go.Proofs.YtkafcbiiponacaaDoor
