/- What ParseList returns: the mathematics of list expressions. -/
import Derived.Test.YtdcjnklagklckaaDoorWordsF
namespace Go.Proofs.YtdcjnklagklckaaDoor
open Go.RowKit Go.Shelf
set_option linter.unusedVariables false

/-- The pieces of l between the bytes c. -/
def cutAt (c : UInt8) : List UInt8 → List (List UInt8)
  | [] => [[]]
  | x :: r => if x = c then [] :: cutAt c r else match cutAt c r with
    | [] => [[x]]
    | p :: ps => (x :: p) :: ps
/-- Whether one decimal form without a sign is that of a lesser number. -/
def lessL (a b : List UInt8) : Bool := if a.length ≠ b.length then decide (a.length < b.length) else decide (a < b)
/-- How many nines l ends with. -/
def ninesN (l : List UInt8) : Nat := (l.reverse.takeWhile (· == 57)).length
/-- The decimal form of the next number. -/
def succL (l : List UInt8) : List UInt8 :=
  if l.length ≤ ninesN l then 49 :: List.replicate l.length 48 else l.take (l.length - ninesN l - 1) ++ (l.getD (l.length - ninesN l - 1) 0 + 1) :: List.replicate (ninesN l) 48
/-- A run: the first and the last one of its numbers. -/
def readR (p : List UInt8) : Option (List UInt8 × List UInt8) :=
  if (p.dropWhile (· != 45)).isEmpty then (if natB p then some (p, p) else none)
  else if natB (p.takeWhile (· != 45)) && natB (p.dropWhile (· != 45)).tail && lessL (p.takeWhile (· != 45)) (p.dropWhile (· != 45)).tail then some (p.takeWhile (· != 45), (p.dropWhile (· != 45)).tail) else none
/-- The greatest number, if all pieces are runs with gaps between them; g: the greatest one before them. -/
def chkGo : List UInt8 → List (List UInt8) → Option (List UInt8)
  | g, [] => some g
  | g, p :: ps => match readR p with
    | none => none
    | some (a, b) => if !g.isEmpty && !lessL (succL g) a then none else chkGo b ps
def upTo (x y : Int) : List Int := (List.range (y + 1 - x).toNat).map fun i : Nat => x + (i : Int)
def expGo : List Int → List (List UInt8) → Option (List Int)
  | acc, [] => some acc
  | acc, p :: ps => match readR p with
    | none => some acc
    | some (a, b) => if 500 ≤ (intSp b 0 1000000000).1 - (intSp a 0 1000000000).1 + acc.length then none else expGo (acc ++ upTo (intSp a 0 1000000000).1 (intSp b 0 1000000000).1) ps
/-- What ParseList returns. -/
def parseL (l : List UInt8) : List Int × Int :=
  if l = [45] then ([], 0) else match chkGo [] (cutAt 44 l) with
    | none => ([], 6)
    | some g => if (intSp g 0 1000000000).2 = 0 then (match expGo [] (cutAt 44 l) with
      | none => ([], 3)
      | some ns => (ns, 0)) else ([], (intSp g 0 1000000000).2)

theorem cutAt_ne (c : UInt8) (l : List UInt8) : cutAt c l ≠ [] := by
  cases l with
  | nil => simp [cutAt]
  | cons x r =>
    rw [cutAt]; split
    · simp
    · split <;> simp
theorem cutAt_none (c : UInt8) : ∀ l : List UInt8, (∀ x ∈ l, x ≠ c) → cutAt c l = [l]
  | [], _ => rfl
  | x :: r, h => by
    rw [cutAt, if_neg (h x (by simp)), cutAt_none c r (fun y hy => h y (by simp [hy]))]
theorem cutAt_app (c : UInt8) : ∀ (p r : List UInt8), (∀ x ∈ p, x ≠ c) → cutAt c (p ++ c :: r) = p :: cutAt c r
  | [], r, _ => by simp [cutAt]
  | x :: p, r, h => by
    rw [List.cons_append, cutAt, if_neg (h x (by simp)), cutAt_app c p r (fun y hy => h y (by simp [hy]))]
theorem cutAt_size (c : UInt8) : ∀ l : List UInt8, ∀ p ∈ cutAt c l, p.length ≤ l.length
  | [], p, h => by simp [cutAt] at h; subst h; simp
  | x :: r, p, h => by
    have ih := cutAt_size c r
    rw [cutAt] at h
    split at h
    · rcases List.mem_cons.1 h with rfl | h
      · simp
      · have := ih p h; simp; omega
    · split at h
      · simp at h; subst h; simp
      · rename_i q qs hq
        rcases List.mem_cons.1 h with rfl | h
        · have := ih q (by rw [hq]; simp); simp; omega
        · have := ih p (by rw [hq]; simp [h]); simp; omega
theorem cutAt_count (c : UInt8) : ∀ l : List UInt8, (cutAt c l).length ≤ l.length + 1
  | [] => by simp [cutAt]
  | x :: r => by
    have ih := cutAt_count c r
    rw [cutAt]; split
    · simp; omega
    · split
      · simp
      · rename_i q qs hq; rw [hq] at ih; simp at ih ⊢; omega
end Go.Proofs.YtdcjnklagklckaaDoor
