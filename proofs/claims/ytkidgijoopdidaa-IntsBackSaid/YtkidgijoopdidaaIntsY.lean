/- One contract for all inputs: Put, Get, GetVar, PutVar, of both sides. -/
import Derived.Test.YtkidgijoopdidaaIntsW
namespace Go.Proofs.Ytkidgijoopdidaa
open Go.RowKit
set_option linter.unusedVariables false

def putL (xs : List Int) (n : Nat) (k : Int) : List Int := if putOk n k = true then xs ++ beL n k.toNat else []
def putE (n : Nat) (k : Int) : Int := if putOk n k = true then 0 else 7
/-- A slice and an error: the slice reads as ys; what was there is as it was. -/
def PutR (w : World) (ys : List Int) (r : Int) (e : Ending) (w' : World) : Prop := ∃ v, e = .returned (.tuple #[v, .int .i64 r]) ∧ RB w' v ys ∧ Below w.heap.size w w'
theorem putR_yes {w w' : World} {xs : List Int} {n : Nat} {k : Nat} {e : Ending} (h : putOk n k = true) (hp : Put w (xs ++ beL n k) e w') : PutR w (putL xs n k) (putE n k) e w' := by
  obtain ⟨v, he, ho, hb⟩ := hp
  unfold PutR putL putE
  rw [h, if_pos rfl, if_pos rfl]
  exact ⟨v, he, ho.rb, hb⟩
theorem putR_no {w w' : World} {xs : List Int} {n : Nat} {k : Int} {e : Ending} (h : putOk n k = false) (hp : No w e w') : PutR w (putL xs n k) (putE n k) e w' := by
  obtain ⟨he, rfl⟩ := hp
  unfold PutR putL putE
  rw [h]
  exact ⟨_, he, RB.nil w, Below.refl _ _⟩
theorem put_r (v : Value) (xs : List Int) (n : Nat) (k : Int) (ys : List Int) (r : Int) (w : World) (hv : RB w v xs) (hs : xs.length ≤ 1000) (hn : n < 18446744073709551616) (hy : putL xs n k = ys) (hr : putE n k = r) :
    Calls Try.prog 13 #[v, .int .u64 n, .int .i64 k] w (PutR w ys r) := by
  subst hy hr
  cases h : putOk n k
  · exact (put_no v n k w hn h).mono fun e w' hp => putR_no h hp
  · obtain ⟨j, rfl, h1, h2, h3⟩ := putOk_yes h
    exact (put_yes v xs n j w hv hs hn h1 h2 h3).mono fun e w' hp => putR_yes h hp
theorem rput_r (v : Value) (xs : List Int) (n : Nat) (k : Int) (ys : List Int) (r : Int) (w : World) (hv : RB w v xs) (hs : xs.length ≤ 1000) (hn : n < 18446744073709551616) (hy : putL xs n k = ys) (hr : putE n k = r) :
    Calls Try.prog 14 #[v, .int .u64 n, .int .i64 k] w (PutR w ys r) := by
  subst hy hr
  cases h : putOk n k
  · exact (rput_no v n k w hn h).mono fun e w' hp => putR_no h hp
  · obtain ⟨j, rfl, h1, h2, h3⟩ := putOk_yes h
    exact (rput_yes v xs n j w hv hs hn h1 h2 h3).mono fun e w' hp => putR_yes h hp

def getE (xs : List Int) (k : Int) : Int := if k < 1 ∨ 8 < k then 7 else if xs.length < k.toNat then 10 else 0
def getV (xs : List Int) (k : Int) : Nat := if getE xs k = 0 then gN (xs.take k.toNat) else 0
def getR (xs : List Int) (k : Int) : List Int := if getE xs k = 0 then xs.drop k.toNat else []
/-- A number, a slice and an error. -/
def GetR (w : World) (z : Nat) (ys : List Int) (r : Int) (e : Ending) (w' : World) : Prop := ∃ v, e = .returned (.tuple #[.int .u64 z, v, .int .i64 r]) ∧ RB w' v ys ∧ ∃ q, w' = w.drewN q
theorem getR_yes {w w' : World} {xs : List Int} {k : Int} {e : Ending} (h : getE xs k = 0) (hg : Got w (gN (xs.take k.toNat)) (xs.drop k.toNat) e w') : GetR w (getV xs k) (getR xs k) (getE xs k) e w' := by
  unfold GetR getV getR
  rw [h, if_pos rfl, if_pos rfl]
  exact hg
theorem getR_no {w w' : World} {xs : List Int} {k r : Int} {e : Ending} (h : getE xs k = r) (hr : r ≠ 0) (hg : NotGot w r e w') : GetR w (getV xs k) (getR xs k) (getE xs k) e w' := by
  obtain ⟨he, rfl⟩ := hg
  unfold GetR getV getR
  rw [h, if_neg hr, if_neg hr]
  exact ⟨_, he, RB.nil w, 0, rfl⟩
theorem get_r (v : Value) (xs : List Int) (k : Int) (z : Nat) (ys : List Int) (r : Int) (w : World) (hv : RB w v xs) (hby : BY xs) (hs : xs.length ≤ 1000) (hz : getV xs k = z) (hy : getR xs k = ys) (hr : getE xs k = r) :
    Calls Try.prog 15 #[v, .int .i64 k] w (GetR w z ys r) := by
  subst hz hy hr
  by_cases h1 : k < 1 ∨ 8 < k
  · have h : getE xs k = 7 := by unfold getE; rw [if_pos h1]
    exact (get_range v k w h1).mono fun e w' hg => getR_no h (by decide) hg
  · obtain ⟨j, rfl⟩ : ∃ j : Nat, k = j := ⟨k.toNat, by omega⟩
    by_cases h2 : xs.length < j
    · have h : getE xs j = 10 := by unfold getE; rw [if_neg h1, Int.toNat_natCast, if_pos h2]
      obtain ⟨A, c, rfl⟩ := hv.len
      exact (get_more A xs.length c j w (by omega) (by omega) h2).mono fun e w' hg => getR_no h (by decide) hg
    · have h : getE xs j = 0 := by unfold getE; rw [if_neg h1, Int.toNat_natCast, if_neg h2]
      exact (get_any v xs j w hv hby (by omega) (by omega) (by omega) hs).mono fun e w' hg => getR_yes h hg
theorem rget_r (v : Value) (xs : List Int) (k : Int) (z : Nat) (ys : List Int) (r : Int) (w : World) (hv : RB w v xs) (hby : BY xs) (hs : xs.length ≤ 1000) (hz : getV xs k = z) (hy : getR xs k = ys) (hr : getE xs k = r) :
    Calls Try.prog 16 #[v, .int .i64 k] w (GetR w z ys r) := by
  subst hz hy hr
  by_cases h1 : k < 1 ∨ 8 < k
  · have h : getE xs k = 7 := by unfold getE; rw [if_pos h1]
    exact (rget_range v k w h1).mono fun e w' hg => getR_no h (by decide) hg
  · obtain ⟨j, rfl⟩ : ∃ j : Nat, k = j := ⟨k.toNat, by omega⟩
    by_cases h2 : xs.length < j
    · have h : getE xs j = 10 := by unfold getE; rw [if_neg h1, Int.toNat_natCast, if_pos h2]
      obtain ⟨A, c, rfl⟩ := hv.len
      exact (rget_more A xs.length c j w (by omega) (by omega) h2).mono fun e w' hg => getR_no h (by decide) hg
    · have h : getE xs j = 0 := by unfold getE; rw [if_neg h1, Int.toNat_natCast, if_neg h2]
      exact (rget_any v xs j w hv hby (by omega) (by omega) (by omega) hs).mono fun e w' hg => getR_yes h hg

def gvV (xs : List Int) : Nat := if (gv xs 0).1 = 0 then varN (xs.take ((gv xs 0).2 + 1)) else 0
def gvR (xs : List Int) : List Int := if (gv xs 0).1 = 0 then xs.drop ((gv xs 0).2 + 1) else []
theorem gvR_of {w w' : World} {xs : List Int} {e : Ending} (h : GV xs w e w') : GetR w (gvV xs) (gvR xs) (gv xs 0).1 e w' := by
  unfold GV at h
  unfold GetR gvV gvR
  by_cases h0 : (gv xs 0).1 = 0
  · rw [if_pos h0] at h
    rw [if_pos h0, if_pos h0, h0]; exact h
  · rw [if_neg h0] at h
    rw [if_neg h0, if_neg h0]
    obtain ⟨he, rfl⟩ := h
    exact ⟨_, he, RB.nil w, 0, rfl⟩
theorem getvar_r (v : Value) (xs : List Int) (z : Nat) (ys : List Int) (r : Int) (w : World) (hv : RB w v xs) (hby : BY xs) (hs : xs.length ≤ 1100) (hz : gvV xs = z) (hy : gvR xs = ys) (hr : (gv xs 0).1 = r) :
    Calls Try.prog 17 #[v] w (GetR w z ys r) := by
  subst hz hy hr
  exact (getvar_any v xs w hv hby hs).mono fun e w' h => gvR_of h
theorem rgetvar_r (v : Value) (xs : List Int) (z : Nat) (ys : List Int) (r : Int) (w : World) (hv : RB w v xs) (hby : BY xs) (hs : xs.length ≤ 1100) (hz : gvV xs = z) (hy : gvR xs = ys) (hr : (gv xs 0).1 = r) :
    Calls Try.prog 18 #[v] w (GetR w z ys r) := by
  subst hz hy hr
  exact (rgetvar_any v xs w hv hby hs).mono fun e w' h => gvR_of h
end Go.Proofs.Ytkidgijoopdidaa
