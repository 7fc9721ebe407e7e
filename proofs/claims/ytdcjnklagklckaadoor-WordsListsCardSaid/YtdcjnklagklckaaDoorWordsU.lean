/- The reference's Same. -/
import Derived.Test.YtdcjnklagklckaaDoorWordsT
import Derived.Deep.QuietTactic
import Derived.BigQuiet
namespace Go.Proofs.YtdcjnklagklckaaDoor
open Go.RowKit
set_option linter.unusedVariables false

/-- Two fields, compared as structs. -/
def eqF (x y : FD) : Bool := x.1.toList == y.1.toList && x.2 == y.2
theorem eqF_iff (x y : FD) : eqF x y = true ↔ x = y := by
  obtain ⟨a, p⟩ := x; obtain ⟨b, q⟩ := y
  simp only [eqF, Bool.and_eq_true, beq_iff_eq, Prod.mk.injEq]
  constructor
  · rintro ⟨h, h2⟩; rw [ByteArray.toList_eq, ByteArray.toList_eq] at h; exact ⟨WideShapes.bytes_inj h, h2⟩
  · rintro ⟨rfl, rfl⟩; exact ⟨rfl, rfl⟩
set_option maxRecDepth 20000 in
theorem neq_field (w : World) (x y : FD) : (binOp .neq 50 (.agg #[.string x.1, .bool x.2]) (.agg #[.string y.1, .bool y.2])).run Tryd.prog w = .ok (.bool (!eqF x y)) w := by
  have u3 := Tryd.underlying4
  have u4 := Tryd.underlying9
  have hS : Tryd.prog.underlying 50 = some (.struct (Tryd.prog.fieldsOf 50)) := by kernel_rfl
  have hp : Tryd.prog.stoodInHeld 50 = false := by kernel_rfl
  rw [run_neq_struct, show (10000 : Nat) = 9999 + 1 from rfl, run_equalIn_agg w 9999 50 _ _ hS hp]
  simp only [Program.fieldsOf, Tryd.underlying50]
  go_simp
  unfold eqF
  by_cases h1 : x.1.toList = y.1.toList <;> by_cases h2 : x.2 = y.2 <;> simp [h1, h2]

/-- Whether two lists of fields are equal. -/
noncomputable def sameB (xs ys : List FD) : Bool := @decide (xs = ys) (Classical.propDecidable _)
theorem sameB_true {xs ys : List FD} (h : xs = ys) : sameB xs ys = true := by unfold sameB; exact @decide_eq_true _ (Classical.propDecidable _) h
theorem sameB_false {xs ys : List FD} (h : xs ≠ ys) : sameB xs ys = false := by unfold sameB; exact @decide_eq_false _ (Classical.propDecidable _) h

set_option maxRecDepth 20000 in
set_option maxHeartbeats 400000 in
/-- Different lengths. -/
theorem same_len (va vb : Value) (xs ys : List FD) (w : World) (ha : FSl w va xs) (hb : FSl w vb ys) (hl : xs.length ≠ ys.length) :
    Calls Tryd.prog 25 #[va, vb] w fun e w' => e = .returned (.bool (sameB xs ys)) ∧ ∃ n, w' = w.drewN n := by
  have HN := Lib.hid (sameB_false (xs := xs) (ys := ys) (fun e => hl (congrArg List.length e)))
  have hne : ((xs.length : Int) != (ys.length : Int)) = true := by rw [bne_iff_ne]; omega
  rcases ha with ⟨rfl, rfl⟩ | ⟨ga, oa, ca, rfl, _⟩ <;> rcases hb with ⟨rfl, rfl⟩ | ⟨gb, ob, cb, rfl, _⟩
  · exact absurd rfl hl
  all_goals
    (try simp only [List.length_nil] at hne)
    go_enter Tryd.func25, Tryd.ntmps25
    go_wp2_with fail
    all_goals first
      | (go_ret; exact ⟨ret_bool HN.out.symm, 0, rfl⟩)
      | (exfalso; simp_all)

set_option maxRecDepth 20000 in
set_option maxHeartbeats 400000 in
theorem same_both (xs ys : List FD) (w : World) (ga oa ca gb ob cb : Nat) (hml : xs.length ≤ maxLen) (hl : xs.length = ys.length)
    (hxc : ∀ i (h : i < xs.length), w.cell? ⟨ga, oa + i * 2, none⟩ = some (.string xs[i].1) ∧ w.cell? ⟨ga, oa + i * 2 + 1, none⟩ = some (.bool xs[i].2))
    (hyc : ∀ i (h : i < ys.length), w.cell? ⟨gb, ob + i * 2, none⟩ = some (.string ys[i].1) ∧ w.cell? ⟨gb, ob + i * 2 + 1, none⟩ = some (.bool ys[i].2)) :
    Calls Tryd.prog 25 #[.slice (some ⟨ga, oa, none⟩) xs.length ca, .slice (some ⟨gb, ob, none⟩) ys.length cb] w fun e w' => e = .returned (.bool (sameB xs ys)) ∧ ∃ n, w' = w.drewN n := by
  have hne : ((xs.length : Int) != (ys.length : Int)) = false := by rw [bne_eq_false_iff_eq]; omega
  have HL := Lib.hid hl; clear hl
  have HXC := Lib.hid hxc; have HYC := Lib.hid hyc; clear hxc hyc
  unfold maxLen at hml
  go_enter Tryd.func25, Tryd.ntmps25
  go_wp2_with fail
  go_loopw [5] (fun i wr => ∃ k : Nat, k ≤ xs.length ∧ i = .int .i64 k ∧ Hid (∃ n, wr = w.drewN n) ∧ Hid (xs.take k = ys.take k)) (fun i _ => xs.length - (intOf i).toNat)
  case atStart => exact ⟨0, by omega, rfl, Lib.hid ⟨0, rfl⟩, Lib.hid rfl⟩
  case round =>
    obtain ⟨k, hk, rfl, HW, HX⟩ := hrel
    by_cases hlt : k < xs.length
    · have hlt2 : k < ys.length := by rw [← HL.out]; exact hlt
      obtain ⟨a0, a1⟩ := HXC.out k hlt
      obtain ⟨b0, b1⟩ := HYC.out k hlt2
      have a0' : wr.cell? ⟨ga, oa + k * 2, none⟩ = some (.string xs[k].1) := by obtain ⟨n, e⟩ := HW.out; rw [e]; exact a0
      have a1' : wr.cell? ⟨ga, oa + k * 2 + 1, none⟩ = some (.bool xs[k].2) := by obtain ⟨n, e⟩ := HW.out; rw [e]; exact a1
      have b0' : wr.cell? ⟨gb, ob + k * 2, none⟩ = some (.string ys[k].1) := by obtain ⟨n, e⟩ := HW.out; rw [e]; exact b0
      have b1' : wr.cell? ⟨gb, ob + k * 2 + 1, none⟩ = some (.bool ys[k].2) := by obtain ⟨n, e⟩ := HW.out; rw [e]; exact b1
      clear a0 a1 b0 b1
      have hnf := neq_field
      have j1 : (k : Int) < (xs.length : Int) := by omega
      have j2 : (k : Int) < (ys.length : Int) := by omega
      cases heq : eqF xs[k] ys[k]
      · have HN : Hid (sameB xs ys = false) := Lib.hid (sameB_false (fun e => by subst e; rw [(eqF_iff _ _).2 rfl] at heq; cases heq))
        go_wp2_with fail
        go_quiet (fail)
        go_wp2_with fail
        go_ret
        exact ⟨ret_bool HN.out.symm, by obtain ⟨n, e⟩ := HW.out; rw [e]; exact ⟨n + nq, by simp [World.drewN, Nat.add_assoc]⟩⟩
      · have HX2 : Hid (xs.take (k + 1) = ys.take (k + 1)) := Lib.hid (by
          rw [List.take_succ_eq_append_getElem hlt, List.take_succ_eq_append_getElem hlt2, HX.out, (eqF_iff _ _).1 heq])
        go_wp2_with fail
        go_quiet (fail)
        go_wp2_with fail
        go_roundw
        case rel => exact ⟨k + 1, by omega, by go_num, Lib.hid (by obtain ⟨n, e⟩ := HW.out; rw [e]; exact ⟨n + nq, by simp [World.drewN, Nat.add_assoc]⟩), HX2⟩
        case measure => simp [intOf]; omega
    · have HN : Hid (sameB xs ys = true) := Lib.hid (sameB_true (by
        have := HX.out; have hl := HL.out; rwa [List.take_of_length_le (by omega), List.take_of_length_le (by omega)] at this))
      go_wp2_with fail
      go_ret
      exact ⟨ret_bool HN.out.symm, HW.out⟩

set_option maxRecDepth 20000 in
set_option maxHeartbeats 400000 in
theorem same_zero (a b : Option Addr) (c d : Nat) (w : World) :
    Calls Tryd.prog 25 #[.slice a 0 c, .slice b 0 d] w fun e w' => e = .returned (.bool true) ∧ ∃ n, w' = w.drewN n := by
  go_enter Tryd.func25, Tryd.ntmps25
  go_wp2_with fail
  refine wp_loop_rounds 1 ?_
  rw [rounds_succ]
  go_wp2_with fail
  go_ret
  exact ⟨rfl, 0, rfl⟩

theorem same_any (va vb : Value) (xs ys : List FD) (w : World) (ha : FSl w va xs) (hb : FSl w vb ys) :
    Calls Tryd.prog 25 #[va, vb] w fun e w' => e = .returned (.bool (sameB xs ys)) ∧ ∃ n, w' = w.drewN n := by
  by_cases hl : xs.length = ys.length
  · rcases ha with ⟨rfl, rfl⟩ | ⟨ga, oa, ca, rfl, _, hml, hxc⟩
    · rcases hb with ⟨rfl, rfl⟩ | ⟨gb, ob, cb, rfl, _⟩
      · rw [sameB_true rfl]; exact same_zero _ _ _ _ w
      · have : ys = [] := List.eq_nil_of_length_eq_zero (by rw [← hl]; rfl)
        subst this; rw [sameB_true rfl]; exact same_zero _ _ _ _ w
    · rcases hb with ⟨rfl, rfl⟩ | ⟨gb, ob, cb, rfl, _, _, hyc⟩
      · have : xs = [] := List.eq_nil_of_length_eq_zero hl
        subst this; rw [sameB_true rfl]; exact same_zero _ _ _ _ w
      · exact same_both xs ys w ga oa ca gb ob cb hml hl hxc hyc
  · exact same_len va vb xs ys w ha hb hl
end Go.Proofs.YtdcjnklagklckaaDoor
