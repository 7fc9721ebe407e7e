/- Get, of both sides. -/
import Derived.Test.YtkidgijoopdidaaIntsO
import Derived.Deep.QuietTactic
import Derived.BigQuiet
namespace Go.Proofs.Ytkidgijoopdidaa
open Go.RowKit
set_option linter.unusedVariables false

/-- The number whose digits to the base 256 these are, the highest one first. -/
def gN (xs : List Int) : Nat := xs.foldl (fun n x => n * 256 + x.toNat) 0
theorem gN_snoc (xs : List Int) (x : Int) : gN (xs ++ [x]) = gN xs * 256 + x.toNat := by simp [gN]
theorem take_snoc {xs : List Int} {c : Nat} (h : c < xs.length) : xs.take (c + 1) = xs.take c ++ [xs.getD c 0] := by
  rw [List.take_succ_eq_append_getElem h, List.getD_eq_getElem?_getD, List.getElem?_eq_getElem h]; rfl
theorem gN_step {xs : List Int} {c : Nat} (h : c < xs.length) : gN (xs.take (c + 1)) = gN (xs.take c) * 256 + (xs.getD c 0).toNat := by rw [take_snoc h, gN_snoc]
theorem gN_lt {xs : List Int} (h : BY xs) : gN xs < 256 ^ xs.length := by
  suffices ∀ (ys : List Int) (n : Nat), BY ys → ys.foldl (fun n x => n * 256 + x.toNat) n < (n + 1) * 256 ^ ys.length by simpa [gN] using this xs 0 h
  intro ys
  induction ys with
  | nil => intro n _; simp
  | cons y ys ih =>
    intro n hy
    have h1 := ih (n * 256 + y.toNat) (fun x hx => hy x (List.mem_cons_of_mem _ hx))
    have h2 := hy y (List.mem_cons_self ..)
    rw [List.foldl_cons, List.length_cons, Nat.pow_succ]
    refine Nat.lt_of_lt_of_le h1 ?_
    rw [Nat.mul_comm (256 ^ ys.length) 256, ← Nat.mul_assoc]
    exact Nat.mul_le_mul_right _ (by omega)
theorem BY.take {xs : List Int} (h : BY xs) (k : Nat) : BY (xs.take k) := fun x hx => h x (List.mem_of_mem_take hx)
theorem gN_small {xs : List Int} {c : Nat} (h : BY xs) (hc : c < 8) : gN (xs.take c) ≤ 72057594037927935 := by
  have h1 := gN_lt (h.take c)
  have h2 : (xs.take c).length ≤ 7 := by have := List.length_take_le c xs; omega
  have h3 : 256 ^ (xs.take c).length ≤ 256 ^ 7 := Nat.pow_le_pow_right (by decide) h2
  have h4 : 256 ^ 7 = 72057594037927936 := by decide
  omega
theorem or_byte {y : Nat} {x : Int} (hy : y ≤ 72057594037927935) (h0 : 0 ≤ x) (h1 : x < 256) : bits .or .u64 ((y : Int) * 256) x = ((y * 256 + x.toNat : Nat) : Int) := by
  obtain ⟨X, rfl⟩ := Int.eq_ofNat_of_zero_le h0
  rw [show (y : Int) * 256 = ((y * 256 : Nat) : Int) by omega, u64_or_nat _ _ (by omega) (by omega), nat_join 8 _ _ (by omega) (by omega)]
  simp

def Got (w : World) (n : Nat) (xs : List Int) (e : Ending) (w' : World) : Prop := ∃ r, e = .returned (.tuple #[.int .u64 n, r, .int .i64 0]) ∧ RB w' r xs ∧ ∃ q, w' = w.drewN q
def NotGot (w : World) (r : Int) (e : Ending) (w' : World) : Prop := e = .returned (.tuple #[.int .u64 0, .slice none 0 0, .int .i64 r]) ∧ w = w'

theorem get_range (v : Value) (k : Int) (w : World) (h : k < 1 ∨ 8 < k) : Calls Try.prog 15 #[v, .int .i64 k] w (NotGot w 7) := by
  rcases h with h | h
  all_goals
    go_enter Try.func15, Try.ntmps15
    go_wp2_with fail
    go_ret3
    exact ⟨rfl, rfl⟩
theorem rget_range (v : Value) (k : Int) (w : World) (h : k < 1 ∨ 8 < k) : Calls Try.prog 16 #[v, .int .i64 k] w (NotGot w 7) := by
  rcases h with h | h
  all_goals
    go_enter Try.func16, Try.ntmps16
    go_wp2_with fail
    go_ret3
    exact ⟨rfl, rfl⟩
theorem get_more (A : Option Addr) (n c k : Nat) (w : World) (h1 : 1 ≤ k) (h2 : k ≤ 8) (h : n < k) : Calls Try.prog 15 #[.slice A n c, .int .i64 k] w (NotGot w 10) := by
  go_enter Try.func15, Try.ntmps15
  go_wp2_with fail
  go_ret3
  exact ⟨rfl, rfl⟩
theorem rget_more (A : Option Addr) (n c k : Nat) (w : World) (h1 : 1 ≤ k) (h2 : k ≤ 8) (h : n < k) : Calls Try.prog 16 #[.slice A n c, .int .i64 k] w (NotGot w 10) := by
  go_enter Try.func16, Try.ntmps16
  go_wp2_with fail
  go_ret3
  exact ⟨rfl, rfl⟩
/-- What is left behind the first k bytes. -/
theorem rb_rest {w : World} {g off c k : Nat} {xs : List Int} (hg : g < w.heap.size) (hk : k ≤ xs.length) (h2 : xs.length ≤ c) (h3 : c ≤ maxLen) (hck : c ≠ k)
    (hc : ∀ i, i < xs.length → w.cell? ⟨g, off + i, none⟩ = some (.int .u8 (xs.getD i 0))) : RB w (.slice (some ⟨g, off + k, none⟩) (xs.length - k) (c - k)) (xs.drop k) := by
  by_cases h0 : xs.length = k
  · exact .inl ⟨_, _, by rw [h0, Nat.sub_self], List.drop_eq_nil_of_le (by omega), fun h => by cases h⟩
  · refine .inr ⟨g, off + k, c - k, by rw [List.length_drop], hg, by rw [List.length_drop]; omega, by rw [List.length_drop]; omega, by omega, fun i hi => ?_⟩
    rw [List.length_drop] at hi
    rw [Nat.add_assoc, hc (k + i) (by omega)]
    congr 2
    rw [List.getD_eq_getElem?_getD, List.getD_eq_getElem?_getD, List.getElem?_drop]
theorem rb_none {w : World} {g off k n c : Nat} {xs : List Int} (hn : n = 0) (hc : c = 0) (hk : xs.length ≤ k) : RB w (.slice (some ⟨g, off, none⟩) n c) (xs.drop k) := by
  subst hn hc
  exact .inl ⟨_, _, rfl, List.drop_eq_nil_of_le hk, fun h => by cases h⟩

set_option maxRecDepth 20000 in
set_option maxHeartbeats 1000000 in
theorem get_yes (g off c : Nat) (xs : List Int) (k : Nat) (w : World) (hby : BY xs) (hg : g < w.heap.size) (h1 : 1 ≤ k) (h2 : k ≤ 8) (hk : k ≤ xs.length) (hs : xs.length ≤ 1000) (hc1 : xs.length ≤ c) (hc2 : c ≤ maxLen)
    (hc : ∀ i, i < xs.length → w.cell? ⟨g, off + i, none⟩ = some (.int .u8 (xs.getD i 0))) :
    Calls Try.prog 15 #[.slice (some ⟨g, off, none⟩) xs.length c, .int .i64 k] w (Got w (gN (xs.take k)) (xs.drop k)) := by
  have HC := Lib.hid hc; clear hc
  have HY := Lib.hid hby; clear hby
  have HC2 := Lib.hid hc2
  unfold maxLen at hc2
  by_cases hck : c = k
  case' pos => have HR : Hid (∀ n, n = 0 → ∀ m, m = 0 → ∀ W : World, RB W (.slice (some ⟨g, off, none⟩) n m) (xs.drop k)) := Lib.hid fun n hn m hm W => rb_none hn hm (by omega)
  case' neg => have HR : Hid (RB w (.slice (some ⟨g, off + k, none⟩) (xs.length - k) (c - k)) (xs.drop k)) := Lib.hid (rb_rest hg hk hc1 HC2.out hck HC.out)
  all_goals
    go_enter Try.func15, Try.ntmps15
    go_wp2_with fail
    go_loop [4, 23] (fun v i => ∃ (j y : Nat), j ≤ k ∧ v = .int .u64 y ∧ i = .int .i64 j ∧ Hid (y = gN (xs.take j))) (fun _ i => k - (intOf i).toNat)
    case atStart => exact ⟨0, 0, by omega, rfl, rfl, Lib.hid (by simp [gN])⟩
    case round =>
      obtain ⟨j, y, hj, rfl, rfl, HX⟩ := hrel
      by_cases hlt : j < k
      · have cs := HC.out j (by omega)
        have hb := HY.out.get (i := j) (by omega)
        have hy : y ≤ 72057594037927935 := by rw [HX.out]; exact gN_small HY.out (by omega)
        have HS := Lib.hid (gN_step (xs := xs) (c := j) (by omega))
        obtain ⟨x, hx⟩ : ∃ x, xs.getD j 0 = x := ⟨_, rfl⟩
        rw [hx] at cs hb HS
        obtain ⟨hb0, hb1⟩ := hb
        have EM := or_byte hy hb0 hb1
        obtain ⟨z, hz⟩ : ∃ z : Nat, z = y * 256 + x.toNat := ⟨_, rfl⟩
        rw [← hz] at EM
        have HZ : Hid (z = gN (xs.take (j + 1))) := Lib.hid (by rw [HS.out, ← HX.out, hz])
        clear hx hz HS HX
        go_wp2_with fail
        go_round
        case rel => exact ⟨j + 1, z, by omega, rfl, by go_num, HZ⟩
        case measure => simp [intOf]; omega
      · obtain rfl : j = k := by omega
        have HN : Hid ((y : Int) = ((gN (xs.take j) : Nat) : Int)) := Lib.hid (by rw [HX.out])
        clear HX
        go_wp2_with fail
        go_quiet (fail)
        go_wp2_with fail
        go_ret3
        refine ⟨_, by rw [← HN.out]; rfl, ?_, _, rfl⟩
        first | exact HR.out | exact (HR.out _ (by omega) _ (by omega) _)
set_option maxRecDepth 20000 in
set_option maxHeartbeats 1000000 in
theorem rget_yes (g off c : Nat) (xs : List Int) (k : Nat) (w : World) (hby : BY xs) (hg : g < w.heap.size) (h1 : 1 ≤ k) (h2 : k ≤ 8) (hk : k ≤ xs.length) (hs : xs.length ≤ 1000) (hc1 : xs.length ≤ c) (hc2 : c ≤ maxLen)
    (hc : ∀ i, i < xs.length → w.cell? ⟨g, off + i, none⟩ = some (.int .u8 (xs.getD i 0))) :
    Calls Try.prog 16 #[.slice (some ⟨g, off, none⟩) xs.length c, .int .i64 k] w (Got w (gN (xs.take k)) (xs.drop k)) := by
  have HC := Lib.hid hc; clear hc
  have HY := Lib.hid hby; clear hby
  have HC2 := Lib.hid hc2
  unfold maxLen at hc2
  by_cases hck : c = k
  case' pos => have HR : Hid (∀ n, n = 0 → ∀ m, m = 0 → ∀ W : World, RB W (.slice (some ⟨g, off, none⟩) n m) (xs.drop k)) := Lib.hid fun n hn m hm W => rb_none hn hm (by omega)
  case' neg => have HR : Hid (RB w (.slice (some ⟨g, off + k, none⟩) (xs.length - k) (c - k)) (xs.drop k)) := Lib.hid (rb_rest hg hk hc1 HC2.out hck HC.out)
  all_goals
    go_enter Try.func16, Try.ntmps16
    go_wp2_with fail
    go_loop [7, 8] (fun v i => ∃ (j y : Nat), j ≤ k ∧ v = .int .u64 y ∧ i = .int .i64 j ∧ Hid (y = gN (xs.take j))) (fun _ i => k - (intOf i).toNat)
    case atStart => exact ⟨0, 0, by omega, rfl, rfl, Lib.hid (by simp [gN])⟩
    case round =>
      obtain ⟨j, y, hj, rfl, rfl, HX⟩ := hrel
      by_cases hlt : j < k
      · have cs := HC.out j (by omega)
        have hb := HY.out.get (i := j) (by omega)
        have hy : y ≤ 72057594037927935 := by rw [HX.out]; exact gN_small HY.out (by omega)
        have HS := Lib.hid (gN_step (xs := xs) (c := j) (by omega))
        obtain ⟨x, hx⟩ : ∃ x, xs.getD j 0 = x := ⟨_, rfl⟩
        rw [hx] at cs hb HS
        obtain ⟨hb0, hb1⟩ := hb
        obtain ⟨z, hz⟩ : ∃ z : Nat, z = y * 256 + x.toNat := ⟨_, rfl⟩
        have HM : Hid (256 * (y : Int) + x = z) := Lib.hid (by omega)
        have HZ : Hid (z = gN (xs.take (j + 1))) := Lib.hid (by rw [HS.out, ← HX.out, hz])
        clear hx hz HS HX
        go_wp2_with fail
        go_round
        case rel => exact ⟨j + 1, z, by omega, by rw [HM.out], by go_num, HZ⟩
        case measure => simp [intOf]; omega
      · obtain rfl : j = k := by omega
        have HN : Hid ((y : Int) = ((gN (xs.take j) : Nat) : Int)) := Lib.hid (by rw [HX.out])
        clear HX
        go_wp2_with fail
        go_quiet (fail)
        go_wp2_with fail
        go_ret3
        refine ⟨_, by rw [← HN.out]; rfl, ?_, _, rfl⟩
        first | exact HR.out | exact (HR.out _ (by omega) _ (by omega) _)

theorem get_any (v : Value) (xs : List Int) (k : Nat) (w : World) (hv : RB w v xs) (hby : BY xs) (h1 : 1 ≤ k) (h2 : k ≤ 8) (hk : k ≤ xs.length) (hs : xs.length ≤ 1000) : Calls Try.prog 15 #[v, .int .i64 k] w (Got w (gN (xs.take k)) (xs.drop k)) := by
  rcases hv with ⟨A, c, rfl, rfl, hn⟩ | ⟨g, off, c, rfl, hg, h0, hc1, hc2, hc⟩
  · simp at hk; omega
  · exact get_yes g off c xs k w hby hg h1 h2 hk hs hc1 hc2 hc
theorem rget_any (v : Value) (xs : List Int) (k : Nat) (w : World) (hv : RB w v xs) (hby : BY xs) (h1 : 1 ≤ k) (h2 : k ≤ 8) (hk : k ≤ xs.length) (hs : xs.length ≤ 1000) : Calls Try.prog 16 #[v, .int .i64 k] w (Got w (gN (xs.take k)) (xs.drop k)) := by
  rcases hv with ⟨A, c, rfl, rfl, hn⟩ | ⟨g, off, c, rfl, hg, h0, hc1, hc2, hc⟩
  · simp at hk; omega
  · exact rget_yes g off c xs k w hby hg h1 h2 hk hs hc1 hc2 hc
end Go.Proofs.Ytkidgijoopdidaa
