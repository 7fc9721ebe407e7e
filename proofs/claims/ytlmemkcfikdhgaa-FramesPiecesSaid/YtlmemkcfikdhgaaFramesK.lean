/- The reference's Same; far; what each law ends with. -/
import Derived.Test.YtlmemkcfikdhgaaFramesJ
namespace Go.Proofs.Ytlmemkcfikdhgaa
open Go.RowKit Go.Lib
set_option linter.unusedVariables false

theorem ret_bool {a b : Bool} (h : a = b) : Ending.returned (.bool a) = .returned (.bool b) := by rw [h]
def Quiet (w : World) (v : Value) (e : Ending) (w' : World) : Prop := e = .returned v ∧ Below w.heap.size w w'
theorem same_len (va vb : Value) (xs ys : List (List Nat)) (w : World) (ha : PN w va xs) (hb : PN w vb ys) (hl : xs.length ≠ ys.length) : Calls Try.prog 16 #[va, vb] w (Gives w (.bool false)) := by
  obtain ⟨A, c, rfl⟩ := ha.len
  obtain ⟨B, d, rfl⟩ := hb.len
  have hne : ((xs.length : Int) != (ys.length : Int)) = true := by rw [bne_iff_ne]; omega
  clear ha hb
  go_enter Try.func16, Try.ntmps16
  go_wp2_with fail
  go_ret
  exact ⟨rfl, Below.refl _ _⟩
theorem same_zero (a b : Option Addr) (c d : Nat) (w : World) : Calls Try.prog 16 #[.slice a 0 c, .slice b 0 d] w (Gives w (.bool true)) := by
  go_enter Try.func16, Try.ntmps16
  go_wp2_with fail
  refine wp_loop_rounds 1 ?_
  rw [rounds_succ]
  go_wp2_with fail
  go_ret
  exact ⟨rfl, Below.refl _ _⟩
set_option maxRecDepth 20000 in
set_option maxHeartbeats 1000000 in
theorem same_both (xs ys : List (List Nat)) (w : World) (ga oa ca gb ob cb : Nat) (ha : PN w (.slice (some ⟨ga, oa, none⟩) xs.length ca) xs) (hb : PN w (.slice (some ⟨gb, ob, none⟩) ys.length cb) ys) (hl : xs.length = ys.length) (h0 : 0 < xs.length) :
    Calls Try.prog 16 #[.slice (some ⟨ga, oa, none⟩) xs.length ca, .slice (some ⟨gb, ob, none⟩) ys.length cb] w (Gives w (.bool (decide (xs = ys)))) := by
  obtain ⟨_, _, e, _, _, _, hga, hxc⟩ := ha.at h0
  cases e
  obtain ⟨_, _, e, _, _, _, hgb, hyc⟩ := hb.at (by omega)
  cases e
  have hml := ha.max
  unfold maxLen at hml
  have HX := Lib.hid hxc; have HY := Lib.hid hyc
  clear hxc hyc ha hb
  obtain ⟨n, hn⟩ : ∃ n, xs.length = n := ⟨_, rfl⟩
  have HN := Lib.hid hn
  have hm : ys.length = n := by rw [← hl, hn]
  have HM := Lib.hid hm
  rw [hn] at h0 hml ⊢
  rw [hm]
  clear hn hm hl
  go_enter Try.func16, Try.ntmps16
  go_wp2_with fail
  go_loopw [5] (fun i wr => ∃ k : Nat, k ≤ n ∧ i = .int .i64 k ∧ Hid (Below w.heap.size w wr) ∧ Hid (xs.take k = ys.take k)) (fun i _ => n - (intOf i).toNat)
  case atStart => exact ⟨0, by omega, rfl, Lib.hid (Below.refl _ _), Lib.hid rfl⟩
  case round =>
    obtain ⟨k, hk, rfl, HW, HE⟩ := hrel
    by_cases hlt : k < n
    · obtain ⟨u, cu, hu, bu⟩ := HX.out k (by rw [HN.out]; exact hlt)
      obtain ⟨v, cv, hv, bv⟩ := HY.out k (by rw [HM.out]; exact hlt)
      have a0 := (HW.out.cell (p := ⟨ga, oa + k, none⟩) hga).trans cu
      have b0 := (HW.out.cell (p := ⟨gb, ob + k, none⟩) hgb).trans cv
      have ku : ∀ q, (convert 22 9 u).run Try.prog (wr.drewN q) = .ok (.string (strB (xs.getD k []))) (wr.drewN q) := fun q => conv_rn (RN.drawn (hu.later HW.out) q)
      have kv : ∀ q, (convert 22 9 v).run Try.prog (wr.drewN q) = .ok (.string (strB (ys.getD k []))) (wr.drewN q) := fun q => conv_rn (RN.drawn (hv.later HW.out) q)
      obtain ⟨Au, cau, rfl⟩ := hu.len
      obtain ⟨Av, cav, rfl⟩ := hv.len
      have ex : xs.getD k [] = xs[k]'(by rw [HN.out]; exact hlt) := by rw [List.getD_eq_getElem?_getD, List.getElem?_eq_getElem (by rw [HN.out]; exact hlt)]; rfl
      have ey : ys.getD k [] = ys[k]'(by rw [HM.out]; exact hlt) := by rw [List.getD_eq_getElem?_getD, List.getElem?_eq_getElem (by rw [HM.out]; exact hlt)]; rfl
      have HSX : Hid (xs.take (k + 1) = xs.take k ++ [xs.getD k []]) := Lib.hid (by rw [List.take_succ_eq_append_getElem (by rw [HN.out]; exact hlt), ex])
      have HSY : Hid (ys.take (k + 1) = ys.take k ++ [ys.getD k []]) := Lib.hid (by rw [List.take_succ_eq_append_getElem (by rw [HM.out]; exact hlt), ey])
      have HEX : Hid (xs = ys → xs.getD k [] = ys.getD k []) := Lib.hid (fun e => by rw [e])
      obtain ⟨x, hx⟩ : ∃ x, xs.getD k [] = x := ⟨_, rfl⟩
      obtain ⟨y, hy⟩ : ∃ y, ys.getD k [] = y := ⟨_, rfl⟩
      rw [hx] at ku a0 bu HSX HEX
      rw [hy] at kv b0 bv HSY HEX
      have hnq : ((strB x).toList == (strB y).toList) = decide (x = y) := by rw [toList_beq, str_dec bu bv]
      obtain ⟨X, hX⟩ : ∃ X, strB x = X := ⟨_, rfl⟩
      obtain ⟨Y, hY⟩ : ∃ Y, strB y = Y := ⟨_, rfl⟩
      rw [hX] at ku hnq
      rw [hY] at kv hnq
      have j1 : (k : Int) < (n : Int) := by omega
      clear hX hY hx hy cu cv hu hv bu bv ex ey
      by_cases heq : x = y
      · have HS : Hid (xs.take (k + 1) = ys.take (k + 1)) := Lib.hid (by rw [HSX.out, HSY.out, HE.out, heq])
        subst heq
        rw [decide_eq_true rfl] at hnq
        go_wp2_with fail
        go_quiet (fail)
        go_wp2_with fail
        exact ⟨⟨k + 1, by omega, by go_num, Lib.hid (bl_drewN nq HW.out), HS⟩, by simp [intOf]; omega⟩
      · have HS : Hid (decide (xs = ys) = false) := Lib.hid (decide_eq_false (fun e => heq (HEX.out e)))
        rw [decide_eq_false heq] at hnq
        clear heq
        go_wp2_with fail
        go_quiet (fail)
        go_wp2_with fail
        go_ret
        exact ⟨ret_bool HS.out.symm, bl_drewN nq HW.out⟩
    · have HT : Hid (xs = ys) := Lib.hid (by have := HE.out; rwa [List.take_of_length_le (by rw [HN.out]; omega), List.take_of_length_le (by rw [HM.out]; omega)] at this)
      go_wp2_with fail
      go_ret
      exact ⟨ret_bool (by rw [decide_eq_true HT.out]), HW.out⟩
theorem same_any (va vb : Value) (xs ys : List (List Nat)) (w : World) (ha : PN w va xs) (hb : PN w vb ys) : Calls Try.prog 16 #[va, vb] w (Gives w (.bool (decide (xs = ys)))) := by
  by_cases hl : xs.length = ys.length
  · obtain ⟨A, c, rfl⟩ := ha.len
    obtain ⟨B, d, rfl⟩ := hb.len
    rcases Nat.eq_zero_or_pos xs.length with h0 | h0
    · have h1 : ys.length = 0 := by omega
      obtain rfl := List.eq_nil_of_length_eq_zero h0
      obtain rfl := List.eq_nil_of_length_eq_zero h1
      exact same_zero A B c d w
    · obtain ⟨g, off, rfl, _⟩ := ha.at h0
      obtain ⟨g2, off2, rfl, _⟩ := hb.at (by omega)
      exact same_both xs ys w g off c g2 off2 d ha hb hl h0
  · rw [decide_eq_false (fun e => hl (by rw [e]))]
    exact same_len va vb xs ys w ha hb hl
/-! ### far -/
def SomeBool (w : World) (e : Ending) (w' : World) : Prop := ∃ b : Bool, e = .returned (.bool b) ∧ w = w'
set_option maxRecDepth 20000 in
set_option maxHeartbeats 2000000 in
theorem far_some (g off c : Nat) (ps : List (List Nat)) (w : World) (h : PN w (.slice (some ⟨g, off, none⟩) ps.length c) ps) (h0 : 0 < ps.length) : Calls Try.prog 8 #[.slice (some ⟨g, off, none⟩) ps.length c] w (SomeBool w) := by
  obtain ⟨_, _, e, _, hlc, hcm, hg, hcell⟩ := h.at h0
  cases e
  have hm := h.max
  unfold maxLen at hm
  have HC := Lib.hid hcell
  clear hcell h
  obtain ⟨n, hn⟩ : ∃ n, ps.length = n := ⟨_, rfl⟩
  have HN := Lib.hid hn
  rw [hn] at h0 hlc hm ⊢
  clear hn
  go_enter Try.func8, Try.ntmps8
  go_wp2_with fail
  go_loop [3, 4] (fun s i => ∃ (k : Nat) (z : Int), k ≤ n ∧ i = .int .i64 k ∧ s = .int .i64 z) (fun _ i => n - (intOf i).toNat)
  case atStart => exact ⟨0, 0, Nat.zero_le _, rfl, rfl⟩
  case round =>
    obtain ⟨k, z, hk, rfl, rfl⟩ := hrel
    by_cases hlt : k < n
    · by_cases h11 : k < 1100
      · obtain ⟨u, cu, hu, _⟩ := HC.out k (by rw [HN.out]; exact hlt)
        obtain ⟨Au, ccu, rfl⟩ := hu.len
        obtain ⟨L, hL⟩ : ∃ L, (ps.getD k []).length = L := ⟨_, rfl⟩
        rw [hL] at cu
        clear hu hL
        go_wp2_with fail
        exact ⟨⟨k + 1, _, by omega, by go_num, rfl⟩, by simp [intOf]; omega⟩
      · go_wp2_with fail
        all_goals (go_ret; exact ⟨_, rfl, rfl⟩)
    · go_wp2_with fail
      all_goals (go_ret; exact ⟨_, rfl, rfl⟩)
theorem far_any (v : Value) (ps : List (List Nat)) (w : World) (h : PN w v ps) : Calls Try.prog 8 #[v] w (SomeBool w) := by
  obtain ⟨A, c, rfl⟩ := h.len
  rcases Nat.eq_zero_or_pos ps.length with h0 | h0
  · obtain rfl := List.eq_nil_of_length_eq_zero h0
    go_enter Try.func8, Try.ntmps8
    go_wp2_with fail
    refine wp_loop_rounds 1 ?_
    rw [rounds_succ]
    go_wp2_with fail
    go_ret
    exact ⟨_, rfl, rfl⟩
  · obtain ⟨g, off, rfl, _⟩ := h.at h0
    exact far_some g off c ps w h h0
end Go.Proofs.Ytlmemkcfikdhgaa
