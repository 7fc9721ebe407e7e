/- The law TimesTicks: the walk. -/
import Derived.Test.YtnmgcfpemmejlaaDoorTimesDeadlinesWalk
namespace Go.Proofs.YtnmgcfpemmejlaaDoor
open Go.RowKit Go.Lib
set_option linter.unusedVariables false

theorem adv_no (n x r : Int) (w : World) (h1 : T64 n) (h2 : N64 x) (hr : advE n x = r) : Calls Tryd.prog 16 #[.int .i64 n, .int .i64 x] w (NumR w (advT n x) r) := by
  rw [← hr]; exact advance_any n x w h1.n h2
theorem adv_yes (n x : Int) (w : World) (h1 : T64 n) (h2 : N64 x) (h : n ≤ x) : Calls Tryd.prog 16 #[.int .i64 n, .int .i64 x] w (NumR w x 0) := by
  have h' := advance_any n x w h1.n h2
  have h0 : negB n x = false := negB_not h1.1 (by have := h1.1; omega)
  have e1 : advT n x = x := by unfold advT; rw [h0, if_neg (by decide), if_neg (by omega)]
  have e2 : advE n x = 0 := by unfold advE; rw [h0, if_neg (by decide), if_neg (by omega)]
  rw [e1, e2] at h'
  exact h'
theorem advE_bad {n x : Int} (h1 : T64 n) (h : x < 0 ∨ x < n) : advE n x ≠ 0 := by
  unfold advE
  split
  · omega
  · rename_i hn
    have := negB_no (Bool.eq_false_iff.2 hn)
    rw [if_pos (by omega)]; omega
theorem left_r (t d x : Int) (w : World) (h1 : T64 t) (h2 : T64 d) (hx : max (t - d) 0 = x) : Calls Tryd.prog 14 #[.int .i64 t, .int .i64 d] w (NumR w x 0) := by
  have h := left_any t d w h1.n h2.n
  rw [show leftT t d = x by unfold leftT; rw [negB_not h1.1 h2.1]; exact hx, show rngE t d = 0 by unfold rngE; rw [negB_not h1.1 h2.1]; rfl] at h
  exact h
set_option maxRecDepth 100000 in
set_option maxHeartbeats 8000000 in
theorem tticks_any (D : Int) (v : Value) (l : List Int) (w : World) (hD : N64 D) (hv : RI w v l) (h64 : ∀ x ∈ l, N64 x) (hm : l.length ≤ maxLen) (hT : TV w) : Calls Tryd.prog 7 #[.int .i64 D, v] w (GivesD w (.bool true)) := by
  unfold maxLen at hm
  have HT := Lib.hid hT
  clear hT
  have B0 := Lib.hid (Below.refl w.heap.size w)
  obtain ⟨A, c, rfl⟩ := hv.len
  obtain ⟨n, hn⟩ : ∃ n, l.length = n := ⟨_, rfl⟩
  rw [hn] at hv hm ⊢
  have HV := Lib.hid hv; have HN := Lib.hid hn; have H64 := Lib.hid h64
  clear hv hn h64
  by_cases hl : 50 < n
  · go_enter Tryd.func7, Tryd.ntmps7
    go_wp2_with (go_at_call 18; (with_reducible refine (awake_any _ (HT.out.below B0.out)).mono ?_); rintro e w9 ⟨rfl, hb⟩; replace B0 := Lib.hid (bl_call B0.out hb); clear hb)
    go_ret
    exact ⟨rfl, B0.out⟩
  · have z1 : decide ((50 : Int) < (n : Int)) = false := by simp; omega
    have z2 : decide (50 < n) = false := by simp; omega
    by_cases hd : D < 0
    · go_enter Tryd.func7, Tryd.ntmps7
      go_wp2_with (go_at_call 18; (with_reducible refine (awake_any _ (HT.out.below B0.out)).mono ?_); rintro e w9 ⟨rfl, hb⟩; replace B0 := Lib.hid (bl_call B0.out hb); clear hb)
      go_ret
      exact ⟨rfl, B0.out⟩
    · have z3 : decide (D < 0) = false := by simp; omega
      have GD : Hid (T64 D) := Lib.hid ⟨by omega, hD.2⟩
      have hd0 : 0 ≤ D := by omega
      have hd1 : D ≤ 9223372036854775807 := hD.2
      clear hD
      go_enter Tryd.func7, Tryd.ntmps7
      go_wp2_with fail
      go_loopw [5, 6, 7] (fun a b i wr => ∃ (k : Nat) (now : Int) (wb : Bool), k ≤ n ∧ i = .int .i64 k ∧ a = .int .i64 now ∧ b = .bool wb ∧ T64 now ∧ Hid (wb = true → D ≤ now) ∧ Hid (Below w.heap.size w wr)) (fun _ _ i _ => n - (intOf i).toNat)
      case atStart => exact ⟨0, 0, false, by omega, rfl, rfl, rfl, ⟨by omega, by omega⟩, Lib.hid (fun h => by cases h), B0⟩
      case round =>
        clear B0
        obtain ⟨k, now, wb, hk, rfl, rfl, rfl, hnow, HW, B0⟩ := hrel
        by_cases hlt : k < n
        · obtain ⟨g, off, rfl, hgl, c0⟩ := (HV.out.later B0.out).num HN.out hlt
          obtain ⟨x, hx⟩ : ∃ x, l.getD k 0 = x := ⟨_, rfl⟩
          have hx64 : N64 x := by
            rw [← hx, List.getD_eq_getElem?_getD, List.getElem?_eq_getElem (by rw [HN.out]; exact hlt)]
            exact H64.out _ (List.getElem_mem _)
          rw [hx] at c0
          have GN := Lib.hid hnow; have GX := Lib.hid hx64
          obtain ⟨hn0, hn1⟩ := hnow
          obtain ⟨hx0, hx1⟩ := hx64
          clear hx
          have hcell : ∀ W, Below wr.heap.size wr W → W.cell? ⟨g, off + k, none⟩ = some (.int .i64 x) := fun W hb => (hb.cell (p := ⟨g, _, none⟩) hgl).trans c0
          have HC := Lib.hid hcell
          clear hcell
          by_cases hbad : x < 0 ∨ x < now
          · obtain ⟨r, hr⟩ : ∃ r, advE now x = r := ⟨_, rfl⟩
            have hr0 : r ≠ 0 := by rw [← hr]; exact advE_bad GN.out hbad
            have r1 : (r == 0) = false := by simpa using hr0
            have r2 : (r != 0) = true := by simpa using hr0
            have HR := Lib.hid hr
            obtain ⟨y, hy⟩ : ∃ y, advT now x = y := ⟨_, rfl⟩
            have HY := Lib.hid hy
            clear hr hr0 hy
            by_cases hneg : x < 0
            · clear hbad
              go_wp2_with (go_at_call 16; (with_reducible refine (adv_no now x r _ GN.out GX.out HR.out).mono ?_); rintro e w1 ⟨rfl, hb⟩; rw [HY.out]; have d0 := HC.out _ hb; replace B0 := Lib.hid (bl_call B0.out hb); clear hb)
              go_roundw
              case rel => exact ⟨k + 1, now, wb, by omega, by go_num, rfl, rfl, GN.out, HW, B0⟩
              case measure => simp [intOf]; omega
            · have hx2 : x < now := by omega
              have n1 : decide (x < 0) = false := decide_eq_false hneg
              clear hbad
              go_wp2_with (go_at_call 16; (with_reducible refine (adv_no now x r _ GN.out GX.out HR.out).mono ?_); rintro e w1 ⟨rfl, hb⟩; rw [HY.out]; have d0 := HC.out _ hb; replace B0 := Lib.hid (bl_call B0.out hb); clear hb)
              go_roundw
              case rel => exact ⟨k + 1, now, wb, by omega, by go_num, rfl, rfl, GN.out, HW, B0⟩
              case measure => simp [intOf]; omega
          · have hx2 : now ≤ x := by omega
            have GT : Hid (T64 x) := Lib.hid ⟨by omega, hx1⟩
            have n1 : decide (x < 0) = false := by simp; omega
            have n2 : decide (x < now) = false := by simp; omega
            have HNX := Lib.hid hx2
            clear hbad
            by_cases hp : D ≤ x
            · have HP : Hid (decide (D ≤ x) = true) := Lib.hid (decide_eq_true hp)
              have HL : Hid (max (D - x) 0 = 0) := Lib.hid (by omega)
              cases wb
              all_goals
                go_wp2_with (first
                  | (go_at_call 16; (with_reducible refine (adv_yes now x _ GN.out GX.out HNX.out).mono ?_); rintro e w1 ⟨rfl, hb⟩; have d0 := HC.out _ hb; have HB1 := Lib.hid hb; replace B0 := Lib.hid (bl_call B0.out hb); clear hb)
                  | (go_at_call 12; (with_reducible refine (passed_r D x true _ GD.out GT.out HP.out).mono ?_); rintro e w2 ⟨rfl, hb⟩; replace HB1 := Lib.hid (bl_call HB1.out hb); replace B0 := Lib.hid (bl_call B0.out hb); clear hb)
                  | (go_at_call 14; (with_reducible refine (left_r D x 0 _ GD.out GT.out HL.out).mono ?_); rintro e w3 ⟨rfl, hb⟩; have d1 := HC.out _ (bl_call HB1.out hb); replace B0 := Lib.hid (bl_call B0.out hb); clear hb))
                go_roundw
                case rel => exact ⟨k + 1, x, true, by omega, by go_num, rfl, rfl, GT.out, Lib.hid (fun _ => hp), B0⟩
                case measure => simp [intOf]; omega
            · have HP : Hid (decide (D ≤ x) = false) := Lib.hid (decide_eq_false hp)
              have p1 : decide (D ≤ x) = false := decide_eq_false hp
              obtain ⟨y, hy⟩ : ∃ y, D - x = y := ⟨_, rfl⟩
              have HL : Hid (max (D - x) 0 = y) := Lib.hid (by omega)
              have y1 : (y == 0) = false := by simp; omega
              have y2 : decide (y < 0) = false := by simp; omega
              have y3 : (y != D - x) = false := by simp [hy]
              have y4 : (y != 0) = true := by simp; omega
              have HY := Lib.hid hy
              clear hy
              cases wb
              · go_wp2_with (first
                  | (go_at_call 16; (with_reducible refine (adv_yes now x _ GN.out GX.out HNX.out).mono ?_); rintro e w1 ⟨rfl, hb⟩; have d0 := HC.out _ hb; have HB1 := Lib.hid hb; replace B0 := Lib.hid (bl_call B0.out hb); clear hb)
                  | (go_at_call 12; (with_reducible refine (passed_r D x false _ GD.out GT.out HP.out).mono ?_); rintro e w2 ⟨rfl, hb⟩; replace HB1 := Lib.hid (bl_call HB1.out hb); replace B0 := Lib.hid (bl_call B0.out hb); clear hb)
                  | (go_at_call 14; (with_reducible refine (left_r D x y _ GD.out GT.out HL.out).mono ?_); rintro e w3 ⟨rfl, hb⟩; have d1 := HC.out _ (bl_call HB1.out hb); replace B0 := Lib.hid (bl_call B0.out hb); clear hb))
                go_roundw
                case rel => exact ⟨k + 1, x, false, by omega, by go_num, rfl, rfl, GT.out, Lib.hid (fun h => by cases h), B0⟩
                case measure => simp [intOf]; omega
              · have := HW.out rfl
                omega
        · go_wp2_with (go_at_call 18; (with_reducible refine (awake_any _ (HT.out.below B0.out)).mono ?_); rintro e w9 ⟨rfl, hb⟩; replace B0 := Lib.hid (bl_call B0.out hb); clear hb)
          go_ret
          exact ⟨rfl, B0.out⟩
end Go.Proofs.YtnmgcfpemmejlaaDoor
