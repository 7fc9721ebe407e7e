/- The reference's powers and roots. -/
import Derived.Test.YtipcanphkdodaaaDoorShaZa
namespace Go.Proofs.YtipcanphkdodaaaDoor
open Go.RowKit
set_option linter.unusedVariables false

theorem rtimes_at (a b x h l : Nat) (w : World) (ha : a < 18446744073709551616) (hb : b < 18446744073709551616) (hx : a * b = x) (hh : x / 18446744073709551616 = h) (hl : x % 18446744073709551616 = l) :
    Calls Tryd.prog 63 #[.int .u64 a, .int .u64 b] w (Gives w (.agg #[.int .u64 (h : Int), .int .u64 (l : Int)])) := by
  subst hx hh hl; exact rtimes_any a b w ha hb
set_option maxRecDepth 4000 in
set_option maxHeartbeats 1000000 in
theorem rpower_any (m : Nat) (t : Bool) (w : World) (hm : m < 2199023255552) : Calls Tryd.prog 58 #[.int .u64 m, .bool t] w (Gives w (.agg (wideV (powN m t)))) := by
  have hp := power_hi hm
  unfold powN
  obtain ⟨hq, hh⟩ : ∃ hq, m * m / 18446744073709551616 = hq := ⟨_, rfl⟩
  obtain ⟨l, hl⟩ : ∃ l, m * m % 18446744073709551616 = l := ⟨_, rfl⟩
  have hm6 : m < 18446744073709551616 := by omega
  have hl6 : l < 18446744073709551616 := by omega
  have zz : (#[.int .u64 0, .int .u64 0] : Array Value).size = 2 := rfl
  cases t with
  | false =>
    rw [if_neg (by simp), wideV_two, hh, hl]
    have H1 := Lib.hid hh; have H2 := Lib.hid hl; clear hp hh hl
    have A0 : Hid (AR (w.alloc (.cells #[.int .u64 0, .int .u64 0] 98)) w.heap.size 98 #[.int .u64 0, .int .u64 0]) := Lib.hid (AR.made _ _ _)
    go_enter Tryd.func58, Tryd.ntmps58
    go_wp2_with (first
      | (go_at_call 63; (with_reducible refine (rtimes_at m m (m * m) hq l _ hm6 hm6 rfl H1.out H2.out).mono ?_); rintro e w1 ⟨rfl, hb⟩; have HB := Lib.hid hb; have A1 := Lib.hid (A0.out.step hb); have B1 := Lib.hid (bl_call (bl_alloc _ (Below.refl w.heap.size w)) hb); clear hb)
      | ((with_reducible refine atOp ⟨none, .store 98 (.tmp 4) _, _, _, _, _⟩ ?_); refine wpList_store_row rfl 98 (.tmp 4) (.tmp 12) rfl w.heap.size #[.int .u64 (hq : Int), .int .u64 (l : Int)] rfl rfl 98 #[.int .u64 0, .int .u64 0] (A1.out.more _) infoWide rfl (by simp [Value.oneCell']) ?_))
    refine bodyPost_ret (v := .agg #[.int .u64 (hq : Int), .int .u64 (l : Int)]) (results_cell_row Tryd.results58 _ _ w.heap.size 98 _ (0, 0) _ rfl ((A1.out.more _).row _) Tryd.underlying98 rfl infoWide) rfl ⟨rfl, bl_row _ (bl_alloc _ B1.out) (Nat.le_refl _)⟩
  | true =>
    obtain ⟨e1, e2⟩ := hp
    rw [if_pos rfl, wideV_two, ← e1, ← e2, hh, hl]
    obtain ⟨h2, hh2⟩ : ∃ h2, l * m / 18446744073709551616 = h2 := ⟨_, rfl⟩
    obtain ⟨l2, hl2⟩ : ∃ l2, l * m % 18446744073709551616 = l2 := ⟨_, rfl⟩
    rw [hh2, hl2]
    have H1 := Lib.hid hh; have H2 := Lib.hid hl; have H3 := Lib.hid hh2; have H4 := Lib.hid hl2; clear e1 e2 hh hl hh2 hl2
    have A0 : Hid (AR (w.alloc (.cells #[.int .u64 0, .int .u64 0] 98)) w.heap.size 98 #[.int .u64 0, .int .u64 0]) := Lib.hid (AR.made _ _ _)
    have tk1 : True := trivial; have tk2 : True := trivial
    go_enter Tryd.func58, Tryd.ntmps58
    go_wp2_with (first
      | (go_at_call 63; have _t := tk1; (with_reducible refine (rtimes_at m m (m * m) hq l _ hm6 hm6 rfl H1.out H2.out).mono ?_); rintro e w1 ⟨rfl, hb⟩; have A1 := Lib.hid (A0.out.step hb); have B1 := Lib.hid (bl_call (bl_alloc _ (Below.refl w.heap.size w)) hb); clear hb tk1 _t)
      | (go_at_call 63; have _t := tk2; (with_reducible refine (rtimes_at l m (l * m) h2 l2 _ hl6 hm6 rfl H3.out H4.out).mono ?_); rintro e w2 ⟨rfl, hb⟩; have A2 := Lib.hid ((A1.out.more _).step hb); have S2 := Lib.hid ((AR.made w1 98 #[.int .u64 (hq : Int), .int .u64 (l : Int)]).step hb); have s0 := (S2.out.more (.cells #[.int .u64 (h2 : Int), .int .u64 (l2 : Int)] 98)).at (i := 0) (v := .int .u64 (hq : Int)) rfl; have B2 := Lib.hid (bl_call (bl_alloc _ B1.out) hb); clear hb tk2 _t)
      | ((with_reducible refine atOp ⟨none, .store 98 (.tmp 4) _, _, _, _, _⟩ ?_); refine wpList_store_row rfl 98 (.tmp 4) (.tmp 25) rfl w.heap.size #[.int .u64 _, .int .u64 (l2 : Int)] rfl rfl 98 #[.int .u64 0, .int .u64 0] (A2.out.more _) infoWide rfl (by simp [Value.oneCell']) ?_))
    refine bodyPost_ret (v := .agg #[.int .u64 _, .int .u64 (l2 : Int)]) (results_cell_row Tryd.results58 _ _ w.heap.size 98 _ (0, 0) _ rfl ((A2.out.more _).row _) Tryd.underlying98 rfl infoWide) rfl ⟨rfl, bl_row _ (bl_alloc _ B2.out) (Nat.le_refl _)⟩
end Go.Proofs.YtipcanphkdodaaaDoor
