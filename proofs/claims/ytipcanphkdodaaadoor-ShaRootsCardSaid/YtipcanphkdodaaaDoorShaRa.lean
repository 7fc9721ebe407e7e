/- The law's numbers of 128 bits. -/
import Derived.Test.YtipcanphkdodaaaDoorShaZb
namespace Go.Proofs.YtipcanphkdodaaaDoor
open Go.RowKit
set_option linter.unusedVariables false

theorem infoWideL : (Tryd.prog.info? 65).map (·.size) = some 2 := by kernel_rfl
set_option maxRecDepth 4000 in
set_option maxHeartbeats 1000000 in
theorem ltimes_any (a b : Nat) (w : World) (ha : a < 18446744073709551616) (hb : b < 18446744073709551616) : Calls Tryd.prog 35 #[.int .u64 a, .int .u64 b] w (Gives w (.agg (wideV (a * b)))) := by
  obtain ⟨eX, _⟩ := times_eq ha hb _ _ _ _ _ _ _ rfl rfl rfl rfl rfl rfl rfl
  have eY : IntKind.u64.wrap ((a : Int) * (b : Int)) = ((a * b % 18446744073709551616 : Nat) : Int) := by rw [← Int.natCast_mul, w64']
  have EX := Lib.hid eX; have EY := Lib.hid eY; clear eX eY
  go_enter Tryd.func35, Tryd.ntmps35
  go_wp2_with fail
  rw [EX.out, EY.out]
  refine bodyPost_ret (v := .agg (wideV (a * b))) (results_cell_row Tryd.results35 _ _ w.heap.size 65 _ (0, 0) _ rfl (AR.made w _ _) Tryd.underlying65 rfl infoWideL) rfl ⟨rfl, bl_self _ _⟩
theorem ltimes_at (a b x h l : Nat) (w : World) (ha : a < 18446744073709551616) (hb : b < 18446744073709551616) (hx : a * b = x) (hh : x / 18446744073709551616 = h) (hl : x % 18446744073709551616 = l) :
    Calls Tryd.prog 35 #[.int .u64 a, .int .u64 b] w (Gives w (.agg #[.int .u64 (h : Int), .int .u64 (l : Int)])) := by
  subst hx hh hl; exact ltimes_any a b w ha hb
set_option maxRecDepth 4000 in
set_option maxHeartbeats 1000000 in
theorem lcube_any (m : Nat) (w : World) (hm : m < 2199023255552) : Calls Tryd.prog 34 #[.int .u64 m] w (Gives w (.agg (wideV (m * m * m)))) := by
  have hp := power_hi hm
  obtain ⟨hq, hh⟩ : ∃ hq, m * m / 18446744073709551616 = hq := ⟨_, rfl⟩
  obtain ⟨l, hl⟩ : ∃ l, m * m % 18446744073709551616 = l := ⟨_, rfl⟩
  have hm6 : m < 18446744073709551616 := by omega
  have hl6 : l < 18446744073709551616 := by omega
  obtain ⟨e1, e2⟩ := hp
  rw [wideV_two, ← e1, ← e2, hh, hl]
  obtain ⟨h2, hh2⟩ : ∃ h2, l * m / 18446744073709551616 = h2 := ⟨_, rfl⟩
  obtain ⟨l2, hl2⟩ : ∃ l2, l * m % 18446744073709551616 = l2 := ⟨_, rfl⟩
  rw [hh2, hl2]
  have H1 := Lib.hid hh; have H2 := Lib.hid hl; have H3 := Lib.hid hh2; have H4 := Lib.hid hl2; clear e1 e2 hh hl hh2 hl2
  have A0 : Hid (AR (w.alloc (.cells #[.int .u64 0, .int .u64 0] 65)) w.heap.size 65 #[.int .u64 0, .int .u64 0]) := Lib.hid (AR.made _ _ _)
  have tk1 : True := trivial; have tk2 : True := trivial
  go_enter Tryd.func34, Tryd.ntmps34
  go_wp2_with (first
    | (go_at_call 35; have _t := tk1; (with_reducible refine (ltimes_at m m (m * m) hq l _ hm6 hm6 rfl H1.out H2.out).mono ?_); rintro e w1 ⟨rfl, hb⟩; have A1 := Lib.hid (A0.out.step hb); have B1 := Lib.hid (bl_call (bl_alloc _ (Below.refl w.heap.size w)) hb); clear hb tk1 _t)
    | (go_at_call 35; have _t := tk2; (with_reducible refine (ltimes_at l m (l * m) h2 l2 _ hl6 hm6 rfl H3.out H4.out).mono ?_); rintro e w2 ⟨rfl, hb⟩; have A2 := Lib.hid ((A1.out.more _).step hb); have S2 := Lib.hid ((AR.made w1 65 #[.int .u64 (hq : Int), .int .u64 (l : Int)]).step hb); have s0 := (S2.out.more (.cells #[.int .u64 (h2 : Int), .int .u64 (l2 : Int)] 65)).at (i := 0) (v := .int .u64 (hq : Int)) rfl; have B2 := Lib.hid (bl_call (bl_alloc _ B1.out) hb); clear hb tk2 _t)
    | ((with_reducible refine atOp ⟨none, .store 65 (.tmp 2) _, _, _, _, _⟩ ?_); refine wpList_store_row rfl 65 (.tmp 2) (.tmp 21) rfl w.heap.size #[.int .u64 _, .int .u64 (l2 : Int)] rfl rfl 65 #[.int .u64 0, .int .u64 0] (A2.out.more _) infoWideL rfl (by simp [Value.oneCell']) ?_))
  refine bodyPost_ret (v := .agg #[.int .u64 _, .int .u64 (l2 : Int)]) (results_cell_row Tryd.results34 _ _ w.heap.size 65 _ (0, 0) _ rfl ((A2.out.more _).row _) Tryd.underlying65 rfl infoWideL) rfl ⟨rfl, bl_row _ (bl_alloc _ B2.out) (Nat.le_refl _)⟩
end Go.Proofs.YtipcanphkdodaaaDoor
