/- The law ShaNone: the walk. -/
import Derived.Test.YtipcanphkdodaaaDoorShaT
namespace Go.Proofs.YtipcanphkdodaaaDoor
open Go.RowKit
set_option linter.unusedVariables false

set_option maxRecDepth 20000 in
set_option maxHeartbeats 4000000 in
theorem none_any (v : Value) (w : World) (hV : VK w) : Calls Tryd.prog 10 #[v] w (Gives w (.bool true)) := by
  have HV := Lib.hid hV; clear hV
  have eqz : ∀ w : World, (Op.equalIn 10000 32 (.agg (yV z32)) (.agg #[.int .u8 0, .int .u8 0, .int .u8 0, .int .u8 0, .int .u8 0, .int .u8 0, .int .u8 0, .int .u8 0, .int .u8 0, .int .u8 0, .int .u8 0, .int .u8 0, .int .u8 0, .int .u8 0, .int .u8 0, .int .u8 0, .int .u8 0, .int .u8 0, .int .u8 0, .int .u8 0, .int .u8 0, .int .u8 0, .int .u8 0, .int .u8 0, .int .u8 0, .int .u8 0, .int .u8 0, .int .u8 0, .int .u8 0, .int .u8 0, .int .u8 0, .int .u8 0])).run Tryd.prog w = .ok true w := eq32 z32 z32_len
  go_enter Tryd.func10, Tryd.ntmps10
  go_wp2_with fail
  go_loopw [3] (fun t wr => ∃ k : Nat, k ≤ 2 ∧ t = .int .i64 k ∧ Hid (Below w.heap.size w wr)) (fun t _ => 2 - (intOf t).toNat)
  case atStart => exact ⟨0, by omega, rfl, Lib.hid (Below.refl _ _)⟩
  case round =>
    obtain ⟨k, hk, rfl, HB⟩ := hrel
    have hk3 : k = 0 ∨ k = 1 ∨ k = 2 := by omega
    rcases hk3 with rfl | rfl | rfl
    · go_wp2_with (first
        | ((with_reducible refine atOp ⟨some 17, _, _, _, _, _⟩ ?_); refine wpList_buildTo rfl 72 #[] rfl (some 17) rfl (hashL none 0 (List.replicate 8 0) (List.replicate 64 0)).toArray built_hash0 ?_)
        | (go_at_call 29; refine (hsum_z none _ (bad_none _)).mono ?_; rintro e w1 ⟨rfl, hb⟩; have B1 := Lib.hid (bl_call HB.out hb); have BD := Lib.hid ((bad_none _ : Bad _ none).step hb); have BD2 := Lib.hid (BD.out.step (bl_self w1 (.cells (yV z32) 32))); have AD : Hid (AR (w1.alloc (.cells (yV z32) 32)) w1.heap.size 32 (yV z32)) := Lib.hid (AR.made _ _ _); clear hb)
        | ((with_reducible refine atOp ⟨none, .store 32 _ _, _, _, _, _⟩ ?_); refine wpList_store_row rfl 32 (.tmp 5) (.tmp 22) rfl w1.heap.size (yV z32) rfl rfl 32 (yV z32) AD.out (info32 z32 z32_len) rfl (yV_one _) ?_; rw [World.setRow_alloc_new])
        | (go_at_call 30; refine (hlen_no none _ BD2.out).mono ?_; rintro e w2 ⟨rfl, rfl⟩)
        | (go_at_call 32; refine (copy_no none _ BD2.out).mono ?_; rintro e w2 ⟨rfl, rfl⟩)
        | (go_at_call 28; refine (write_no none _ _ BD2.out).mono ?_; rintro e w2 ⟨rfl, rfl⟩)
        | (go_at_call 31; refine (reset_no none _ BD2.out).mono ?_; rintro e w2 ⟨rfl, rfl⟩)
        | ((with_reducible refine atOp ⟨some 56, _, _, _, _, _⟩ ?_); refine guard_load_row (by rfl) 32 (.tmp 5) rfl w1.heap.size rfl 32 (yV z32) (0, 0) _ AD.out Tryd.underlying32 rfl (info32 z32 z32_len) ?_)
        | ((with_reducible refine atOp ⟨some 57, _, _, _, _, _⟩ ?_); refine guard_build (by rfl) 32 #[] rfl (some 57) rfl (yV z32) built_dig0 ?_))
      go_roundw
      case rel => exact ⟨1, by omega, rfl, Lib.hid (bl_alloc _ B1.out)⟩
      case measure => simp [intOf]
    · have HZ : Hid (Bad (wr.alloc (.cells (hashL none 0 (List.replicate 8 0) (List.replicate 64 0)).toArray 72)) (some ⟨wr.heap.size, 0, none⟩)) := Lib.hid (.inr ⟨_, rfl, (AR.made wr 72 (hashL none 0 (List.replicate 8 0) (List.replicate 64 0)).toArray).at rfl⟩)
      go_wp2_with (first
        | ((with_reducible refine atOp ⟨some 17, _, _, _, _, _⟩ ?_); refine wpList_buildTo rfl 72 #[] rfl (some 17) rfl (hashL none 0 (List.replicate 8 0) (List.replicate 64 0)).toArray built_hash0 ?_)
        | (go_at_call 29; refine (hsum_z (some ⟨wr.heap.size, 0, none⟩) _ HZ.out).mono ?_; rintro e w1 ⟨rfl, hb⟩; have B1 := Lib.hid (bl_call (bl_alloc _ HB.out) hb); have BD := Lib.hid ((HZ.out : Bad _ (some ⟨wr.heap.size, 0, none⟩)).step hb); have BD2 := Lib.hid (BD.out.step (bl_self w1 (.cells (yV z32) 32))); have AD : Hid (AR (w1.alloc (.cells (yV z32) 32)) w1.heap.size 32 (yV z32)) := Lib.hid (AR.made _ _ _); clear hb)
        | ((with_reducible refine atOp ⟨none, .store 32 _ _, _, _, _, _⟩ ?_); refine wpList_store_row rfl 32 (.tmp 5) (.tmp 22) rfl w1.heap.size (yV z32) rfl rfl 32 (yV z32) AD.out (info32 z32 z32_len) rfl (yV_one _) ?_; rw [World.setRow_alloc_new])
        | (go_at_call 30; refine (hlen_no (some ⟨wr.heap.size, 0, none⟩) _ BD2.out).mono ?_; rintro e w2 ⟨rfl, rfl⟩)
        | (go_at_call 32; refine (copy_no (some ⟨wr.heap.size, 0, none⟩) _ BD2.out).mono ?_; rintro e w2 ⟨rfl, rfl⟩)
        | (go_at_call 28; refine (write_no (some ⟨wr.heap.size, 0, none⟩) _ _ BD2.out).mono ?_; rintro e w2 ⟨rfl, rfl⟩)
        | (go_at_call 31; refine (reset_no (some ⟨wr.heap.size, 0, none⟩) _ BD2.out).mono ?_; rintro e w2 ⟨rfl, rfl⟩)
        | ((with_reducible refine atOp ⟨some 56, _, _, _, _, _⟩ ?_); refine guard_load_row (by rfl) 32 (.tmp 5) rfl w1.heap.size rfl 32 (yV z32) (0, 0) _ AD.out Tryd.underlying32 rfl (info32 z32 z32_len) ?_)
        | ((with_reducible refine atOp ⟨some 57, _, _, _, _, _⟩ ?_); refine guard_build (by rfl) 32 #[] rfl (some 57) rfl (yV z32) built_dig0 ?_))
      go_roundw
      case rel => exact ⟨2, by omega, rfl, Lib.hid (bl_alloc _ B1.out)⟩
      case measure => simp [intOf]
    · go_wp2_with (go_at_call 18; refine (shown_any _ (HV.out.below HB.out)).mono ?_; rintro e w3 ⟨rfl, hb⟩; have B3 := Lib.hid (bl_call HB.out hb); clear hb)
      go_ret
      exact ⟨rfl, B3.out⟩
end Go.Proofs.YtipcanphkdodaaaDoor
