/- The law HmacNone: the walk. -/
import Derived.Test.YtaeicjgkoofmpaaDoorHmacT
namespace Go.Proofs.YtaeicjgkoofmpaaDoor
open Go.RowKit
set_option linter.unusedVariables false

theorem misMade_no (p : Option Addr) (w : World) (h : Bad w p) : Calls Tryd.prog 57 #[.pointer p] w fun e w' => e = .returned (.bool false) ∧ w = w' := by
  rcases h with rfl | ⟨g, rfl, hc⟩
  · exact misMade_nil w
  · exact misMade_zero g w hc
theorem mwrite_no (p : Option Addr) (v : Value) (w : World) (h : Bad w p) : Calls Tryd.prog 30 #[.pointer p, v] w fun e w' => e = .returned (.int .i64 1) ∧ w = w' := by
  have H := Lib.hid h; clear h
  go_enter Tryd.func30, Tryd.ntmps30
  go_wp2_with (go_at_call 57; refine (misMade_no p _ H.out).mono ?_; rintro e w1 ⟨rfl, rfl⟩)
  go_ret
  exact ⟨rfl, rfl⟩
theorem mverify_no (p : Option Addr) (v : Value) (w : World) (h : Bad w p) : Calls Tryd.prog 31 #[.pointer p, v] w fun e w' => e = .returned (.int .i64 1) ∧ w = w' := by
  have H := Lib.hid h; clear h
  go_enter Tryd.func31, Tryd.ntmps31
  go_wp2_with (go_at_call 57; refine (misMade_no p _ H.out).mono ?_; rintro e w1 ⟨rfl, rfl⟩)
  go_ret
  exact ⟨rfl, rfl⟩
theorem mreset_no (p : Option Addr) (w : World) (h : Bad w p) : Calls Tryd.prog 33 #[.pointer p] w fun e w' => e = .returned (.int .i64 1) ∧ w = w' := by
  have H := Lib.hid h; clear h
  go_enter Tryd.func33, Tryd.ntmps33
  go_wp2_with (go_at_call 57; refine (misMade_no p _ H.out).mono ?_; rintro e w1 ⟨rfl, rfl⟩)
  go_ret
  exact ⟨rfl, rfl⟩
set_option maxRecDepth 20000 in
set_option maxHeartbeats 1000000 in
theorem mtag_z (p : Option Addr) (w : World) (h : Bad w p) : Calls Tryd.prog 32 #[.pointer p] w (Gives w (.tuple #[.agg (yV z32), .int .i64 1])) := by
  have H : Hid (Bad (w.alloc (.cells (yV (List.replicate 32 0)) 36)) p) := Lib.hid (h.step (bl_self w _)); clear h
  have HRES : Hid (AR (w.alloc (.cells (yV (List.replicate 32 0)) 36)) w.heap.size 36 (yV (List.replicate 32 0))) := Lib.hid (AR.made _ _ _)
  go_enter Tryd.func32, Tryd.ntmps32
  go_wp2_with (first
    | (go_at_call 57; refine (misMade_no p _ H.out).mono ?_; rintro e w1 ⟨rfl, rfl⟩)
    | ((with_reducible refine atOp ⟨some 7, _, _, _, _, _⟩ ?_); refine wpList_buildTo rfl 36 #[] rfl (some 7) rfl (yV (List.replicate 32 0)) (by kernel_rfl) ?_)
    | ((with_reducible refine atOp ⟨none, .store 36 _ _, _, _, _, _⟩ ?_); refine wpList_store_row rfl 36 (.tmp 2) (.tmp 7) rfl w.heap.size (yV (List.replicate 32 0)) rfl rfl 36 (yV (List.replicate 32 0)) HRES.out (info32 _ rfl) rfl (yV_one _) ?_))
  refine bodyPost_ret (v := .tuple #[.agg (yV (List.replicate 32 0)), .int .i64 1]) (results_row_tmp Tryd.results32 _ _ w.heap.size 36 _ (0, 0) _ _ rfl rfl (HRES.out.row _) Tryd.underlying36 rfl (info32 _ rfl)) rfl ⟨rfl, bl_row _ (bl_self w _) (by omega)⟩
def macZ : List Value := macL none (List.replicate 64 0) none (List.replicate 64 0)
theorem built_mac0 : Tryd.prog.built 62 [] = some macZ.toArray := by kernel_rfl
set_option maxRecDepth 20000 in
set_option maxHeartbeats 4000000 in
theorem hnone_any (v : Value) (w : World) (hV : VK w) : Calls Tryd.prog 10 #[v] w (Gives w (.bool true)) := by
  have HV := Lib.hid hV; clear hV
  have eqz : ∀ w : World, (Op.equalIn 10000 36 (.agg (yV z32)) (.agg #[.int .u8 0, .int .u8 0, .int .u8 0, .int .u8 0, .int .u8 0, .int .u8 0, .int .u8 0, .int .u8 0, .int .u8 0, .int .u8 0, .int .u8 0, .int .u8 0, .int .u8 0, .int .u8 0, .int .u8 0, .int .u8 0, .int .u8 0, .int .u8 0, .int .u8 0, .int .u8 0, .int .u8 0, .int .u8 0, .int .u8 0, .int .u8 0, .int .u8 0, .int .u8 0, .int .u8 0, .int .u8 0, .int .u8 0, .int .u8 0, .int .u8 0, .int .u8 0])).run Tryd.prog w = .ok true w := eq32 z32 z32_len
  go_enter Tryd.func10, Tryd.ntmps10
  go_wp2_with fail
  go_loopw [3] (fun t wr => ∃ k : Nat, k ≤ 2 ∧ t = .int .i64 k ∧ Hid (Below w.heap.size w wr)) (fun t _ => 2 - (intOf t).toNat)
  case atStart => exact ⟨0, by omega, rfl, Lib.hid (Below.refl _ _)⟩
  case round =>
    obtain ⟨k, hk, rfl, HB⟩ := hrel
    have hk3 : k = 0 ∨ k = 1 ∨ k = 2 := by omega
    rcases hk3 with rfl | rfl | rfl
    · go_wp2_with (first
        | ((with_reducible refine atOp ⟨some 13, _, _, _, _, _⟩ ?_); refine wpList_buildTo rfl 62 #[] rfl (some 13) rfl macZ.toArray built_mac0 ?_)
        | (go_at_call 32; refine (mtag_z (none) _ (bad_none _)).mono ?_; rintro e w1 ⟨rfl, hb⟩; have B1 := Lib.hid (bl_call HB.out hb); have BD := Lib.hid (((bad_none _) : Bad _ (none)).step hb); have BD2 := Lib.hid (BD.out.step (bl_self w1 (.cells (yV z32) 36))); have AD : Hid (AR (w1.alloc (.cells (yV z32) 36)) w1.heap.size 36 (yV z32)) := Lib.hid (AR.made _ _ _); clear hb)
        | ((with_reducible refine atOp ⟨none, .store 36 _ _, _, _, _, _⟩ ?_); refine wpList_store_row rfl 36 (.tmp 5) (.tmp 18) rfl w1.heap.size (yV z32) rfl rfl 36 (yV z32) AD.out (info32 z32 z32_len) rfl (yV_one _) ?_; rw [World.setRow_alloc_new])
        | (go_at_call 30; refine (mwrite_no (none) _ _ BD2.out).mono ?_; rintro e w2 ⟨rfl, rfl⟩)
        | (go_at_call 31; refine (mverify_no (none) _ _ BD2.out).mono ?_; rintro e w2 ⟨rfl, rfl⟩)
        | (go_at_call 33; refine (mreset_no (none) _ BD2.out).mono ?_; rintro e w2 ⟨rfl, rfl⟩)
        | ((with_reducible refine atOp ⟨some 23, _, _, _, _, _⟩ ?_); refine guard_load_row (by rfl) 36 (.tmp 5) rfl w1.heap.size rfl 36 (yV z32) (0, 0) _ AD.out Tryd.underlying36 rfl (info32 z32 z32_len) ?_)
        | ((with_reducible refine atOp ⟨some 24, _, _, _, _, _⟩ ?_); refine guard_build (by rfl) 36 #[] rfl (some 24) rfl (yV z32) built_dig0 ?_))
      go_roundw
      case rel => exact ⟨1, by omega, rfl, Lib.hid (bl_alloc _ B1.out)⟩
      case measure => simp [intOf]
    · have HZ : Hid (Bad (wr.alloc (.cells macZ.toArray 62)) (some ⟨wr.heap.size, 0, none⟩)) := Lib.hid (.inr ⟨_, rfl, (AR.made wr 62 macZ.toArray).at rfl⟩)
      go_wp2_with (first
        | ((with_reducible refine atOp ⟨some 13, _, _, _, _, _⟩ ?_); refine wpList_buildTo rfl 62 #[] rfl (some 13) rfl macZ.toArray built_mac0 ?_)
        | (go_at_call 32; refine (mtag_z (some ⟨wr.heap.size, 0, none⟩) _ HZ.out).mono ?_; rintro e w1 ⟨rfl, hb⟩; have B1 := Lib.hid (bl_call (bl_alloc _ HB.out) hb); have BD := Lib.hid ((HZ.out : Bad _ (some ⟨wr.heap.size, 0, none⟩)).step hb); have BD2 := Lib.hid (BD.out.step (bl_self w1 (.cells (yV z32) 36))); have AD : Hid (AR (w1.alloc (.cells (yV z32) 36)) w1.heap.size 36 (yV z32)) := Lib.hid (AR.made _ _ _); clear hb)
        | ((with_reducible refine atOp ⟨none, .store 36 _ _, _, _, _, _⟩ ?_); refine wpList_store_row rfl 36 (.tmp 5) (.tmp 18) rfl w1.heap.size (yV z32) rfl rfl 36 (yV z32) AD.out (info32 z32 z32_len) rfl (yV_one _) ?_; rw [World.setRow_alloc_new])
        | (go_at_call 30; refine (mwrite_no (some ⟨wr.heap.size, 0, none⟩) _ _ BD2.out).mono ?_; rintro e w2 ⟨rfl, rfl⟩)
        | (go_at_call 31; refine (mverify_no (some ⟨wr.heap.size, 0, none⟩) _ _ BD2.out).mono ?_; rintro e w2 ⟨rfl, rfl⟩)
        | (go_at_call 33; refine (mreset_no (some ⟨wr.heap.size, 0, none⟩) _ BD2.out).mono ?_; rintro e w2 ⟨rfl, rfl⟩)
        | ((with_reducible refine atOp ⟨some 23, _, _, _, _, _⟩ ?_); refine guard_load_row (by rfl) 36 (.tmp 5) rfl w1.heap.size rfl 36 (yV z32) (0, 0) _ AD.out Tryd.underlying36 rfl (info32 z32 z32_len) ?_)
        | ((with_reducible refine atOp ⟨some 24, _, _, _, _, _⟩ ?_); refine guard_build (by rfl) 36 #[] rfl (some 24) rfl (yV z32) built_dig0 ?_))
      go_roundw
      case rel => exact ⟨2, by omega, rfl, Lib.hid (bl_alloc _ B1.out)⟩
      case measure => simp [intOf]
    · go_wp2_with (go_at_call 20; refine (hshown_any _ (HV.out.below HB.out)).mono ?_; rintro e w3 ⟨rfl, hb⟩; have B3 := Lib.hid (bl_call HB.out hb); clear hb)
      go_ret
      exact ⟨rfl, B3.out⟩
end Go.Proofs.YtaeicjgkoofmpaaDoor
