/- The contracts of a hash's methods. -/
import Derived.Test.YtipcanphkdodaaaDoorShaR
namespace Go.Proofs.YtipcanphkdodaaaDoor
open Go.RowKit
set_option linter.unusedVariables false

theorem HA.self {W : World} {g : Nat} {m : List Nat} (h : HA W g m) : W.cell? ⟨g, 0, none⟩ = some (.pointer (some ⟨g, 0, none⟩)) := by
  obtain ⟨n, st, last, h1, _⟩ := h; exact h1.at rfl
theorem built_at {n : Nat} {st last : List Nat} (h : st.length = 8) (h2 : last.length = 64) (a : Act) (ha : a.eval (.tmp 4) = .agg (tV n st last)) :
    Tryd.prog.built 72 ((#[(1, Operand.tmp 4)] : Array (Nat × Operand)).map fun (i, x) => (i, a.eval x)).toList = some (Value.pointer none :: tL n st last).toArray := by
  have e : ((#[(1, Operand.tmp 4)] : Array (Nat × Operand)).map fun (i, x) => (i, a.eval x)).toList = [(1, .agg (tL n st last).toArray)] := by simp [ha, tV]
  rw [e]
  exact built_hash (tL_len n h h2)
/-- What New and Copy return. -/
def Fresh (w : World) (m : List Nat) (e : Ending) (w' : World) : Prop := ∃ g, e = .returned (.pointer (some ⟨g, 0, none⟩)) ∧ HA w' g m ∧ w.heap.size ≤ g ∧ Below w.heap.size w w'
set_option maxRecDepth 20000 in
set_option maxHeartbeats 2000000 in
theorem made_any (m : List Nat) (n : Nat) (st last : List Nat) (w : World) (hR : Rep m n st last) : Calls Tryd.prog 48 #[.agg (tV n st last)] w (Fresh w m) := by
  have HR := Lib.hid hR; clear hR
  have h8 := Lib.hid HR.out.st8; have h64 := Lib.hid HR.out.len
  have A2 := AR.made (w.alloc (.cells (tV n st last) 70)) 72 (Value.pointer none :: tL n st last).toArray
  rw [size_more] at A2
  have c0 := A2.at (i := 0) (v := .pointer none) rfl
  have f0 := A2.free 0
  have HA2 := Lib.hid A2; clear A2
  go_enter Tryd.func48, Tryd.ntmps48
  go_wp2_with (first
    | ((with_reducible refine atOp ⟨some 4, _, _, _, _, _⟩ ?_); refine wpList_load_row rfl 70 _ rfl w.heap.size rfl 70 (tV n st last) (0, 0) _ (AR.made w _ _) Tryd.underlying70 rfl (info73 h8.out h64.out) ?_)
    | ((with_reducible refine atOp ⟨some 5, _, _, _, _, _⟩ ?_); refine wpList_buildTo rfl 72 #[(1, .tmp 4)] rfl (some 5) rfl (Value.pointer none :: tL n st last).toArray (built_at h8.out h64.out _ rfl) ?_))
  go_ret
  have A3 := AR.made (w.alloc (.cells (tV n st last) 70)) 72 (Value.pointer (some ⟨w.heap.size + 1, 0, none⟩) :: tL n st last).toArray
  rw [size_more] at A3
  exact ⟨w.heap.size + 1, rfl, ⟨n, st, last, A3, HR.out⟩, by omega, bl_alloc _ (bl_alloc _ (Below.refl _ _))⟩
theorem new_any (w : World) (hV : VK w) : Calls Tryd.prog 27 #[] w (Fresh w []) := by
  have HV := Lib.hid hV; clear hV
  go_enter Tryd.func27, Tryd.ntmps27
  go_wp2_with (first
    | (go_at_call 40; refine (nothing_any _ HV.out).mono ?_; rintro e w1 ⟨rfl, hb⟩; have HB := Lib.hid hb; clear hb)
    | (go_at_call 48; refine (made_any [] 0 hL (List.replicate 64 0) _ Rep.nil).mono ?_; rintro e w2 ⟨g, rfl, hh, hg, hb⟩; have HH := Lib.hid hh; have HG := Lib.hid hg; have HB2 := Lib.hid hb; clear hh hg hb))
  go_ret
  exact ⟨g, rfl, HH.out, Nat.le_trans HB.out.size HG.out, bl_call HB.out HB2.out⟩

theorem grow_self (w : World) (g : Nat) (cs : Array Value) : w.grownBy (w.setRow g cs) (some g) := ⟨rfl, rfl, rfl, by simp, fun k _ hk => setRow_other w g k cs (fun e => hk (by rw [e]))⟩
theorem grow_call {w w1 : World} (g : Nat) (cs : Array Value) (h : Below w.heap.size w w1) : w.grownBy (w1.setRow g cs) (some g) :=
  ⟨h.os, h.tape, h.output, by simp; exact h.size, fun k hk hne => (setRow_other w1 g k cs (fun e => hne (by rw [e]))).trans (h.block k hk)⟩
/-- What Write and Reset leave: only the hash has changed. -/
def Turned (w : World) (g : Nat) (m : List Nat) (e : Ending) (w' : World) : Prop := e = .returned (.int .i64 0) ∧ HA w' g m ∧ w.grownBy w' (some g)
set_option maxRecDepth 20000 in
set_option maxHeartbeats 2000000 in
theorem write_any (g : Nat) (m xs : List Nat) (v : Value) (w : World) (hh : HA w g m) (hv : RN w v xs) (hb : BB xs) (hsz : m.length + xs.length < 9223372036854775808) (hV : VK w) :
    Calls Tryd.prog 28 #[.pointer (some ⟨g, 0, none⟩), v] w (Turned w g (m ++ xs)) := by
  have c0 := hh.self
  obtain ⟨n, st, last, har, hR⟩ := hh
  have h8 := Lib.hid hR.st8; have h64 := Lib.hid hR.len
  have HA0 := Lib.hid har; have HR := Lib.hid hR; have HVV := Lib.hid hv; have HBB := Lib.hid hb; have HV := Lib.hid hV
  clear har hR hv hb hV
  go_enter Tryd.func28, Tryd.ntmps28
  go_wp2_with (first
    | (go_at_call 49; refine (isMade_yes g _ c0).mono ?_; rintro e w1 ⟨rfl, rfl⟩)
    | ((with_reducible refine atOp ⟨some 12, _, _, _, _, _⟩ ?_); refine wpList_load_at rfl 70 (.tmp 11) rfl g 1 73 rfl 72 (hashL (some ⟨g, 0, none⟩) n st last) (tL n st last) _ HA0.out (hashL_t _ n h8.out h64.out) (tL_len n h8.out h64.out) Tryd.underlying70 rfl (by kernel_rfl) ?_)
    | (go_at_call 41; refine (with_any m xs n st last v _ HR.out HVV.out HBB.out hsz HV.out).mono ?_; rintro e w2 ⟨n2, st2, last2, rfl, hr, hb⟩; have HR2 := Lib.hid hr; have HB2 := Lib.hid hb; have HA2 := Lib.hid (HA0.out.step hb); have h82 := Lib.hid hr.st8; have h642 := Lib.hid hr.len; clear hr hb)
    | ((with_reducible refine atOp ⟨none, .store 70 _ _, _, _, _, _⟩ ?_); refine wpList_store_at rfl 70 (.tmp 16) (.tmp 14) rfl g 1 (tL n2 st2 last2) rfl rfl 72 (hashL (some ⟨g, 0, none⟩) n st last) HA2.out (by rw [tL_len n2 h82.out h642.out]; kernel_rfl) (by rw [tL_len n2 h82.out h642.out, hashL_len _ n h8.out h64.out]; omega) (tL_one _ _ _) ?_; rw [hashL_set _ n n2 h8.out h64.out h82.out h642.out]))
  go_ret
  exact ⟨rfl, ⟨n2, st2, last2, HA2.out.row _, HR2.out⟩, grow_call g _ HB2.out⟩
set_option maxRecDepth 20000 in
set_option maxHeartbeats 2000000 in
theorem reset_any (g : Nat) (m : List Nat) (w : World) (hh : HA w g m) (hV : VK w) : Calls Tryd.prog 31 #[.pointer (some ⟨g, 0, none⟩)] w (Turned w g []) := by
  have c0 := hh.self
  obtain ⟨n, st, last, har, hR⟩ := hh
  have h8 := Lib.hid hR.st8; have h64 := Lib.hid hR.len
  have HA0 := Lib.hid har; have HV := Lib.hid hV
  clear har hR hV
  go_enter Tryd.func31, Tryd.ntmps31
  go_wp2_with (first
    | (go_at_call 49; refine (isMade_yes g _ c0).mono ?_; rintro e w1 ⟨rfl, rfl⟩)
    | (go_at_call 40; refine (nothing_any _ HV.out).mono ?_; rintro e w2 ⟨rfl, hb⟩; have HB2 := Lib.hid hb; have HA2 := Lib.hid (HA0.out.step hb); clear hb)
    | ((with_reducible refine atOp ⟨none, .store 70 _ _, _, _, _, _⟩ ?_); refine wpList_store_at rfl 70 (.tmp 9) (.tmp 7) rfl g 1 (tL 0 hL (List.replicate 64 0)) rfl rfl 72 (hashL (some ⟨g, 0, none⟩) n st last) HA2.out (by kernel_rfl) (by rw [tL_len 0 rfl rfl, hashL_len _ n h8.out h64.out]; omega) (tL_one _ _ _) ?_; rw [hashL_set _ n 0 h8.out h64.out rfl rfl]))
  go_ret
  exact ⟨rfl, ⟨0, hL, List.replicate 64 0, HA2.out.row _, Rep.nil⟩, grow_call g _ HB2.out⟩
set_option maxRecDepth 20000 in
set_option maxHeartbeats 2000000 in
theorem hsum_any (g : Nat) (m : List Nat) (w : World) (hh : HA w g m) (hsz : m.length ≤ 1000000) (hV : VK w) : Calls Tryd.prog 29 #[.pointer (some ⟨g, 0, none⟩)] w (Gives w (.tuple #[.agg (yV (shaL m)), .int .i64 0])) := by
  have hlt := hh.inside
  have c0 : (w.alloc (.cells (yV (List.replicate 32 0)) 32)).cell? ⟨g, 0, none⟩ = some (.pointer (some ⟨g, 0, none⟩)) := (hh.step (bl_self w _)).self
  have hh1 := hh.step (bl_self w (.cells (yV (List.replicate 32 0)) 32))
  obtain ⟨n, st, last, har, hR⟩ := hh1
  have h8 := Lib.hid hR.st8; have h64 := Lib.hid hR.len
  have HA0 := Lib.hid har; have HR := Lib.hid hR; have HV := Lib.hid (hV.below (bl_self w (.cells (yV (List.replicate 32 0)) 32)))
  have HRES : Hid (AR (w.alloc (.cells (yV (List.replicate 32 0)) 32)) w.heap.size 32 (yV (List.replicate 32 0))) := Lib.hid (AR.made _ _ _)
  clear har hR hV hh
  go_enter Tryd.func29, Tryd.ntmps29
  go_wp2_with (first
    | (go_at_call 49; refine (isMade_yes g _ c0).mono ?_; rintro e w1 ⟨rfl, rfl⟩)
    | ((with_reducible refine atOp ⟨some 11, _, _, _, _, _⟩ ?_); refine wpList_load_at rfl 70 (.tmp 10) rfl g 1 73 rfl 72 (hashL (some ⟨g, 0, none⟩) n st last) (tL n st last) _ HA0.out (hashL_t _ n h8.out h64.out) (tL_len n h8.out h64.out) Tryd.underlying70 rfl (by kernel_rfl) ?_)
    | (go_at_call 42; refine (digest_any m n st last _ HR.out hsz HV.out).mono ?_; rintro e w2 ⟨rfl, hb⟩; have HB2 := Lib.hid hb; have HRES2 := Lib.hid (HRES.out.step hb); clear hb)
    | ((with_reducible refine atOp ⟨none, .store 32 _ _, _, _, _, _⟩ ?_); refine wpList_store_row rfl 32 (.tmp 2) (.tmp 12) rfl w.heap.size (yV (shaL m)) rfl rfl 32 (yV (List.replicate 32 0)) HRES2.out (info32 _ (shaL_len _)) (by rw [yV_size, yV_size, shaL_len]; rfl) (yV_one _) ?_))
  refine bodyPost_ret (v := .tuple #[.agg (yV (shaL m)), .int .i64 0]) (results_row_tmp Tryd.results29 _ _ w.heap.size 32 _ (0, 0) _ _ rfl rfl (HRES2.out.row _) Tryd.underlying32 rfl (info32 _ (shaL_len _))) rfl ⟨rfl, bl_row _ (bl_call (bl_self w _) HB2.out) (by omega)⟩
theorem hlen_any (g : Nat) (m : List Nat) (w : World) (hh : HA w g m) (hsz : m.length ≤ 1000000) : Calls Tryd.prog 30 #[.pointer (some ⟨g, 0, none⟩)] w fun e w' => e = .returned (.tuple #[.int .i64 m.length, .int .i64 0]) ∧ w = w' := by
  have c0 := hh.self
  obtain ⟨n, st, last, har, hR⟩ := hh
  obtain ⟨k, hk⟩ : ∃ k, m.length = k := ⟨_, rfl⟩
  have c1 := har.at (i := 1) (v := .int .u64 n) rfl
  have hn := hR.size
  rw [hk] at hn hsz ⊢
  subst hn
  have HK := Lib.hid hk; clear hk har hR
  have e1 : IntKind.i64.wrap (n : Int) = (n : Int) := by rw [IntKind.wrap_i64]; omega
  go_enter Tryd.func30, Tryd.ntmps30
  go_wp2_with (go_at_call 49; refine (isMade_yes g _ c0).mono ?_; rintro e w1 ⟨rfl, rfl⟩)
  go_ret2
  exact ⟨rfl, rfl⟩
/-- What Copy returns. -/
def Copied (w : World) (m : List Nat) (e : Ending) (w' : World) : Prop := ∃ g, e = .returned (.tuple #[.pointer (some ⟨g, 0, none⟩), .int .i64 0]) ∧ HA w' g m ∧ w.heap.size ≤ g ∧ Below w.heap.size w w'
set_option maxRecDepth 20000 in
set_option maxHeartbeats 2000000 in
theorem copy_any (g : Nat) (m : List Nat) (w : World) (hh : HA w g m) : Calls Tryd.prog 32 #[.pointer (some ⟨g, 0, none⟩)] w (Copied w m) := by
  have c0 := hh.self
  obtain ⟨n, st, last, har, hR⟩ := hh
  have h8 := Lib.hid hR.st8; have h64 := Lib.hid hR.len
  have HA0 := Lib.hid har; have HR := Lib.hid hR
  clear har hR
  go_enter Tryd.func32, Tryd.ntmps32
  go_wp2_with (first
    | (go_at_call 49; refine (isMade_yes g _ c0).mono ?_; rintro e w1 ⟨rfl, rfl⟩)
    | ((with_reducible refine atOp ⟨some 10, _, _, _, _, _⟩ ?_); refine wpList_load_at rfl 70 (.tmp 9) rfl g 1 73 rfl 72 (hashL (some ⟨g, 0, none⟩) n st last) (tL n st last) _ HA0.out (hashL_t _ n h8.out h64.out) (tL_len n h8.out h64.out) Tryd.underlying70 rfl (by kernel_rfl) ?_)
    | (go_at_call 48; refine (made_any m n st last _ HR.out).mono ?_; rintro e w2 ⟨g2, rfl, hh, hg, hb⟩; have HH := Lib.hid hh; have HG := Lib.hid hg; have HB2 := Lib.hid hb; clear hh hg hb))
  go_ret2
  exact ⟨g2, rfl, HH.out, HG.out, HB2.out⟩
end Go.Proofs.YtipcanphkdodaaaDoor
