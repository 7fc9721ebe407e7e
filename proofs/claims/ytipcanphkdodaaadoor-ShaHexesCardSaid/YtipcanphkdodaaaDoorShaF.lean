/- The contract of the program's function that takes bytes. -/
import Derived.Test.YtipcanphkdodaaaDoorShaE
namespace Go.Proofs.YtipcanphkdodaaaDoor
open Go.RowKit Go.Lib
set_option linter.unusedVariables false

theorem info73 {n : Nat} {st last : List Nat} (h : st.length = 8) (h2 : last.length = 64) : (Tryd.prog.info? 70).map (·.size) = some (tV n st last).size := by rw [tV_size n h h2]; kernel_rfl
theorem zero73 : ∀ w : World, (zeroValue 70).run Tryd.prog w = .ok (.agg (tV 0 (List.replicate 8 0) (List.replicate 64 0))) w := (zero_of_info (n := 73) (by kernel_rfl)).1

structure WtW (w : World) (m xs : List Nat) (j n : Nat) (st last : List Nat) (v : Value) (W : World) : Prop where
  rep : Rep (m ++ xs.take j) n st last
  src : RN w v (xs.drop j)
  box : AR W w.heap.size 70 (tV n st last)
  res : AR W (w.heap.size + 1) 70 (tV 0 (List.replicate 8 0) (List.replicate 64 0))
  bel : Below w.heap.size w W
theorem WtW.start {w : World} {m xs : List Nat} {n : Nat} {st last : List Nat} {v : Value} {Z : Array Value} (hR : Rep m n st last) (hv : RN w v xs) (hZ : Z = tV 0 (List.replicate 8 0) (List.replicate 64 0)) :
    WtW w m xs 0 n st last v ((w.alloc (.cells (tV n st last) 70)).alloc (.cells Z 70)) := by
  subst hZ
  refine ⟨by rw [List.take_zero, List.append_nil]; exact hR, hv, (AR.made _ _ _).more _, ?_, bl_alloc _ (bl_alloc _ (Below.refl _ _))⟩
  have := AR.made (w.alloc (.cells (tV n st last) 70)) 70 (tV 0 (List.replicate 8 0) (List.replicate 64 0))
  rw [size_more] at this
  exact this
theorem slice64 (B o : Nat) (h : o < 64) (w : World) : (Instr.sliceAt 24 (.pointer (some ⟨B, 9, none⟩)) (some (.int .u64 (o : Int))) none none).run Tryd.prog w = .ok (.slice (some ⟨B, 9 + o, none⟩) (64 - o) (64 - o)) w := by
  have h1 := run_sliceAt_array_l (P := Tryd.prog) w 24 ⟨B, 9, none⟩ (by kernel_rfl) .u64 (o : Int) (by omega) (by rw [show Tryd.prog.arrayLen 24 = 64 by kernel_rfl]; omega)
  rw [h1, show Tryd.prog.arrayLen 24 = 64 by kernel_rfl]
  have hz : (sizeOf (Tryd.prog.elem 24)).run Tryd.prog w = .ok 1 w := by kernel_rfl
  rw [hz]
  simp only [Result.andThen_ok, slicedAt, Int.toNat_natCast, if_neg (show ¬ 64 = o by omega), Nat.mul_one, Addr.add_mid]
theorem RN.cutAll {w : World} {rs : List Nat} {g off k : Nat} (c' : Nat) (hk : k ≤ rs.length) (hle : rs.length ≤ k) : RN w (.slice (some ⟨g, off, none⟩) (rs.length - k) c') (rs.drop k) := by
  have e : rs.length - k = 0 := by omega
  rw [e]
  exact .inl ⟨_, _, rfl, List.drop_of_length_le (by omega), fun h => by cases h⟩
theorem RN.cut0 {w : World} {rs : List Nat} {g off k : Nat} (c' : Nat) (hle : rs.length ≤ k) : RN w (.slice (some ⟨g, off, none⟩) 0 c') (rs.drop k) := .inl ⟨_, _, rfl, List.drop_of_length_le hle, fun h => by cases h⟩
theorem RN.cut {w : World} {rs : List Nat} {g off c k : Nat} (hg : g < w.heap.size) (hk : k ≤ rs.length) (hle : rs.length ≤ c) (hm : c ≤ maxLen) (h : ∀ i, i < rs.length → w.cell? ⟨g, off + i, none⟩ = some (.int .u8 (rs.getD i 0 : Nat))) :
    RN w (.slice (some ⟨g, off + k, none⟩) (rs.length - k) (c - k)) (rs.drop k) := by
  rcases Nat.eq_or_lt_of_le hk with e | hlt
  · have e0 : rs.length - k = 0 := by omega
    rw [e0]
    exact .inl ⟨_, _, rfl, List.drop_of_length_le (by omega), fun h => by cases h⟩
  · refine .inr ⟨g, off + k, c - k, by rw [List.length_drop], hg, by rw [List.length_drop]; omega, by rw [List.length_drop]; omega, by omega, fun i hi => ?_⟩
    rw [List.length_drop] at hi
    have := h (k + i) (by omega)
    rw [← Nat.add_assoc] at this
    rw [this, List.getD_eq_getElem?_getD, List.getD_eq_getElem?_getD, List.getElem?_drop]
def lenOf : Value → Nat
  | .slice _ n _ => n
  | _ => 0

/-- What the function returns. -/
def Took (w : World) (mm : List Nat) (e : Ending) (w' : World) : Prop := ∃ n st last, e = .returned (.agg (tV n st last)) ∧ Rep mm n st last ∧ Below w.heap.size w w'

set_option maxRecDepth 20000 in
set_option maxHeartbeats 4000000 in
theorem with_any (m xs : List Nat) (n0 : Nat) (st0 last0 : List Nat) (v : Value) (w : World) (hR : Rep m n0 st0 last0) (hv : RN w v xs) (hbx : BB xs) (hsz : m.length + xs.length < 9223372036854775808) (hV : VK w) :
    Calls Tryd.prog 41 #[.agg (tV n0 st0 last0), v] w (Took w (m ++ xs)) := by
  obtain ⟨A, c0, rfl⟩ := hv.len
  have HR := Lib.hid hR; have HV0 := Lib.hid hv; have HBX := Lib.hid hbx; have HVK := Lib.hid hV
  clear hR hv hbx hV
  have zz := zero73
  go_enter Tryd.func41, Tryd.ntmps41
  go_wp2_with fail
  clear zz
  go_loopw [1] (fun v wr => ∃ (j n : Nat) (st last : List Nat), j ≤ xs.length ∧ Hid (WtW w m xs j n st last v wr)) (fun v _ => lenOf v)
  case atStart => exact ⟨0, n0, st0, last0, by omega, Lib.hid (WtW.start HR.out HV0.out rfl)⟩
  case round =>
    obtain ⟨j, n, st, last, hj, HW⟩ := hrel
    obtain ⟨rs, hrs⟩ : ∃ rs, xs.drop j = rs := ⟨_, rfl⟩
    have hlen : rs.length = xs.length - j := by rw [← hrs, List.length_drop]
    have hsrc := HW.out.src
    rw [hrs] at hsrc
    have h8 := Lib.hid HW.out.rep.st8
    have h64 := Lib.hid HW.out.rep.len
    have hn : n = m.length + j := by rw [HW.out.rep.size, List.length_append, List.length_take, Nat.min_eq_left hj]
    have hB : BB rs := by rw [← hrs]; exact HBX.out.drop j
    rcases hsrc with ⟨A1, c1, rfl, rfl, hnil⟩ | ⟨g, off, c, rfl, hg, h0, hle, hm, hcell⟩
    · -- nothing is left
      have hj2 : j = xs.length := by simp at hlen; omega
      subst hj2
      have HRP : Hid (Rep (m ++ xs) n st last) := Lib.hid (by have := HW.out.rep; rw [List.take_length] at this; exact this)
      clear hrs hlen hn hnil
      go_wp2_with (first
        | ((with_reducible refine atOp ⟨some 35, _, _, _, _, _⟩ ?_); refine wpList_load_row rfl 70 _ rfl w.heap.size rfl 70 (tV n st last) (0, 0) _ HW.out.box Tryd.underlying70 rfl (info73 h8.out h64.out) ?_)
        | ((with_reducible refine atOp ⟨none, .store 70 _ _, _, _, _, _⟩ ?_); refine wpList_store_row rfl 70 (.tmp 4) (.tmp 35) rfl (w.heap.size + 1) (tV n st last) rfl rfl 70 (tV 0 (List.replicate 8 0) (List.replicate 64 0)) HW.out.res (info73 h8.out h64.out) (by rw [tV_size n h8.out h64.out]; rfl) (tV_one _ _ _) ?_))
      refine bodyPost_ret (v := .agg (tV n st last)) (results_cell_row Tryd.results41 _ _ (w.heap.size + 1) 70 _ (0, 0) _ rfl (HW.out.res.row _) Tryd.underlying70 rfl (info73 h8.out h64.out)) rfl ⟨n, st, last, rfl, HRP.out, bl_row _ HW.out.bel (by omega)⟩
    · obtain ⟨o, ho⟩ : ∃ o, n % 64 = o := ⟨_, rfl⟩
      have ho64 : o < 64 := by omega
      obtain ⟨k, hk⟩ : ∃ k, Nat.min rs.length (64 - o) = k := ⟨_, rfl⟩
      have hk1 : 1 ≤ k := by rw [← hk]; exact Nat.le_min.2 ⟨h0, by omega⟩
      have hk2 : k ≤ rs.length := by rw [← hk]; exact Nat.min_le_left _ _
      have hk3 : o + k ≤ 64 := by have : k ≤ 64 - o := by rw [← hk]; exact Nat.min_le_right _ _
                                  omega
      obtain ⟨N, hN⟩ : ∃ N, n + k = N := ⟨_, rfl⟩
      have e1 : (n : Int) % 64 = (o : Int) := by omega
      have e2 : IntKind.u64.wrap ((n : Int) + (k : Int)) = (N : Int) := by rw [IntKind.wrap_u64]; omega
      have e3 : IntKind.u64.wrap (k : Int) = (k : Int) := by rw [IntKind.wrap_u64]; omega
      have b0 := HW.out.box.at (i := 0) (v := .int .u64 n) rfl
      have f0 := HW.out.box.free 0
      have hys : (yL (rs.take k)).length = k := by rw [yL_len, List.length_take, Nat.min_eq_left hk2]
      have HS : Hid (∀ jj v, (yL (rs.take k))[jj]? = some v → wr.cell? ((⟨g, off, none⟩ : Addr).add jj) = some v) := Lib.hid (by
        intro jj u hu
        rw [yL, List.getElem?_map] at hu
        have hjk : jj < (rs.take k).length := by
          rcases Nat.lt_or_ge jj (rs.take k).length with h | h
          · exact h
          · rw [List.getElem?_eq_none h] at hu; simp at hu
        have hjr : jj < rs.length := by rw [List.length_take] at hjk; omega
        rw [Addr.add_mid, HW.out.bel.cell (p := ⟨g, off + jj, none⟩) hg, hcell jj hjr, ← hu, List.getElem?_take, if_pos (by rw [List.length_take] at hjk; omega), List.getD_eq_getElem?_getD, List.getElem?_eq_getElem hjr]
        rfl)
      have HMIN : Hid ((yL (rs.take k)).length = Nat.min rs.length (64 - o)) := Lib.hid (by rw [hk, hys])
      have HYS := Lib.hid hys
      have HCELL := Lib.hid hcell
      have HO := Lib.hid ho
      have HN := Lib.hid hN
      have HRS := Lib.hid hrs
      have HLEN := Lib.hid hlen
      have hN63 : N < 9223372036854775808 := by omega
      have hrl : rs.length < 9223372036854775808 := by omega
      clear hk hcell hys ho hrs hlen hN hn
      unfold maxLen at hm
      obtain ⟨L1, hL1⟩ : ∃ L1, put last o (rs.take k) = L1 := ⟨_, rfl⟩
      have hysl : (rs.take k).length = k := by rw [List.length_take, Nat.min_eq_left hk2]
      have HCP : Hid ((List.take (9 + o) (tV n st last).toList ++ (yL (rs.take k) ++ List.drop (9 + o + (yL (rs.take k)).length) (tV n st last).toList)).toArray = tV n st L1) := Lib.hid (by
        have := tL_setL (st := st) (last := last) (ys := rs.take k) n o h8.out h64.out (by rw [hysl]; omega)
        rw [hL1] at this
        show (splice (tL n st last) (9 + o) (yL (rs.take k))).toArray = _
        rw [this]; rfl)
      have hL64 : L1.length = 64 := by rw [← hL1]; exact put_len h64.out (by rw [hysl]; omega)
      have hLB : BB L1 := by rw [← hL1]; exact put_bb HW.out.rep.byte (hB.take k)
      have hRP : ∀ ys, ys = rs.take k → Rep (m ++ xs.take j) n st last := fun _ _ => HW.out.rep
      obtain ⟨w1, hw1⟩ : ∃ w1, w1 = wr.setRow w.heap.size (tV n st L1) := ⟨_, rfl⟩
      have B1 : Hid (AR w1 w.heap.size 70 (tV n st L1)) := Lib.hid (by rw [hw1]; exact HW.out.box.row _)
      have R1 : Hid (AR w1 (w.heap.size + 1) 70 (tV 0 (List.replicate 8 0) (List.replicate 64 0))) := Lib.hid (by rw [hw1]; exact HW.out.res.apart (by omega) _)
      have L1b : Hid (Below w.heap.size w w1) := Lib.hid (by rw [hw1]; exact bl_row _ HW.out.bel (by omega))
      have b1 := B1.out.at (i := 0) (v := .int .u64 n) rfl
      have f1 := B1.out.free 0
      have B2 : Hid (AR (w1.setCell ⟨w.heap.size, 0, none⟩ (.int .u64 N)) w.heap.size 70 (tV N st L1)) := Lib.hid (by have := B1.out.put 0 (.int .u64 N); exact this)
      have R2 : Hid (AR (w1.setCell ⟨w.heap.size, 0, none⟩ (.int .u64 N)) (w.heap.size + 1) 70 (tV 0 (List.replicate 8 0) (List.replicate 64 0))) := Lib.hid (R1.out.kept (show w.heap.size + 1 ≠ w.heap.size by omega) _)
      have L2 : Hid (Below w.heap.size w (w1.setCell ⟨w.heap.size, 0, none⟩ (.int .u64 N))) := Lib.hid (bl_set _ L1b.out (show w.heap.size ≤ w.heap.size by omega))
      have b2 := B2.out.at (i := 0) (v := .int .u64 N) rfl
      have HNEXT : Hid (Rep (m ++ xs.take (j + k)) N (if o + k = 64 then blockL st L1 else st) L1 ∧ j + k ≤ xs.length) := Lib.hid (by
        have hl := HLEN.out
        have e : m ++ xs.take (j + k) = m ++ xs.take j ++ rs.take k := by rw [← HRS.out, List.append_assoc, List.take_add]
        refine ⟨?_, by omega⟩
        rw [e, ← HN.out, ← hL1, ← HO.out]
        have hsum : n + k = n + (rs.take k).length := by rw [hysl]
        rw [hsum]
        split
        · rename_i hh; exact HW.out.rep.block (hB.take k) (by rw [hysl]; exact hh)
        · rename_i hh; exact HW.out.rep.more (hB.take k) (by rw [hysl]; omega) (by rw [hysl]; have := HO.out; omega))
      have HW1 := Lib.hid hw1
      have HL1 := Lib.hid hL1
      have HLL := Lib.hid hL64; have HLBB := Lib.hid hLB; have HYL := Lib.hid hysl
      clear hw1 hL1 hL64 hLB hysl hRP
      have hsl := slice64 w.heap.size o ho64
      by_cases hck : c = k
      · subst hck
        by_cases hfull : o + c = 64
        · have hb1 : ((N : Int) % 64 == 0) = true := by have := HN.out; have := HO.out; simp; omega
          have HST : Hid (Rep (m ++ xs.take (j + c)) N (blockL st L1) L1) := Lib.hid (by have := HNEXT.out.1; rw [if_pos hfull] at this; exact this)
          go_wp2_with (first
            | ((with_reducible refine atOp ⟨some 15, _, _, _, _, _⟩ ?_); refine wpList_copy_own rfl (.tmp 13) (.tmp 14) 31 31 rfl 5 Tryd.underlying31 (by kernel_rfl) w.heap.size (9 + o) (64 - o) (64 - o) ⟨g, off, none⟩ rs.length c rfl rfl (tV n st last) 70 HW.out.box (yL (rs.take c)) HMIN.out HS.out (by rw [tV_size n h8.out h64.out, HYS.out]; omega) (yL_one _) ?_; rw [HCP.out, ← HW1.out, HYS.out])
            | ((with_reducible refine atOp ⟨some 30, _, _, _, _, _⟩ ?_); refine wpList_load_at rfl 23 (.tmp 29) rfl w.heap.size 1 8 rfl 70 (tL N st L1) (uL st) _ B2.out (tL_st N h8.out) (by rw [uL_len]; exact h8.out) Tryd.underlying23 rfl (by kernel_rfl) ?_)
            | ((with_reducible refine atOp ⟨some 32, _, _, _, _, _⟩ ?_); refine wpList_load_at rfl 24 (.tmp 31) rfl w.heap.size 9 64 rfl 70 (tL N st L1) (yL L1) _ B2.out (tL_last N h8.out HLL.out) (by rw [yL_len]; exact HLL.out) Tryd.underlying24 rfl (by kernel_rfl) ?_)
            | (go_at_call 12; refine (block_any st L1 _ h8.out HW.out.rep.ww HLBB.out HLL.out (HVK.out.below L2.out)).mono ?_; rintro e w2 ⟨rfl, hb⟩; have B3 := Lib.hid (B2.out.step hb); have R3 := Lib.hid (R2.out.step hb); have L3 := Lib.hid (bl_call L2.out hb); clear hb)
            | ((with_reducible refine atOp ⟨none, .store 23 _ _, _, _, _, _⟩ ?_); refine wpList_store_at rfl 23 (.tmp 34) (.tmp 33) rfl w.heap.size 1 (uL (blockL st L1)) rfl rfl 70 (tL N st L1) B3.out (by rw [uL_len, blockL_len _ h8.out]; kernel_rfl) (by rw [uL_len, blockL_len _ h8.out, tL_len N h8.out HLL.out]; omega) (uL_one _) ?_; rw [tL_setS N h8.out (blockL_len _ h8.out)]))
          go_roundw
          case rel => (repeat apply Exists.intro); refine ⟨?_, rfl⟩; exact ⟨j + c, N, blockL st L1, L1, HNEXT.out.2, Lib.hid ⟨HST.out, by rw [← List.drop_drop, HRS.out]; exact RN.cut0 _ hle, B3.out.row _, R3.out.apart (by omega) _, bl_row _ L3.out (by omega)⟩⟩
          case measure => show 0 < rs.length; omega
        · have hb1 : ((N : Int) % 64 == 0) = false := by have := HN.out; have := HO.out; simp; omega
          have HST : Hid (Rep (m ++ xs.take (j + c)) N st L1) := Lib.hid (by have := HNEXT.out.1; rw [if_neg hfull] at this; exact this)
          go_wp2_with ((with_reducible refine atOp ⟨some 15, _, _, _, _, _⟩ ?_); refine wpList_copy_own rfl (.tmp 13) (.tmp 14) 31 31 rfl 5 Tryd.underlying31 (by kernel_rfl) w.heap.size (9 + o) (64 - o) (64 - o) ⟨g, off, none⟩ rs.length c rfl rfl (tV n st last) 70 HW.out.box (yL (rs.take c)) HMIN.out HS.out (by rw [tV_size n h8.out h64.out, HYS.out]; omega) (yL_one _) ?_; rw [HCP.out, ← HW1.out, HYS.out])
          go_roundw
          case rel => exact ⟨j + c, N, st, L1, HNEXT.out.2, Lib.hid ⟨HST.out, by rw [← List.drop_drop, HRS.out]; exact RN.cut0 _ hle, B2.out, R2.out, L2.out⟩⟩
          case measure => show 0 < rs.length; omega
      · by_cases hfull : o + k = 64
        · have hb1 : ((N : Int) % 64 == 0) = true := by have := HN.out; have := HO.out; simp; omega
          have HST : Hid (Rep (m ++ xs.take (j + k)) N (blockL st L1) L1) := Lib.hid (by have := HNEXT.out.1; rw [if_pos hfull] at this; exact this)
          go_wp2_with (first
            | ((with_reducible refine atOp ⟨some 15, _, _, _, _, _⟩ ?_); refine wpList_copy_own rfl (.tmp 13) (.tmp 14) 31 31 rfl 5 Tryd.underlying31 (by kernel_rfl) w.heap.size (9 + o) (64 - o) (64 - o) ⟨g, off, none⟩ rs.length c rfl rfl (tV n st last) 70 HW.out.box (yL (rs.take k)) HMIN.out HS.out (by rw [tV_size n h8.out h64.out, HYS.out]; omega) (yL_one _) ?_; rw [HCP.out, ← HW1.out, HYS.out])
            | ((with_reducible refine atOp ⟨some 30, _, _, _, _, _⟩ ?_); refine wpList_load_at rfl 23 (.tmp 29) rfl w.heap.size 1 8 rfl 70 (tL N st L1) (uL st) _ B2.out (tL_st N h8.out) (by rw [uL_len]; exact h8.out) Tryd.underlying23 rfl (by kernel_rfl) ?_)
            | ((with_reducible refine atOp ⟨some 32, _, _, _, _, _⟩ ?_); refine wpList_load_at rfl 24 (.tmp 31) rfl w.heap.size 9 64 rfl 70 (tL N st L1) (yL L1) _ B2.out (tL_last N h8.out HLL.out) (by rw [yL_len]; exact HLL.out) Tryd.underlying24 rfl (by kernel_rfl) ?_)
            | (go_at_call 12; refine (block_any st L1 _ h8.out HW.out.rep.ww HLBB.out HLL.out (HVK.out.below L2.out)).mono ?_; rintro e w2 ⟨rfl, hb⟩; have B3 := Lib.hid (B2.out.step hb); have R3 := Lib.hid (R2.out.step hb); have L3 := Lib.hid (bl_call L2.out hb); clear hb)
            | ((with_reducible refine atOp ⟨none, .store 23 _ _, _, _, _, _⟩ ?_); refine wpList_store_at rfl 23 (.tmp 34) (.tmp 33) rfl w.heap.size 1 (uL (blockL st L1)) rfl rfl 70 (tL N st L1) B3.out (by rw [uL_len, blockL_len _ h8.out]; kernel_rfl) (by rw [uL_len, blockL_len _ h8.out, tL_len N h8.out HLL.out]; omega) (uL_one _) ?_; rw [tL_setS N h8.out (blockL_len _ h8.out)]))
          go_roundw
          case rel => (repeat apply Exists.intro); refine ⟨?_, rfl⟩; exact ⟨j + k, N, blockL st L1, L1, HNEXT.out.2, Lib.hid ⟨HST.out, by rw [← List.drop_drop, HRS.out]; exact RN.cut hg hk2 hle (by unfold maxLen; omega) HCELL.out, B3.out.row _, R3.out.apart (by omega) _, bl_row _ L3.out (by omega)⟩⟩
          case measure => show rs.length - k < rs.length; omega
        · have hb1 : ((N : Int) % 64 == 0) = false := by have := HN.out; have := HO.out; simp; omega
          have HST : Hid (Rep (m ++ xs.take (j + k)) N st L1) := Lib.hid (by have := HNEXT.out.1; rw [if_neg hfull] at this; exact this)
          go_wp2_with ((with_reducible refine atOp ⟨some 15, _, _, _, _, _⟩ ?_); refine wpList_copy_own rfl (.tmp 13) (.tmp 14) 31 31 rfl 5 Tryd.underlying31 (by kernel_rfl) w.heap.size (9 + o) (64 - o) (64 - o) ⟨g, off, none⟩ rs.length c rfl rfl (tV n st last) 70 HW.out.box (yL (rs.take k)) HMIN.out HS.out (by rw [tV_size n h8.out h64.out, HYS.out]; omega) (yL_one _) ?_; rw [HCP.out, ← HW1.out, HYS.out])
          go_roundw
          case rel => exact ⟨j + k, N, st, L1, HNEXT.out.2, Lib.hid ⟨HST.out, by rw [← List.drop_drop, HRS.out]; exact RN.cut hg hk2 hle (by unfold maxLen; omega) HCELL.out, B2.out, R2.out, L2.out⟩⟩
          case measure => show rs.length - k < rs.length; omega
end Go.Proofs.YtipcanphkdodaaaDoor
