/- The contracts of the program's nothing and digest. -/
import Derived.Test.YtipcanphkdodaaaDoorShaG
import Derived.Great.BuildSlice
namespace Go.Proofs.YtipcanphkdodaaaDoor
open Go.RowKit Go.Lib
set_option linter.unusedVariables false

theorem VK.startAt {W : World} (h : VK W) : ∃ t fr, W.heap[1]? = some (.cells (uV hL) t fr) := h.h
def Gives (w : World) (v : Value) (e : Ending) (w' : World) : Prop := e = .returned v ∧ Below w.heap.size w w'
theorem info73z : (Tryd.prog.info? 70).map (·.size) = some (tV 0 hL (List.replicate 64 0)).size := info73 rfl rfl

set_option maxRecDepth 20000 in
set_option maxHeartbeats 2000000 in
theorem nothing_any (w : World) (hV : VK w) : Calls Tryd.prog 40 #[] w (Gives w (.agg (tV 0 hL (List.replicate 64 0)))) := by
  obtain ⟨t, fr, hst⟩ := hV.startAt
  have hlt : 1 < w.heap.size := (Array.getElem?_eq_some_iff.1 hst).1
  have HST : Hid ((w.alloc (.cells (tV 0 (List.replicate 8 0) (List.replicate 64 0)) 70)).heap[1]? = some (.cells (uV hL) t fr)) := Lib.hid ((((bl_alloc _ (Below.refl _ _)) : Below w.heap.size w (w.alloc (.cells (tV 0 (List.replicate 8 0) (List.replicate 64 0)) 70))).block _ hlt).trans hst)
  have zz := zero73
  clear hV hst
  go_enter Tryd.func40, Tryd.ntmps40
  go_wp2_with (first
    | ((with_reducible refine atOp ⟨some 1, _, _, _, _, _⟩ ?_); refine wpList_load_row rfl 23 _ rfl 1 rfl t (uV hL) fr _ HST.out Tryd.underlying23 rfl (info8 hL rfl) ?_)
    | ((with_reducible refine atOp ⟨some 2, _, _, _, _, _⟩ ?_); refine wpList_buildTo rfl 70 _ rfl (some 2) rfl (tV 0 hL (List.replicate 64 0)) (by kernel_rfl) ?_)
    | ((with_reducible refine atOp ⟨none, .store 70 _ _, _, _, _, _⟩ ?_); refine wpList_store_row rfl 70 (.tmp 0) (.tmp 2) rfl w.heap.size (tV 0 hL (List.replicate 64 0)) rfl rfl 70 (tV 0 (List.replicate 8 0) (List.replicate 64 0)) (AR.made w _ _) info73z rfl (tV_one _ _ _) ?_))
  refine bodyPost_ret (v := .agg (tV 0 hL (List.replicate 64 0))) (results_cell_row Tryd.results40 _ _ w.heap.size 70 _ (0, 0) _ rfl ((AR.made w _ _).row _) Tryd.underlying70 rfl info73z) rfl ⟨rfl, bl_row _ (bl_alloc _ (Below.refl _ _)) (by omega)⟩

/-- A whole row is read, in a region that draws its order. -/
theorem yields_row {P : Program} {ops : Array Oper} {S : World → Prop} {op : Oper} {a : Act} (hw : Region.wanted op (yielded ops a.tmps) = true) (ty : TypeId) (x : Operand) (ho : op.op = .load ty x) (g : Nat) (hx : a.eval x = .pointer (some ⟨g, 0, none⟩)) (t : TypeId) (cs : Array Value) (d : TypeDesc) (hS : ∀ w, S w → AR w g t cs)
    (hu : P.underlying ty = some d) (hd : (match d with | .struct _ | .array _ _ => true | _ => false) = true) (hi : (P.info? ty).map (·.size) = some cs.size) : YieldsIf P ops S op (.agg cs) a :=
  .inl ⟨hw, fun w hw' => by
    unfold execOp
    simp only [ho, hx, Instr.loadAt, Instr.sureAddr, Sem.run_bind, Sem.run_pure, Result.andThen_ok, run_loadVar_row w g t ty cs (0, 0) d (hS w hw') hu hd hi]⟩

structure DgA (w : World) (n : Nat) (st last : List Nat) (W : World) : Prop where
  box : AR W w.heap.size 70 (tV n st last)
  res : AR W (w.heap.size + 1) 32 (yV (List.replicate 32 0))
  bel : Below w.heap.size w W
theorem DgA.step {w W W' : World} {n : Nat} {st last : List Nat} (h : DgA w n st last W) (hb : Below W.heap.size W W') : DgA w n st last W' := ⟨h.box.step hb, h.res.step hb, bl_call h.bel hb⟩
theorem DgA.start (w : World) (n : Nat) (st last : List Nat) {Z : Array Value} (hZ : Z = yV (List.replicate 32 0)) : DgA w n st last ((w.alloc (.cells (tV n st last) 70)).alloc (.cells Z 32)) := by
  subst hZ
  refine ⟨(AR.made _ _ _).more _, ?_, bl_alloc _ (bl_alloc _ (Below.refl _ _))⟩
  have := AR.made (w.alloc (.cells (tV n st last) 70)) 32 (yV (List.replicate 32 0))
  rw [size_more] at this
  exact this
theorem bl_self (w : World) (o : Obj) : Below w.heap.size w (w.alloc o) := bl_alloc o (Below.refl _ _)

/-- What the digest's first statement leaves. -/
def Padded (w : World) (m : List Nat) (v : Value) (W : World) : Prop := ∃ g n st last, v = .pointer (some ⟨g, 0, none⟩) ∧ AR W g 70 (tV n st last) ∧ Rep (allL m) n st last ∧ AR W (w.heap.size + 1) 32 (yV (List.replicate 32 0)) ∧ Below w.heap.size w W

structure DgB (w : World) (d : Nat) (l : List Nat) (W : World) : Prop where
  row : AR W d 32 (yV l)
  res : AR W (w.heap.size + 1) 32 (yV (List.replicate 32 0))
  ne : w.heap.size + 1 < d
  bel : Below w.heap.size w W
theorem DgB.put {w W : World} {d : Nat} {l : List Nat} (h : DgB w d l W) (i x : Nat) : DgB w d (l.set i x) (W.setCell ⟨d, i, none⟩ (.int .u8 x)) := by
  have hne := h.ne
  refine ⟨?_, h.res.kept (show w.heap.size + 1 ≠ d by omega) _, h.ne, bl_set _ h.bel (show w.heap.size ≤ d by omega)⟩
  have := h.row.put i (.int .u8 x)
  rw [yV_set] at this
  exact this
theorem DgB.start {w W : World} {d : Nat} (hd : W.heap.size = d) {Z : Array Value} (hZ : Z = yV (List.replicate 32 0)) (hres : AR W (w.heap.size + 1) 32 (yV (List.replicate 32 0))) (hb : Below w.heap.size w W) : DgB w d (List.replicate 32 0) (W.alloc (.cells Z 32)) := by
  subst hd hZ
  exact ⟨AR.made _ _ _, hres.more _, hres.inside, bl_alloc _ hb⟩
theorem mix_step {T : List Nat} {k x : Nat} (hT : T.length = 32) (hk : k < 32) (hx : T.getD k 0 = x) : (mix T (List.replicate 32 0) k).set k x = mix T (List.replicate 32 0) (k + 1) := by
  subst hx; exact mix_set (by omega) (by simp; omega)
theorem mix_hole {T : List Nat} {k : Nat} (hT : T.length = 32) (hk : k < 32) : (mix T (List.replicate 32 0) k)[k]? = some 0 := by
  rw [mix_get (by omega) (by simp; omega), List.getD_eq_getElem?_getD, List.getElem?_replicate, if_pos hk]; rfl
theorem info32 (l : List Nat) (h : l.length = 32) : (Tryd.prog.info? 32).map (·.size) = some (yV l).size := by rw [yV_size, h]; kernel_rfl

set_option maxRecDepth 20000 in
set_option maxHeartbeats 4000000 in
theorem digest_any (m : List Nat) (n : Nat) (st last : List Nat) (w : World) (hR : Rep m n st last) (hsz : m.length ≤ 1000000) (hV : VK w) :
    Calls Tryd.prog 42 #[.agg (tV n st last)] w (Gives w (.agg (yV (shaL m)))) := by
  have hn : n ≤ 1000000 := by rw [hR.size]; exact hsz
  have HR := Lib.hid hR; have HVK := Lib.hid hV
  clear hR hV
  have zz := zero73
  go_enter Tryd.func42, Tryd.ntmps42
  go_upto_region 0 with fail
  go_cut [1, 2] (fun s1 s2 wc => s1 = .pointer (some ⟨w.heap.size, 0, none⟩) ∧ s2 = .pointer (some ⟨w.heap.size + 1, 0, none⟩) ∧ Hid (DgA w n st last wc))
  case first =>
    go_wp2_with fail
    go_meet
    case rel => exact ⟨rfl, rfl, Lib.hid (DgA.start w n st last (by kernel_rfl))⟩
  case rest =>
    obtain ⟨rfl, rfl, HD⟩ := hcut
    go_upto_region 1 with fail
    go_cut [3] (fun s3 wc => Hid (Padded w m s3 wc))
    case first =>
      have HDd : Hid (DgA w n st last wc.drew) := Lib.hid (HD.out.step (bl_drewN 1 (Below.refl _ _)))
      refine wp_region_held_drew (S := fun W => AR W w.heap.size 70 (tV n st last)) (by kernel_rfl) HDd.out.box (fun hHeld => ?_)
      refine wpAnyH_take (i := 0) (oi := { dst := some 8, op := _, type := _, pos := _, after := _, guard := _ }) rfl (by kernel_rfl) (by kernel_rfl) (by kernel_rfl) (fun _ _ _ h => h) (yields_row (by rfl) 70 (.tmp 1) rfl w.heap.size rfl 70 (tV n st last) _ (fun _ h => h) Tryd.underlying70 rfl (info73 HR.out.st8 HR.out.len)) hHeld ?_
      (try simp only [Act.put, List.setIfInBounds_toArray, List.set_cons_zero, List.set_cons_succ])
      refine wpAnyH_take (i := 1) (oi := { dst := some 9, op := _, type := _, pos := _, after := _, guard := _ }) (v := ?v9) rfl (by kernel_rfl) (by kernel_rfl) (by kernel_rfl) (fun _ _ _ h => h) (Or.inl ⟨by rfl, ?y9⟩) hHeld ?r9
      case y9 => intro w9 hSw; go_simp <;> with_reducible rfl
      (try simp only [Act.put, List.setIfInBounds_toArray, List.set_cons_zero, List.set_cons_succ])
      refine wpAnyH_take (i := 2) (oi := { dst := some 10, op := _, type := _, pos := _, after := _, guard := _ }) (v := ?v10) rfl (by kernel_rfl) (by kernel_rfl) (by kernel_rfl) (fun _ _ _ h => h) (Or.inl ⟨by rfl, ?y10⟩) hHeld ?r10
      case y10 => intro w9 hSw; have c0 := AR.at (i := 0) (v := .int .u64 n) hSw rfl; go_simp <;> with_reducible rfl
      (try simp only [Act.put, List.setIfInBounds_toArray, List.set_cons_zero, List.set_cons_succ])
      refine wpAnyH_ready (rs := [3, 5]) (by kernel_rfl) (by simp) (AllReadyH.cons (o := { dst := some 11, op := _, type := _, pos := _, after := _, guard := _ }) rfl (fun K hK => ?a1_3) (AllReadyH.cons (o := { dst := some 3, op := _, type := _, pos := _, after := _, guard := _ }) rfl (fun K hK => ?a1_5) AllReadyH.nil))
      case a1_3 =>
        go_simp
        go_at_call 43
        refine (padding_any n _ (by omega)).mono ?_
        rintro e wa1 ⟨va1, rfl, hon, hb⟩
        have D1p := Lib.hid (HDd.out.step hb)
        have P1 := Lib.hid hon.rn
        clear hon hb
        refine hK.out _ _ D1p.out.box (fun hH1 => ?_)
        clear hK K
        (try simp only [Act.put, List.setIfInBounds_toArray, List.set_cons_zero, List.set_cons_succ])
        refine wpAnyH_ready (rs := [4, 5]) (by kernel_rfl) (by simp) (AllReadyH.cons (o := { dst := some 12, op := _, type := _, pos := _, after := _, guard := _ }) rfl (fun K hK => ?a2_4) (AllReadyH.cons (o := { dst := some 3, op := _, type := _, pos := _, after := _, guard := _ }) rfl (fun K hK => ?a2_5) AllReadyH.nil))
        case a2_4 =>
          go_simp
          go_at_call 41
          refine (with_any m (padL n) n st last va1 _ HR.out P1.out (padL_bb n) (by have := padL_le n; omega) (HVK.out.below D1p.out.bel)).mono ?_
          rintro e wb2 ⟨n2, st2, last2, rfl, hr2, hb⟩
          have D2w := Lib.hid (D1p.out.step hb)
          have R2 := Lib.hid hr2
          clear hr2 hb
          refine hK.out _ _ D2w.out.box (fun hH2 => ?_)
          clear hK K
          (try simp only [Act.put, List.setIfInBounds_toArray, List.set_cons_zero, List.set_cons_succ])
          refine wpAnyH_ready (rs := [5]) (by kernel_rfl) (by simp) (AllReadyH.cons (o := { dst := some 3, op := _, type := _, pos := _, after := _, guard := _ }) rfl (fun K hK => ?a3_5) AllReadyH.nil)
          case a3_5 =>
            go_simp
            refine hK.out _ _ (D2w.out.step (bl_self _ _)).box (fun hH3 => ?_)
            have D3a := Lib.hid (D2w.out.step (bl_self _ (.cells (tV 0 (List.replicate 8 0) (List.replicate 64 0)) 70)))
            have G3a := Lib.hid (AR.made wb2 70 (tV 0 (List.replicate 8 0) (List.replicate 64 0)))
            have N3a : Hid (w.heap.size + 1 < wb2.heap.size) := Lib.hid D2w.out.res.inside
            clear hK K
            (try simp only [Act.put, List.setIfInBounds_toArray, List.set_cons_zero, List.set_cons_succ])
            refine wpAnyH_ready (rs := [6]) (by kernel_rfl) (by simp) (AllReadyH.cons (o := { dst := none, op := _, type := _, pos := _, after := _, guard := _ }) rfl (fun K hK => ?a4_6) AllReadyH.nil)
            case a4_6 =>
              rw [if_pos (by rfl)]
              refine wp_store_row 70 (.tmp 3) (.tmp 12) rfl wb2.heap.size (tV n2 st2 last2) rfl rfl 70 (tV 0 (List.replicate 8 0) (List.replicate 64 0)) G3a.out (info73 R2.out.st8 R2.out.len) (by rw [tV_size n2 R2.out.st8 R2.out.len]; rfl) (tV_one _ _ _) ?_
              refine hK.out _ _ (D3a.out.box.apart (by have := N3a.out; omega) _) (fun hH4 => ?_)
              clear hK K
              refine wpAnyH_done (by kernel_rfl) ?_ _
              go_wp2_with fail
              go_meet
              case rel => exact Lib.hid ⟨wb2.heap.size, n2, st2, last2, rfl, G3a.out.row _, by have := R2.out; rw [HR.out.size] at this; exact this, D3a.out.res.apart (by have := N3a.out; omega) _, bl_row _ D3a.out.bel (by have := N3a.out; omega)⟩
        case a2_5 =>
          go_simp
          refine hK.out _ _ (D1p.out.step (bl_self _ _)).box (fun hH2 => ?_)
          have D2a := Lib.hid (D1p.out.step (bl_self _ (.cells (tV 0 (List.replicate 8 0) (List.replicate 64 0)) 70)))
          have G2a := Lib.hid (AR.made wa1 70 (tV 0 (List.replicate 8 0) (List.replicate 64 0)))
          have N2a : Hid (w.heap.size + 1 < wa1.heap.size) := Lib.hid D1p.out.res.inside
          have P2a := Lib.hid (P1.out.later (bl_self _ (.cells (tV 0 (List.replicate 8 0) (List.replicate 64 0)) 70)))
          clear hK K
          (try simp only [Act.put, List.setIfInBounds_toArray, List.set_cons_zero, List.set_cons_succ])
          refine wpAnyH_ready (rs := [4]) (by kernel_rfl) (by simp) (AllReadyH.cons (o := { dst := some 12, op := _, type := _, pos := _, after := _, guard := _ }) rfl (fun K hK => ?a5_4) AllReadyH.nil)
          case a5_4 =>
            go_simp
            go_at_call 41
            refine (with_any m (padL n) n st last va1 _ HR.out P2a.out (padL_bb n) (by have := padL_le n; omega) (HVK.out.below D2a.out.bel)).mono ?_
            rintro e wb5 ⟨n2, st2, last2, rfl, hr2, hb⟩
            have D5w := Lib.hid (D2a.out.step hb)
            have R5 := Lib.hid hr2
            have G5w := Lib.hid (G2a.out.step hb)
            clear hr2 hb
            refine hK.out _ _ D5w.out.box (fun hH5 => ?_)
            clear hK K
            (try simp only [Act.put, List.setIfInBounds_toArray, List.set_cons_zero, List.set_cons_succ])
            refine wpAnyH_ready (rs := [6]) (by kernel_rfl) (by simp) (AllReadyH.cons (o := { dst := none, op := _, type := _, pos := _, after := _, guard := _ }) rfl (fun K hK => ?a6_6) AllReadyH.nil)
            case a6_6 =>
              rw [if_pos (by rfl)]
              refine wp_store_row 70 (.tmp 3) (.tmp 12) rfl wa1.heap.size (tV n2 st2 last2) rfl rfl 70 (tV 0 (List.replicate 8 0) (List.replicate 64 0)) G5w.out (info73 R5.out.st8 R5.out.len) (by rw [tV_size n2 R5.out.st8 R5.out.len]; rfl) (tV_one _ _ _) ?_
              refine hK.out _ _ (D5w.out.box.apart (by have := N2a.out; omega) _) (fun hH6 => ?_)
              clear hK K
              refine wpAnyH_done (by kernel_rfl) ?_ _
              go_wp2_with fail
              go_meet
              case rel => exact Lib.hid ⟨wa1.heap.size, n2, st2, last2, rfl, G5w.out.row _, by have := R5.out; rw [HR.out.size] at this; exact this, D5w.out.res.apart (by have := N2a.out; omega) _, bl_row _ D5w.out.bel (by have := N2a.out; omega)⟩
      case a1_5 =>
        go_simp
        refine hK.out _ _ (HDd.out.step (bl_self _ _)).box (fun hH1 => ?_)
        have D1a := Lib.hid (HDd.out.step (bl_self _ (.cells (tV 0 (List.replicate 8 0) (List.replicate 64 0)) 70)))
        have G1a := Lib.hid (AR.made wc.drew 70 (tV 0 (List.replicate 8 0) (List.replicate 64 0)))
        have N1a : Hid (w.heap.size + 1 < wc.drew.heap.size) := Lib.hid HDd.out.res.inside
        clear hK K
        (try simp only [Act.put, List.setIfInBounds_toArray, List.set_cons_zero, List.set_cons_succ])
        refine wpAnyH_ready (rs := [3]) (by kernel_rfl) (by simp) (AllReadyH.cons (o := { dst := some 11, op := _, type := _, pos := _, after := _, guard := _ }) rfl (fun K hK => ?a7_3) AllReadyH.nil)
        case a7_3 =>
          go_simp
          go_at_call 43
          refine (padding_any n _ (by omega)).mono ?_
          rintro e wa7 ⟨va7, rfl, hon, hb⟩
          have D7p := Lib.hid (D1a.out.step hb)
          have P7 := Lib.hid hon.rn
          have G7p := Lib.hid (G1a.out.step hb)
          clear hon hb
          refine hK.out _ _ D7p.out.box (fun hH7 => ?_)
          clear hK K
          (try simp only [Act.put, List.setIfInBounds_toArray, List.set_cons_zero, List.set_cons_succ])
          refine wpAnyH_ready (rs := [4]) (by kernel_rfl) (by simp) (AllReadyH.cons (o := { dst := some 12, op := _, type := _, pos := _, after := _, guard := _ }) rfl (fun K hK => ?a8_4) AllReadyH.nil)
          case a8_4 =>
            go_simp
            go_at_call 41
            refine (with_any m (padL n) n st last va7 _ HR.out P7.out (padL_bb n) (by have := padL_le n; omega) (HVK.out.below D7p.out.bel)).mono ?_
            rintro e wb8 ⟨n2, st2, last2, rfl, hr2, hb⟩
            have D8w := Lib.hid (D7p.out.step hb)
            have R8 := Lib.hid hr2
            have G8w := Lib.hid (G7p.out.step hb)
            clear hr2 hb
            refine hK.out _ _ D8w.out.box (fun hH8 => ?_)
            clear hK K
            (try simp only [Act.put, List.setIfInBounds_toArray, List.set_cons_zero, List.set_cons_succ])
            refine wpAnyH_ready (rs := [6]) (by kernel_rfl) (by simp) (AllReadyH.cons (o := { dst := none, op := _, type := _, pos := _, after := _, guard := _ }) rfl (fun K hK => ?a9_6) AllReadyH.nil)
            case a9_6 =>
              rw [if_pos (by rfl)]
              refine wp_store_row 70 (.tmp 3) (.tmp 12) rfl wc.drew.heap.size (tV n2 st2 last2) rfl rfl 70 (tV 0 (List.replicate 8 0) (List.replicate 64 0)) G8w.out (info73 R8.out.st8 R8.out.len) (by rw [tV_size n2 R8.out.st8 R8.out.len]; rfl) (tV_one _ _ _) ?_
              refine hK.out _ _ (D8w.out.box.apart (by have := N1a.out; omega) _) (fun hH9 => ?_)
              clear hK K
              refine wpAnyH_done (by kernel_rfl) ?_ _
              go_wp2_with fail
              go_meet
              case rel => exact Lib.hid ⟨wc.drew.heap.size, n2, st2, last2, rfl, G8w.out.row _, by have := R8.out; rw [HR.out.size] at this; exact this, D8w.out.res.apart (by have := N1a.out; omega) _, bl_row _ D8w.out.bel (by have := N1a.out; omega)⟩
    case rest =>
      obtain ⟨g, n2, st2, last2, rfl, hg, hr, hres, hbel⟩ := hcut
      rename_i wd _
      have h8 := Lib.hid hr.st8; have h64 := Lib.hid hr.len; have HG := Lib.hid hg; have HW2 := Lib.hid hr.ww
      obtain ⟨T, hT⟩ : ∃ T, digL st2 = T := ⟨_, rfl⟩
      have HTS : Hid (T = shaL m) := Lib.hid (by rw [← hT]; exact hr.whole)
      have HT := Lib.hid hT
      have HTL : Hid (T.length = 32) := Lib.hid (by rw [← hT]; exact digL_len hr.st8)
      have HRES := Lib.hid hres; have HBEL := Lib.hid hbel
      clear hg hr hres hbel hT
      obtain ⟨d, hd⟩ : ∃ d, wc.heap.size = d := ⟨_, rfl⟩
      have HBS : Hid (DgB w d (List.replicate 32 0) (wc.alloc (.cells (yV (List.replicate 32 0)) 32))) := Lib.hid (DgB.start hd rfl HRES.out HBEL.out)
      go_wp2_with ((with_reducible refine atOp ⟨some 14, _, _, _, _, _⟩ ?_); refine wpList_load_at rfl 23 (.tmp 13) rfl g 1 8 rfl 70 (tL n2 st2 last2) (uL st2) _ (AR.more HG.out _) (tL_st n2 h8.out) (by rw [uL_len]; exact h8.out) Tryd.underlying23 rfl (by kernel_rfl) ?_)
      clear hd
      go_loopw [15] (fun t wr => ∃ i : Nat, i ≤ 8 ∧ t = .int .i64 i ∧ Hid (DgB w d (mix T (List.replicate 32 0) (4 * i)) wr)) (fun t _ => 8 - (intOf t).toNat)
      case atStart => exact ⟨0, by omega, rfl, HBS⟩
      case round =>
        obtain ⟨i, hi, rfl, HB⟩ := hrel
        obtain ⟨wo, rfl⟩ : ∃ wo : World, wo = wr := ⟨_, rfl⟩
        by_cases hlt : i < 8
        · obtain ⟨x, hx⟩ : ∃ x, st2.getD i 0 = x := ⟨_, rfl⟩
          have ix : ∀ w, (Instr.index 23 (.agg (uL st2).toArray) (.int .i64 i)).run Tryd.prog w = .ok (.int .u32 x) w := by rw [← hx]; exact index8 st2 h8.out i hlt
          have HXX : Hid (∀ j, j < 4 → T.getD (4 * i + j) 0 = x / 2 ^ (24 - 8 * j) % 256) := Lib.hid (fun j hj => by rw [← HT.out, ← hx]; exact digL_get h8.out hlt hj)
          clear hx
          go_wp2_with fail
          go_loopw [19] (fun t wr => ∃ j : Nat, j ≤ 4 ∧ t = .int .i64 j ∧ Hid (DgB w d (mix T (List.replicate 32 0) (4 * i + j)) wr)) (fun t _ => 4 - (intOf t).toNat)
          case atStart => exact ⟨0, by omega, rfl, HB⟩
          case round =>
            obtain ⟨j, hj, rfl, HC⟩ := hrel
            by_cases hlt2 : j < 4
            · obtain ⟨p, hp⟩ : ∃ p : Nat, p = 4 * i + j := ⟨_, rfl⟩
              obtain ⟨c, hc⟩ : ∃ c : Nat, c = 24 - 8 * j := ⟨_, rfl⟩
              have ep : (4 * (i : Int) + (j : Int)) = (p : Int) := by omega
              have ec : (24 - 8 * (j : Int)) = (c : Int) := by omega
              have rp : (p : Int) < 32 := by omega
              have rc : c ≤ 24 := by omega
              have hcell := HC.out.row.at (i := p) (v := .int .u8 0) (yV_get (by rw [hp]; exact mix_hole HTL.out (by omega)))
              have hfr := HC.out.row.free p
              have HP := Lib.hid hp; have HCC := Lib.hid hc
              clear hp hc
              go_wp2_with fail
              go_roundw
              case rel => exact ⟨j + 1, by omega, by go_num, Lib.hid (by
                rw [show (x : Int) / 2 ^ c % 256 = ((x / 2 ^ c % 256 : Nat) : Int) by push_cast; rfl]
                have := HC.out.put p (x / 2 ^ c % 256)
                rw [HP.out, mix_step HTL.out (by omega) (by rw [HCC.out]; exact HXX.out j hlt2)] at this
                rw [HP.out]
                exact this)⟩
              case measure => simp [intOf]; omega
            · have HJ : Hid (j = 4) := Lib.hid (by omega)
              replace HC : Hid (DgB w d (mix T (List.replicate 32 0) (4 * (i + 1))) wr) := Lib.hid (by have := HC.out; rw [HJ.out, show 4 * i + 4 = 4 * (i + 1) by omega] at this; exact this)
              go_wp2_with fail
              go_roundw
              case rel => exact ⟨i + 1, by omega, by go_num, HC⟩
              case measure => simp [intOf]; omega
        · have HI : Hid (i = 8) := Lib.hid (by omega)
          replace HB : Hid (DgB w d T wo) := Lib.hid (by have := HB.out; rw [HI.out, mix_full HTL.out (by simp)] at this; exact this)
          go_wp2_with (first
            | ((with_reducible refine atOp ⟨some 35, _, _, _, _, _⟩ ?_); refine wpList_load_row rfl 32 _ rfl d rfl 32 (yV T) (0, 0) _ HB.out.row Tryd.underlying32 rfl (info32 T HTL.out) ?_)
            | ((with_reducible refine atOp ⟨none, .store 32 _ _, _, _, _, _⟩ ?_); refine wpList_store_row rfl 32 (.tmp 2) (.tmp 35) rfl (w.heap.size + 1) (yV T) rfl rfl 32 (yV (List.replicate 32 0)) HB.out.res (info32 T HTL.out) (by rw [yV_size, yV_size, HTL.out]; rfl) (yV_one _) ?_))
          refine bodyPost_ret (v := .agg (yV T)) (results_cell_row Tryd.results42 _ _ (w.heap.size + 1) 32 _ (0, 0) _ rfl (HB.out.res.row _) Tryd.underlying32 rfl (info32 T HTL.out)) rfl ⟨by rw [HTS.out], bl_row _ HB.out.bel (by omega)⟩

/-! ### Sum -/
theorem Rep0 : Rep [] 0 hL (List.replicate 64 0) := Rep.nil
set_option maxRecDepth 20000 in
set_option maxHeartbeats 2000000 in
theorem sum_any (xs : List Nat) (v : Value) (w : World) (hv : RN w v xs) (hb : BB xs) (hsz : xs.length ≤ 1000000) (hV : VK w) : Calls Tryd.prog 19 #[v] w (Gives w (.agg (yV (shaL xs)))) := by
  have HVV := Lib.hid hv; have HBB := Lib.hid hb; have HVK := Lib.hid hV
  clear hv hb hV
  have HB0 : Hid (Below w.heap.size w (w.alloc (.cells (yV (List.replicate 32 0)) 32))) := Lib.hid (bl_self _ _)
  have HR0 : Hid (AR (w.alloc (.cells (yV (List.replicate 32 0)) 32)) w.heap.size 32 (yV (List.replicate 32 0))) := Lib.hid (AR.made _ _ _)
  go_enter Tryd.func19, Tryd.ntmps19
  go_wp2_with (first
    | (go_at_call 40; refine (nothing_any _ (HVK.out.below HB0.out)).mono ?_; rintro e w1 ⟨rfl, hb⟩; have HB1 := Lib.hid (bl_call HB0.out hb); have HR1 := Lib.hid (HR0.out.step hb); clear hb)
    | (go_at_call 41; refine (with_any [] xs 0 hL (List.replicate 64 0) v _ Rep0 (HVV.out.later HB1.out) HBB.out (by simp; omega) (HVK.out.below HB1.out)).mono ?_; rintro e w2 ⟨n2, st2, last2, rfl, hr, hb⟩; have HRP : Hid (Rep xs n2 st2 last2) := Lib.hid hr; have HB2 := Lib.hid (bl_call HB1.out hb); have HR2 := Lib.hid (HR1.out.step hb); clear hr hb)
    | (go_at_call 42; refine (digest_any xs n2 st2 last2 _ HRP.out (by omega) (HVK.out.below HB2.out)).mono ?_; rintro e w3 ⟨rfl, hb⟩; have HB3 := Lib.hid (bl_call HB2.out hb); have HR3 := Lib.hid (HR2.out.step hb); clear hb)
    | ((with_reducible refine atOp ⟨none, .store 32 _ _, _, _, _, _⟩ ?_); refine wpList_store_row rfl 32 (.tmp 2) (.tmp 6) rfl w.heap.size (yV (shaL xs)) rfl rfl 32 (yV (List.replicate 32 0)) HR3.out (info32 _ (shaL_len _)) (by rw [yV_size, yV_size, shaL_len]; rfl) (yV_one _) ?_))
  refine bodyPost_ret (v := .agg (yV (shaL xs))) (results_cell_row Tryd.results19 _ _ w.heap.size 32 _ (0, 0) _ rfl (HR3.out.row _) Tryd.underlying32 rfl (info32 _ (shaL_len _))) rfl ⟨rfl, bl_row _ HB3.out (by omega)⟩
end Go.Proofs.YtipcanphkdodaaaDoor
