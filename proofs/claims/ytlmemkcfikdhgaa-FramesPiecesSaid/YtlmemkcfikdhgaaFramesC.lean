/- framesOf: what its iterator yields. -/
import Derived.Test.YtlmemkcfikdhgaaFramesB
import Derived.Test.YtlmemkcfikdhgaaFramesRng
namespace Go.Proofs.Ytlmemkcfikdhgaa
open Go.RowKit Go.Lib
set_option linter.unusedVariables false
attribute [local go_sem] Oper.semAt_some

theorem framesOf_any (A : Option Addr) (n c : Nat) (w : World) : Calls Try.prog 20 #[.slice A n c] w fun e w' =>
    e = .returned (.func (.func 27) #[] #[.pointer (some ⟨w.heap.size, 0, none⟩)]) ∧ w' = w.alloc (.cells #[.slice A n c] 22) := by
  have hmf : ∀ (fn : Fn) (first cap : Array Value) (w : World), (Instr.makeFunc fn first cap).run Try.prog w = .ok (.func fn first cap) w := fun _ _ _ _ => rfl
  go_enter Try.func20, Try.ntmps20
  go_wp2
  go_ret
  exact ⟨rfl, rfl⟩

/-- What the iterator yields: slices, and what they read as. -/
structure FrV (w0 : World) where
  p : Value
  r : Value
  ps : List Nat
  rs : List Nat
  hp : RN w0 p ps
  hr : RN w0 r rs
  hb : BB rs
  hpb : BB ps
  hl : ps.length ≤ 1024
abbrev encF {w0 : World} (x : FrV w0) : Array Value := #[x.p, x.r]
def prF {w0 : World} (x : FrV w0) : List Nat × List Nat := (x.ps, x.rs)

/-- What the iterator knows between two rounds. -/
structure FrI (w0 : World) (bs : List Nat) (bf z : Nat) (J : List (FrV w0) → World → Prop) (pre : List (FrV w0)) (v : Value) (rs : List Nat) (wr : World) : Prop where
  j : J pre wr
  rn : RN w0 v rs
  bb : BB rs
  box : wr.heap[bf]? = some (.cells #[v] 22 (0, 0))
  bel : Below w0.heap.size w0 wr
  le : z ≤ wr.heap.size
  todo : frY bs = pre.map prF ++ frY rs
theorem grow_bel {w W : World} (h : Below w.heap.size w W) : w.grownBy W none := ⟨h.os, h.tape, h.output, h.size, fun k hk _ => h.block k hk⟩
theorem grow_set (W : World) (p : Addr) (u : Value) : W.grownBy (W.setCell p u) (some p.block) :=
  ⟨rfl, rfl, rfl, by simp [World.setCell], fun k hk hne => Below.heap_setCell _ _ _ _ (fun e => hne (by rw [e]))⟩
theorem heap_set1 {W : World} {B : Nat} {x : Value} {t : TypeId} {fr : Nat × Nat} (h : W.heap[B]? = some (.cells #[x] t fr)) (u : Value) : (W.setCell ⟨B, 0, none⟩ u).heap[B]? = some (.cells #[u] t fr) := by
  simp [World.setCell, Array.getElem?_modify, h]
theorem FrI.later {w0 : World} {bs rs : List Nat} {bf z : Nat} {J : List (FrV w0) → World → Prop} {pre : List (FrV w0)} {v : Value} {wr W : World} (h : FrI w0 bs bf z J pre v rs wr) (hJ : StayBut bf J) (hb : Below wr.heap.size wr W) : FrI w0 bs bf z J pre v rs W :=
  ⟨hJ _ _ _ none h.j (grow_bel hb) (fun r e => by cases e), h.rn, h.bb, (hb.block bf (Array.getElem?_eq_some_iff.1 h.box).1).trans h.box, h.bel.trans (hb.mono h.bel.size), Nat.le_trans h.le hb.size, h.todo⟩
theorem cell_of1 {W : World} {B : Nat} {x : Value} {t : TypeId} (h : W.heap[B]? = some (.cells #[x] t (0, 0))) : W.cell? ⟨B, 0, none⟩ = some x ∧ W.frozen? ⟨B, 0, none⟩ = false := by
  refine ⟨?_, ?_⟩
  · rw [cell_of_row W B 0 _ _ _ h]; rfl
  · simp [World.frozen?, h]
theorem FrI.lenv {w0 : World} {bs rs : List Nat} {bf z : Nat} {J : List (FrV w0) → World → Prop} {pre : List (FrV w0)} {v : Value} {wr : World} (h : FrI w0 bs bf z J pre v rs wr) : ∃ A c, v = .slice A rs.length c := h.rn.len
theorem if_undef {c : Prop} [Decidable c] {A B : Prop} (h : c → (none : Option Bool) = some true) (hB : B) : (if c then A else B) := by
  rw [if_neg (fun hc => by have := h hc; cases this)]; exact hB
def boxLen (bf : Nat) (wr : World) : Nat := match wr.cell? ⟨bf, 0, none⟩ with | some (.slice _ n _) => n | _ => 0
theorem boxLen_of {bf : Nat} {wr : World} {A : Option Addr} {n c : Nat} (h : wr.cell? ⟨bf, 0, none⟩ = some (.slice A n c)) : boxLen bf wr = n := by unfold boxLen; rw [h]
set_option maxRecDepth 100000 in
set_option maxHeartbeats 4000000 in
theorem frames_seq (n bf : Nat) (v : Value) (bs : List Nat) (w0 w : World) (hw : w0.heap.size ≤ bf) (hb : Below w0.heap.size w0 w) (hv : RN w0 v bs) (hbb : BB bs) (hl : bs.length ≤ 2000000) (hbox : w.heap[bf]? = some (.cells #[v] 22 (0, 0))) :
    SeqAt Fence.wide n Try.prog 27 #[.pointer (some ⟨bf, 0, none⟩)] (encF (w0 := w0)) w0.heap.size bf (fun xs => xs.map prF = frY bs) (fun _ => True) bs.length w := by
  intro l J Jx W hW hJ hJx hY h0
  have H0 : Hid (FrI w0 bs bf W.heap.size J [] v bs W) := Lib.hid ⟨h0, hv, hbb, (hW.block bf (Array.getElem?_eq_some_iff.1 hbox).1).trans hbox, hb.trans (hW.mono hb.size), Nat.le_refl _, rfl⟩
  have HJ := Lib.hid hJ; have HY := Lib.hid hY
  clear hJ hJx hY h0 hv hbb hbox hb
  refine callsIn_of_wp Try.func27 rfl trivial ?_ rfl
  simp only [Try.ntmps27, List.size_toArray, List.length_cons, List.length_nil, Nat.reduceAdd, Nat.reduceSub, Array.replicate_succ, Array.replicate_zero, List.push_toArray, List.append_toArray, List.nil_append, List.cons_append]
  gi_wp2_with fail
  gi_loopw [] (fun wr => ∃ (pre : List (FrV w0)) (v : Value) (rs : List Nat), Hid (FrI w0 bs bf W.heap.size J pre v rs wr)) (fun wr => boxLen bf wr)
  case atStart => exact ⟨[], v, bs, H0⟩
  case round =>
    obtain ⟨pre, v, rs, HI⟩ := hrel
    obtain ⟨A, c, rfl⟩ := HI.out.rn.len
    obtain ⟨c1, f1⟩ := cell_of1 HI.out.box
    have hbfl : bf < wr.heap.size := (Array.getElem?_eq_some_iff.1 HI.out.box).1
    have HR : Hid (RN wr (.slice A rs.length c) rs) := Lib.hid (HI.out.rn.later HI.out.bel)
    have HRN := Lib.hid HI.out.rn
    have hrl : rs.length ≤ maxLen := HI.out.rn.max
    unfold maxLen at hrl
    have hls : leastL rs < 9223372036854775808 := by have := HI.out.bb.get 2; have := HI.out.bb.get 3; unfold leastL szL; split <;> omega
    have HK : Hid (∀ W, Hid (Below wr.heap.size wr W) → W.cell? ⟨bf, 0, none⟩ = some (.slice A rs.length c) ∧ Hid (Below wr.heap.size wr W)) := Lib.hid (fun W h => ⟨(h.out.cell (p := ⟨bf, 0, none⟩) hbfl).trans c1, h⟩)
    have HBR : Hid (∀ W, Hid (Below wr.heap.size wr W) → Calls Try.prog 22 #[.slice A rs.length c] W (Gives W (.bool (brkL rs)))) := Lib.hid (fun W h => broken_any _ rs W (HR.out.later h.out) HI.out.bb)
    have HLS : Hid (∀ W, Hid (Below wr.heap.size wr W) → Calls Try.prog 25 #[.slice A rs.length c] W (Gives W (.int .i64 (leastL rs : Nat)))) := Lib.hid (fun W h => least_any _ rs W (HR.out.later h.out) HI.out.bb)
    have HBD : Hid (Below wr.heap.size wr wr.drew) := Lib.hid (bl_drewN 1 (Below.refl _ _))
    have HFIN : oneL rs = false → Hid (pre.map prF = frY bs) := fun h => Lib.hid (by rw [HI.out.todo, frY_none h, List.append_nil])
    cases hone : oneL rs
    · have HF := HFIN hone
      clear HFIN
      cases hbk : brkL rs
      · have hlt := stuck_lt hone hbk
        have HL3 := Lib.hid hbk
        obtain ⟨m, hm⟩ : ∃ m, leastL rs = m := ⟨_, rfl⟩
        have HM := Lib.hid hm
        rw [hm] at hlt hls
        obtain ⟨L, hL⟩ : ∃ L, rs.length = L := ⟨_, rfl⟩
        rw [hL] at hlt hrl HK HBR HLS HR HRN c1
        clear hm hL hbk
        have hge : decide ((m : Int) ≤ (L : Int)) = false := decide_eq_false (by omega)
        gi_wp2_with fail
        refine wpIn_wide.2 ?_
        go_region_held3 (fun W => W.cell? ⟨bf, 0, none⟩ = some (.slice A L c) ∧ Hid (Below wr.heap.size wr W)) (exact HK.out _ (by assumption))
          (first
            | (go_at_call 22; (with_reducible refine (HBR.out _ (by assumption)).mono ?_); rintro e w' ⟨rfl, hb⟩; rw [HL3.out]; have HN := Lib.hid (bl_call (by assumption : Hid (Below wr.heap.size wr _)).out hb); clear hb)
            | (go_at_call 25; (with_reducible refine (HLS.out _ (by assumption)).mono ?_); rintro e w' ⟨rfl, hb⟩; rw [HM.out]; have HN := Lib.hid (bl_call (by assumption : Hid (Below wr.heap.size wr _)).out hb); clear hb))
        have HE := Lib.hid (HI.out.later HJ.out HN.out).j
        gi_wp2_with fail
        refine bodyPost_end (results_none rfl _ _ _) rfl ?_
        exact ⟨⟨_, rfl⟩, .inl ⟨_, HF.out, HE.out⟩⟩
      · have HL3 := Lib.hid hbk
        obtain ⟨L, hL⟩ : ∃ L, rs.length = L := ⟨_, rfl⟩
        rw [hL] at hrl HK HBR HLS HR HRN c1
        clear hL hbk
        gi_wp2_with fail
        gi_region_with (first | (refine ⟨trivial, (fun h => by cases h), ?_⟩; gi_at_call 22; refine (callsIn_wide.2 (HBR.out _ HBD)).mono ?_; rintro e w' ⟨rfl, hb⟩; rw [HL3.out]; have HN := Lib.hid (bl_call HBD.out hb); clear hb) | (refine ⟨trivial, ?_⟩) | (refine if_undef (fun h => h) ?_))
        all_goals gi_wp2_with fail
        all_goals refine bodyPost_end (results_none rfl _ _ _) rfl ?_
        all_goals exact ⟨⟨_, rfl⟩, .inl ⟨_, HF.out, (HI.out.later HJ.out HN.out).j⟩⟩
    · obtain ⟨hl1, hl2, hl3⟩ := oneL_len hone
      have HL3 := Lib.hid hl3
      clear hl3
      have hm4 := least_pos rs
      obtain ⟨m, hm⟩ : ∃ m, leastL rs = m := ⟨_, rfl⟩
      have HM := Lib.hid hm
      rw [hm] at hl2 hls hm4
      obtain ⟨L, hL⟩ : ∃ L, rs.length = L := ⟨_, rfl⟩
      have HLL := Lib.hid hL
      rw [hL] at hl1 hl2 hrl HK HBR HLS HR HRN c1
      obtain ⟨A1, k1, hs1, r1⟩ := slice_hi (W := w0) (k := m) HRN.out (by rw [HLL.out]; exact hl2) (m : Int) rfl
      obtain ⟨A2, k2, hs2, r2⟩ := slice_lo (W := w0) (k := m) HRN.out (by rw [HLL.out]; exact hl2) (m : Int) rfl
      obtain ⟨A3, k3, hs3, r3⟩ := slice_lo (W := w0) (k := 4) r1 (by rw [List.length_take]; omega) 4 rfl
      have HR1 := Lib.hid r1; have HR2 := Lib.hid r2; have HR3 := Lib.hid r3
      clear hm hL r1 r2 r3
      have hge : decide ((m : Int) ≤ (L : Int)) = true := decide_eq_true (by omega)
      gi_wp2_with fail
      refine wpIn_wide.2 ?_
      go_region_held3 (fun W => W.cell? ⟨bf, 0, none⟩ = some (.slice A L c) ∧ Hid (Below wr.heap.size wr W)) (exact HK.out _ (by assumption))
        (first
          | (go_at_call 22; (with_reducible refine (HBR.out _ (by assumption)).mono ?_); rintro e w' ⟨rfl, hb⟩; rw [HL3.out]; have HN := Lib.hid (bl_call (by assumption : Hid (Below wr.heap.size wr _)).out hb); clear hb)
          | (go_at_call 25; (with_reducible refine (HLS.out _ (by assumption)).mono ?_); rintro e w' ⟨rfl, hb⟩; rw [HM.out]; have HN := Lib.hid (bl_call (by assumption : Hid (Below wr.heap.size wr _)).out hb); clear hb))
      gi_wp2_with fail
      have HBD2 : Hid (Below wr.heap.size wr w'.drew) := Lib.hid (bl_drewN 1 HN.out)
      refine wpIn_wide.2 ?_
      go_region_held3 (fun W => W.cell? ⟨bf, 0, none⟩ = some (.slice A L c) ∧ Hid (Below wr.heap.size wr W)) (exact HK.out _ (by assumption))
        (first
          | (go_at_call 25; (with_reducible refine (HLS.out _ (by assumption)).mono ?_); rintro e w' ⟨rfl, hb⟩; rw [HM.out]; have HN := Lib.hid (bl_call (by assumption : Hid (Below wr.heap.size wr _)).out hb); clear hb))
      have HI2 := Lib.hid (HI.out.later HJ.out HN.out)
      have hpay : (List.drop 4 (List.take m rs)) = payL rs := by unfold payL; rw [HM.out]
      have hrest : List.drop m rs = restL rs := by unfold restL; rw [HM.out]
      have hone2 := frY_one hone
      have HTD : Hid (frY bs = (pre.map prF ++ [(payL rs, restL rs)]) ++ frY (restL rs)) := Lib.hid (by rw [HI.out.todo, hone2, List.append_assoc]; rfl)
      have hpl : pre.length < bs.length := by
        have h1 := congrArg List.length HTD.out
        have h2 := frY_len bs
        simp only [List.length_append, List.length_map, List.length_cons, List.length_nil] at h1
        omega
      have hfo := frame_of HI.out.bb hone
      obtain ⟨x, hxp, hxr, hxs, hxt⟩ : ∃ x : FrV w0, x.p = .slice A3 (m - 4) k3 ∧ x.r = .slice A2 (L - m) k2 ∧ x.ps = payL rs ∧ x.rs = restL rs :=
        ⟨⟨.slice A3 (m - 4) k3, .slice A2 (L - m) k2, payL rs, restL rs, by have := HR3.out; rw [hpay] at this; exact this, by have := HR2.out; rw [hrest] at this; exact this, HI.out.bb.drop _, (HI.out.bb.take _).drop _, hfo.2.2⟩, rfl, rfl, rfl, rfl⟩
      obtain ⟨fn, tmps, assign, body, hy, hR⟩ := HY.out pre x w' HI2.out.j hpl HI2.out.le
      have HX2 : Hid (RN w0 (.slice A2 (L - m) k2) (restL rs)) := Lib.hid (by have := HR2.out; rw [hrest] at this; exact this)
      have HTX : Hid (frY bs = (pre ++ [x]).map prF ++ frY (restL rs)) := Lib.hid (by rw [HTD.out, List.map_append]; simp only [List.map_cons, List.map_nil, prF, hxs, hxt])
      have e1 : encF x = #[.slice A3 (m - 4) k3, .slice A2 (L - m) k2] := by simp only [encF, hxp, hxr]
      rw [e1] at hy
      have HRD := Lib.hid hR
      clear hpay hrest hone2 hxp hxr hxs hxt e1 hR hfo HTD hpl
      gi_wp2_with fail
      refine ⟨(fun h => by cases h), HRD.out.mono ?_⟩
      rintro e W3 (⟨rfl, hJ3, hk3⟩ | ⟨rfl, hJx3⟩)
      · have hbx3 : W3.heap[bf]? = some (.cells #[.slice A rs.length c] 22 (0, 0)) := hk3.2.trans HI2.out.box
        have c3 : W3.cell? ⟨bf, 0, none⟩ = some (.slice A rs.length c) := (cell_of1 hbx3).1
        have f3 : W3.frozen? ⟨bf, 0, none⟩ = false := (cell_of1 hbx3).2
        rw [HLL.out] at c3
        have HN3 : Hid (FrI w0 bs bf W.heap.size J (pre ++ [x]) (.slice A2 (L - m) k2) (restL rs) (W3.setCell ⟨bf, 0, none⟩ (.slice A2 (L - m) k2))) := Lib.hid
          ⟨HJ.out _ _ _ (some bf) hJ3 (grow_set W3 _ _) (fun r e => by cases e; rfl), HX2.out, HI.out.bb.drop _, heap_set1 hbx3 _, (HI2.out.bel.trans hk3.1).setCell (p := ⟨bf, 0, none⟩) hw _, by have h1 := hk3.1.size; have h2 := HI2.out.le; simp; omega, HTX.out⟩
        clear hbx3 hJ3 hk3 hy HRD
        gi_wp2_with fail
        refine ⟨⟨_, _, _, HN3⟩, ?_⟩
        rw [boxLen_of c1, boxLen_of (cell_of1 HN3.out.box).1]
        omega
      · have HX := Lib.hid hJx3
        clear hJx3 hy HRD
        gi_wp2_with fail
        refine bodyPost_ret (results_none rfl _ _ _) rfl ?_
        exact ⟨⟨_, rfl⟩, .inr ⟨_, trivial, HX.out⟩⟩
end Go.Proofs.Ytlmemkcfikdhgaa
