/- The reference's constants. -/
import Derived.Test.YtipcanphkdodaaaDoorShaZd
import Derived.Test.YtipcanphkdodaaaDoorShaK
namespace Go.Proofs.YtipcanphkdodaaaDoor
open Go.RowKit
set_option linter.unusedVariables false

set_option maxRecDepth 100000 in
theorem pr64_len : (prA 310).length = 64 := by decide +kernel
set_option maxRecDepth 100000 in
theorem pr64_less : (prA 309).length < 64 := by decide +kernel
theorem pr8_len : (prA 18).length = 8 := by decide +kernel
theorem pr8_less : (prA 17).length < 8 := by decide +kernel
def rootL (t : Bool) (l : List Nat) : List Nat := l.map fun p => rtN (wantN p t) t 41 % 4294967296
set_option maxRecDepth 100000 in
theorem roots_k : rootL true (prA 310) = kL := by decide +kernel
set_option maxRecDepth 100000 in
theorem roots_h : rootL false (prA 18) = hL := by decide +kernel
theorem root_get {t : Bool} {l T : List Nat} (h : rootL t l = T) {i : Nat} (hi : i < l.length) : rtN (wantN (l.getD i 0) t) t 41 % 4294967296 = T.getD i 0 := by
  subst h
  unfold rootL
  rw [List.getD_eq_getElem?_getD, List.getD_eq_getElem?_getD, List.getElem?_map, List.getElem?_eq_getElem hi]
  rfl
theorem pr_small {k i : Nat} (hk : k ≤ 310) (hi : i < (prA k).length) : (prA k).getD i 0 < 4294967296 := by
  rw [List.getD_eq_getElem?_getD, List.getElem?_eq_getElem hi]
  have := prA_pos k _ (List.getElem_mem hi)
  simp only [Option.getD_some]
  omega
/-- The state of a table that is being made: k of its n entries. -/
structure CsI (w : World) (t : TypeId) (n : Nat) (T ps : List Nat) (v : Value) (k : Nat) (wr : World) : Prop where
  res : AR wr w.heap.size t (uV (List.replicate n 0))
  row : AR wr (w.heap.size + 1) t (uV (mix T (List.replicate n 0) k))
  qn : QN wr (w.heap.size + 2) v ps
  bel : Below w.heap.size w wr
theorem CsI.step {w wr W : World} {t : TypeId} {n k : Nat} {T ps : List Nat} {v : Value} (h : CsI w t n T ps v k wr) (hb : Below wr.heap.size wr W) : CsI w t n T ps v k W :=
  ⟨h.res.step hb, h.row.step hb, h.qn.step hb, bl_call h.bel hb⟩
theorem hole {T : List Nat} {n k : Nat} (hT : T.length = n) (hk : k < n) : (mix T (List.replicate n 0) k)[k]? = some 0 := by
  rw [mix_get (by omega) (by rw [List.length_replicate]; exact hk), List.getD_eq_getElem?_getD, List.getElem?_replicate, if_pos hk]; rfl
theorem CsI.put {w wr : World} {t : TypeId} {n k : Nat} {T ps : List Nat} {v : Value} (h : CsI w t n T ps v k wr) (hT : T.length = n) (hk : k < n) :
    CsI w t n T ps v (k + 1) (wr.setCell ⟨w.heap.size + 1, k, none⟩ (.int .u32 (T.getD k 0 : Nat))) := by
  refine ⟨h.res.kept (by simp) _, ?_, ?_, ?_⟩
  · have := h.row.put k (.int .u32 (T.getD k 0 : Nat))
    rw [uV_set, mix_set (by omega) (by simp; omega)] at this
    exact this
  · obtain ⟨g, c, rfl, hB, hg, hc⟩ := h.qn
    refine ⟨g, c, rfl, hB, by simpa using hg, fun i hi => ?_⟩
    have hne : g ≠ w.heap.size + 1 := by omega
    have e : (wr.setCell ⟨w.heap.size + 1, k, none⟩ (.int .u32 (T.getD k 0 : Nat))).heap[g]? = wr.heap[g]? := heap_setCell_other wr _ g _ hne
    rw [← hc i hi]
    exact World.cell?_of_block e
  · exact h.bel.setCell (by simp) _

set_option maxRecDepth 20000 in
set_option maxHeartbeats 2000000 in
theorem rconstants_any (w : World) : Calls Tryd.prog 15 #[] w (Gives w (.agg (uV kL))) := by
  have HI := Lib.hid (info64c kL rfl)
  have AZ0 : Hid (AR ((w.alloc (.cells (uV (List.replicate 64 0)) 26)).alloc (.cells (uV (List.replicate 64 0)) 26)) w.heap.size 26 (uV (List.replicate 64 0))) := Lib.hid ((AR.made _ _ _).more _)
  have AZ1 : Hid (AR ((w.alloc (.cells (uV (List.replicate 64 0)) 26)).alloc (.cells (uV (List.replicate 64 0)) 26)) (w.heap.size + 1) 26 (uV (List.replicate 64 0))) := Lib.hid (by have := AR.made (w.alloc (.cells (uV (List.replicate 64 0)) 26)) 26 (uV (List.replicate 64 0)); rw [size_more] at this; exact this)
  have BZ : Hid (Below w.heap.size w ((w.alloc (.cells (uV (List.replicate 64 0)) 26)).alloc (.cells (uV (List.replicate 64 0)) 26))) := Lib.hid (bl_alloc _ (bl_alloc _ (Below.refl _ _)))
  go_enter Tryd.func15, Tryd.ntmps15
  go_wp2_with (go_at_call 33; refine (primes_any 64 310 _ (by omega) (by omega) pr64_len pr64_less).mono ?_; rintro e w1 ⟨v, rfl, hq, hb⟩; rw [size_more, size_more] at hq; have HS : Hid (CsI w 26 64 kL (prA 310) v 0 w1) := Lib.hid ⟨AZ0.out.step hb, AZ1.out.step hb, hq, bl_call BZ.out hb⟩; clear hq hb)
  have hnn : (prA 310).length = 64 := pr64_len
  go_loopw [3] (fun i wr => ∃ k : Nat, k ≤ 64 ∧ i = .int .i64 k ∧ Hid (CsI w 26 64 kL (prA 310) v k wr)) (fun i _ => 64 - (intOf i).toNat)
  case atStart => exact ⟨0, by omega, rfl, HS⟩
  case round =>
    obtain ⟨k, hk, rfl, HC⟩ := hrel
    clear HS
    by_cases hlt : k < 64
    · obtain ⟨g, c, hv, hB, hg, hc⟩ := HC.out.qn
      subst hv
      rw [hnn] at hc ⊢
      have hck := hc k hlt
      clear hc
      have hp := pr_small (k := 310) (i := k) (by omega) (by rw [hnn]; exact hlt)
      have hr := root_get roots_k (i := k) (by rw [hnn]; exact hlt)
      obtain ⟨p, hpp⟩ : ∃ p, (prA 310).getD k 0 = p := ⟨_, rfl⟩
      rw [hpp] at hck hp hr
      obtain ⟨x, hx⟩ : ∃ x, rtN (wantN p true) true 41 = x := ⟨_, rfl⟩
      rw [hx] at hr
      have hx6 : x < 18446744073709551616 := by
        have := rtN_le (wantN p true) true 41 (by omega)
        rw [hx] at this; omega
      have HX := Lib.hid hx; have HR := Lib.hid hr
      clear hpp hx hr
      go_wp2_with (go_at_call 39; refine (root_any p true _ hp).mono ?_; rintro e w2 ⟨rfl, hb⟩; rw [HX.out]; have HC2 := Lib.hid (HC.out.step hb); have ck := HC2.out.row.at (i := k) (v := .int .u32 0) (uV_get (hole kL_len hlt)); have fk := HC2.out.row.free k; clear hb)
      go_roundw
      case rel => exact ⟨k + 1, by omega, by go_num, Lib.hid (by
        rw [show (x : Int) % 4294967296 = ((x % 4294967296 : Nat) : Int) by omega, HR.out]
        have := HC2.out.put kL_len hlt
        rw [hnn] at this
        exact this)⟩
      case measure => simp [intOf]; omega
    · have hkn : k = 64 := by omega
      have HF : Hid (AR wr (w.heap.size + 1) 26 (uV kL)) := Lib.hid (by have := HC.out.row; rw [hkn, mix_full kL_len (by rw [List.length_replicate])] at this; exact this)
      clear hkn
      go_wp2_with (first
        | ((with_reducible refine atOp ⟨some 18, _, _, _, _, _⟩ ?_); refine wpList_load_row rfl 26 _ rfl (w.heap.size + 1) rfl 26 (uV kL) (0, 0) _ HF.out Tryd.underlying26 rfl HI.out ?_)
        | ((with_reducible refine atOp ⟨none, .store 26 _ _, _, _, _, _⟩ ?_); refine wpList_store_row rfl 26 (.tmp 0) (.tmp 18) rfl w.heap.size (uV kL) rfl rfl 26 (uV (List.replicate 64 0)) HC.out.res HI.out rfl (uV_one _) ?_))
      refine bodyPost_ret (v := .agg (uV kL)) (results_cell_row Tryd.results15 _ _ w.heap.size 26 _ (0, 0) _ rfl (HC.out.res.row _) Tryd.underlying26 rfl HI.out) rfl ⟨rfl, bl_row _ HC.out.bel (by omega)⟩

set_option maxRecDepth 20000 in
set_option maxHeartbeats 2000000 in
theorem rstart_any (w : World) : Calls Tryd.prog 17 #[] w (Gives w (.agg (uV hL))) := by
  have HI := Lib.hid (info8 hL rfl)
  have AZ0 : Hid (AR ((w.alloc (.cells (uV (List.replicate 8 0)) 23)).alloc (.cells (uV (List.replicate 8 0)) 23)) w.heap.size 23 (uV (List.replicate 8 0))) := Lib.hid ((AR.made _ _ _).more _)
  have AZ1 : Hid (AR ((w.alloc (.cells (uV (List.replicate 8 0)) 23)).alloc (.cells (uV (List.replicate 8 0)) 23)) (w.heap.size + 1) 23 (uV (List.replicate 8 0))) := Lib.hid (by have := AR.made (w.alloc (.cells (uV (List.replicate 8 0)) 23)) 23 (uV (List.replicate 8 0)); rw [size_more] at this; exact this)
  have BZ : Hid (Below w.heap.size w ((w.alloc (.cells (uV (List.replicate 8 0)) 23)).alloc (.cells (uV (List.replicate 8 0)) 23))) := Lib.hid (bl_alloc _ (bl_alloc _ (Below.refl _ _)))
  go_enter Tryd.func17, Tryd.ntmps17
  go_wp2_with (go_at_call 33; refine (primes_any 8 18 _ (by omega) (by omega) pr8_len pr8_less).mono ?_; rintro e w1 ⟨v, rfl, hq, hb⟩; rw [size_more, size_more] at hq; have HS : Hid (CsI w 23 8 hL (prA 18) v 0 w1) := Lib.hid ⟨AZ0.out.step hb, AZ1.out.step hb, hq, bl_call BZ.out hb⟩; clear hq hb)
  have hnn : (prA 18).length = 8 := pr8_len
  go_loopw [3] (fun i wr => ∃ k : Nat, k ≤ 8 ∧ i = .int .i64 k ∧ Hid (CsI w 23 8 hL (prA 18) v k wr)) (fun i _ => 8 - (intOf i).toNat)
  case atStart => exact ⟨0, by omega, rfl, HS⟩
  case round =>
    obtain ⟨k, hk, rfl, HC⟩ := hrel
    clear HS
    by_cases hlt : k < 8
    · obtain ⟨g, c, hv, hB, hg, hc⟩ := HC.out.qn
      subst hv
      rw [hnn] at hc ⊢
      have hck := hc k hlt
      clear hc
      have hp := pr_small (k := 18) (i := k) (by omega) (by rw [hnn]; exact hlt)
      have hr := root_get roots_h (i := k) (by rw [hnn]; exact hlt)
      obtain ⟨p, hpp⟩ : ∃ p, (prA 18).getD k 0 = p := ⟨_, rfl⟩
      rw [hpp] at hck hp hr
      obtain ⟨x, hx⟩ : ∃ x, rtN (wantN p false) false 41 = x := ⟨_, rfl⟩
      rw [hx] at hr
      have hx6 : x < 18446744073709551616 := by
        have := rtN_le (wantN p false) false 41 (by omega)
        rw [hx] at this; omega
      have HX := Lib.hid hx; have HR := Lib.hid hr
      clear hpp hx hr
      go_wp2_with (go_at_call 39; refine (root_any p false _ hp).mono ?_; rintro e w2 ⟨rfl, hb⟩; rw [HX.out]; have HC2 := Lib.hid (HC.out.step hb); have ck := HC2.out.row.at (i := k) (v := .int .u32 0) (uV_get (hole hL_len hlt)); have fk := HC2.out.row.free k; clear hb)
      go_roundw
      case rel => exact ⟨k + 1, by omega, by go_num, Lib.hid (by
        rw [show (x : Int) % 4294967296 = ((x % 4294967296 : Nat) : Int) by omega, HR.out]
        have := HC2.out.put hL_len hlt
        rw [hnn] at this
        exact this)⟩
      case measure => simp [intOf]; omega
    · have hkn : k = 8 := by omega
      have HF : Hid (AR wr (w.heap.size + 1) 23 (uV hL)) := Lib.hid (by have := HC.out.row; rw [hkn, mix_full hL_len (by rw [List.length_replicate])] at this; exact this)
      clear hkn
      go_wp2_with (first
        | ((with_reducible refine atOp ⟨some 18, _, _, _, _, _⟩ ?_); refine wpList_load_row rfl 23 _ rfl (w.heap.size + 1) rfl 23 (uV hL) (0, 0) _ HF.out Tryd.underlying23 rfl HI.out ?_)
        | ((with_reducible refine atOp ⟨none, .store 23 _ _, _, _, _, _⟩ ?_); refine wpList_store_row rfl 23 (.tmp 0) (.tmp 18) rfl w.heap.size (uV hL) rfl rfl 23 (uV (List.replicate 8 0)) HC.out.res HI.out rfl (uV_one _) ?_))
      refine bodyPost_ret (v := .agg (uV hL)) (results_cell_row Tryd.results17 _ _ w.heap.size 23 _ (0, 0) _ rfl (HC.out.res.row _) Tryd.underlying23 rfl HI.out) rfl ⟨rfl, bl_row _ HC.out.bel (by omega)⟩
end Go.Proofs.YtipcanphkdodaaaDoor
