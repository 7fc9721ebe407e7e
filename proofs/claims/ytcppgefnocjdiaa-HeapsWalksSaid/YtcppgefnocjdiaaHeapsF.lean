/- Swap of a queue's tree: its walk. -/
import Derived.Test.YtcppgefnocjdiaaHeapsE
import Derived.BigRegion
namespace Go.Proofs.Ytcppgefnocjdiaa
open Go.RowKit Go.Lib Go.Sort Go.Shelf Go.MapKept
set_option linter.unusedVariables false
set_option linter.unusedSimpArgs false

set_option maxRecDepth 100000 in
set_option maxHeartbeats 4000000 in
theorem swap_any (B qb mb : Nat) (F v : Value) (nx : Int) (xs : List HItem) (i j : Nat) (W : World) (h : QM W B qb mb F v nx xs) (hi : i < xs.length) (hj : j < xs.length) (hij : i ≠ j) :
    Calls Try.prog 114 #[.pointer (some ⟨qb, 2, none⟩), .int .i64 i, .int .i64 j] W fun e w' => e = .returned (.tuple #[]) ∧ QM w' B qb mb F v nx (swapL xs d0 i j) ∧ Onl qb mb W v w' v := by
  have mixed : Try.prog.follows .mixedOrders = true := by kernel_rfl
  obtain ⟨g, c, rfl, a1, a2⟩ := h.cells hi
  obtain ⟨g', c', e', b1, b2⟩ := h.cells hj
  simp only [Value.slice.injEq, Option.some.injEq, Addr.mk.injEq] at e'
  obtain ⟨⟨rfl, _⟩, _, rfl⟩ := e'
  have HS := Lib.hid (fun WR W' f hp hr hm => @QM.swap W W' B qb mb g c F nx xs i j h hi hj hij f hp WR hr hm)
  have n2 : g ≠ qb := fun e => h.n2 (by rw [← e]; rfl)
  have hzf : ∀ j, W.frozen? ⟨g, j, none⟩ = false := by
    obtain ⟨g1, c1, e1, _, _, hz⟩ := h.row.item (getD_some hi)
    simp only [Value.slice.injEq, Option.some.injEq, Addr.mk.injEq] at e1
    obtain ⟨⟨rfl, _⟩, _⟩ := e1
    exact hz
  have k1 := has_any qb _ c _ i j _ h.c3 hi hj
  have HNE : Hid (¬ mb = g) := Lib.hid fun e => h.n3 (by rw [e]; rfl)
  have c3 := h.c3
  have c4 := h.c4
  have HOW := Lib.hid h.row
  have HM := Lib.hid h.map
  have hiz : (i : Int) < (xs.length : Int) := by omega
  have hjz : (j : Int) < (xs.length : Int) := by omega
  obtain ⟨n, hn⟩ : ∃ n, xs.length = n := ⟨_, rfl⟩
  rw [hn] at c3 hiz hjz
  have HN := Lib.hid hn
  have hijz : (i : Int) ≠ (j : Int) := by omega
  obtain ⟨x, hx⟩ : ∃ x, xs.getD i d0 = x := ⟨_, rfl⟩
  obtain ⟨y, hy⟩ : ∃ y, xs.getD j d0 = y := ⟨_, rfl⟩
  rw [hx] at a1 a2
  rw [hy] at b1 b2
  have HX := Lib.hid hx
  have HY := Lib.hid hy
  obtain ⟨xh, xv⟩ := x
  obtain ⟨yh, yv⟩ := y
  simp only at a1 a2 b1 b2
  have z1 := hzf (i * 2)
  have z2 := hzf (i * 2 + 1)
  have z3 := hzf (j * 2)
  have z4 := hzf (j * 2 + 1)
  clear h hi hj hzf hn hx hy
  go_enter Try.func114, Try.ntmps114
  go_wp2_with (first | (go_at_call 115; refine k1.mono ?_; rintro e w' ⟨rfl, hw'⟩; subst hw'))
  go_big_region_o
  have HP := Lib.hid (OH.swapped HOW.out (i := i) (j := j) (by rw [HN.out]; omega) (by rw [HN.out]; omega) HX.out HY.out)
  have q3 := qb_cells (g := g) n2 c3 (i * 2) (i * 2 + 1) (j * 2) (j * 2 + 1) (.int .i64 yh) (.int .i64 yv) (.int .i64 xh) (.int .i64 xv)
  have q4 := qb_cells (g := g) n2 c4 (i * 2) (i * 2 + 1) (j * 2) (j * 2 + 1) (.int .i64 yh) (.int .i64 yv) (.int .i64 xh) (.int .i64 xv)
  clear a1 a2 b1 b2 z1 z2 z3 z4 c3 c4 k1
  generalize ((((w'.setCell ⟨g, i * 2, none⟩ (.int .i64 yh)).setCell ⟨g, i * 2 + 1, none⟩ (.int .i64 yv)).setCell ⟨g, j * 2, none⟩ (.int .i64 xh)).setCell ⟨g, j * 2 + 1, none⟩ (.int .i64 xv)) = wr at *
  obtain ⟨g1, c1, e1, b1, _, _⟩ := HP.out.1.item (i := i) (s := (yh, yv)) (by rw [swapL_at (by rw [HN.out]; omega) (by rw [HN.out]; omega), if_pos rfl, HY.out])
  obtain ⟨g2, c2, e2, b2, _, _⟩ := HP.out.1.item (i := j) (s := (xh, xv)) (by rw [swapL_at (by rw [HN.out]; omega) (by rw [HN.out]; omega), if_neg (by omega), if_pos rfl, HX.out])
  simp only [Value.slice.injEq, Option.some.injEq, Addr.mk.injEq] at e1 e2
  obtain ⟨⟨rfl, _⟩, _⟩ := e1
  obtain ⟨⟨rfl, _⟩, _⟩ := e2
  obtain ⟨f, hm, hp⟩ := HM.out
  have hmr : PM wr mb f := hm.same (HP.out.2.block mb hm.lt (by have := HS.out; simp; exact HNE.out))
  obtain ⟨v1, v2, s1, s2, WA, WB, WC, r1, r2, r3, r4, r5, r6, r7, r8, t3, t4⟩ := PM.two (W := wr.drew.drew) (f := f) (h1 := yh) (h2 := xh) hmr (fun e => by
      have := hp.inj (getD_some (i := i) (by rw [HN.out]; omega)) (getD_some (i := j) (by rw [HN.out]; omega)) (by rw [HX.out, HY.out]; exact e.symm)
      omega) i j (by rw [show f yh = some (j : Int) from by have := hp.at (getD_some (i := j) (by rw [HN.out]; omega)); rw [HY.out] at this; exact this]; rfl) (by rw [show f xh = some (i : Int) from by have := hp.at (getD_some (i := i) (by rw [HN.out]; omega)); rw [HX.out] at this; exact this]; rfl)
  have t1 := r1 wr.drew.drew rfl
  have t2 := r2 wr.drew.drew rfl
  have HE := Lib.hid (show QM WC _ _ _ _ _ _ _ ∧ _ from HS.out wr WC f hp HP.out (by rw [HX.out, HY.out]; exact ⟨r7, World.grownBy.trans (show wr.grownBy wr.drew.drew (some mb) from ⟨rfl, rfl, rfl, Nat.le_refl _, fun _ _ _ => rfl⟩) r8⟩))
  clear hp hmr hm r1 r2 r7 r8
  go_wp2_with fail
  go_big_region_o
  go_end0
  exact ⟨rfl, HE.out⟩
end Go.Proofs.Ytcppgefnocjdiaa
