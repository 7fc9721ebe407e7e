/- Save of a queue. -/
import Derived.Test.YtcppgefnocjdiaaHeapsSb
import Derived.Deep.RegionHeld3
namespace Go.Proofs.Ytcppgefnocjdiaa
open Go.RowKit Go.Lib Go.Sort Go.Shelf
set_option linter.unusedVariables false

set_option maxRecDepth 100000 in
set_option maxHeartbeats 1000000 in
theorem save_any (B qb mb : Nat) (F v : Value) (lt : Int → Int → Bool) (nx : Int) (S : List HItem) (W : World) (h : QS W B qb mb F v lt nx S) (hs : SortC S.length) : SaveC (.pointer (some ⟨qb, 0, none⟩)) nx S W := by
  have mixed : Try.prog.follows .mixedOrders = true := by kernel_rfl
  obtain ⟨xs, hq, hi⟩ := h.mem
  have hql := hq.lt
  have hlen := hi.len
  have hdh : DH xs := (hi.perm.map (fun x : HItem => x.1)).nodup_iff.2 hi.one
  have kA : ∀ W1, Go.RowKit.Below W.heap.size W W1 → Calls Try.prog 48 #[.pointer (some ⟨qb, 2, none⟩)] W1 fun e w' => ∃ v', e = .returned v' ∧ Hid (OH w' W1.heap.size v' S ∧ Go.RowKit.Below W1.heap.size W1 w') := fun W1 hb => by
    refine (ascending_any B qb mb F v nx xs lt h.ls h.wk W1 (hq.later hb) hdh (by rw [hlen]; exact hs)).mono ?_
    rintro e w' ⟨v', L, he, p1, p2, p3, p4⟩
    have hL : L = S := sorted_one (befI_weak h.wk) p2 hi.asc (p1.trans hi.perm)
    subst hL
    exact ⟨v', he, Lib.hid ⟨p3, p4⟩⟩
  have KA := Lib.hid kA
  have k1 := made_yes qb (W.alloc (.cells #[.int .i64 0, .slice none 0 0] 24)) (Lib.cell?_alloc_some _ hq.c0)
  have c1 : (W.alloc (.cells #[.int .i64 0, .slice none 0 0] 24)).cell? ⟨qb, 1, none⟩ = some (.int .i64 nx) := Lib.cell?_alloc_some _ hq.c1
  have hb1 : Go.RowKit.Below W.heap.size W (W.alloc (.cells #[.int .i64 0, .slice none 0 0] 24)) := (Go.RowKit.Below.refl _ W).alloc (Nat.le_refl _) _
  unfold SaveC
  clear h hs kA hdh hi hlen hq
  go_enter Try.func17, Try.ntmps17
  go_wp2_with (first | (go_at_call 47; refine k1.mono ?_; rintro e w' ⟨rfl, hw⟩; subst hw))
  obtain ⟨p0, p1⟩ := box2 W (.int .i64 0) (.slice none 0 0) 24 W.heap.size rfl
  have f0 := (row_new W #[.int .i64 0, .slice none 0 0] 24 W.heap.size 0 rfl).2
  have f1 := (row_new W #[.int .i64 0, .slice none 0 0] 24 W.heap.size 1 rfl).2
  have hs1 : W.heap.size < (W.alloc (.cells #[.int .i64 0, .slice none 0 0] 24)).heap.size := by simp
  clear k1
  generalize W.alloc (.cells #[.int .i64 0, .slice none 0 0] 24) = w1 at c1 hb1 p0 p1 f0 f1 hs1 ⊢
  obtain ⟨p, hp⟩ : ∃ p, W.heap.size = p := ⟨_, rfl⟩
  have HP := Lib.hid hp
  rw [hp] at p0 p1 f0 f1 hs1 ⊢
  have hqp : qb < p := by rw [← hp]; exact hql.1
  have hbd : Go.RowKit.Below W.heap.size W w1.drew := hb1.trans ⟨rfl, rfl, rfl, Nat.le_refl _, fun _ _ => rfl⟩
  have HBD := Lib.hid hbd
  clear hbd hp
  go_region_with (go_at_call 48; refine (KA.out w1.drew HBD.out).mono ?_; rintro e w2 ⟨v', rfl, H⟩; obtain ⟨A, c, hv⟩ := H.out.1.len; subst hv; have x1 : w2.cell? ⟨qb, 1, none⟩ = some (.int .i64 nx) := (World.cell?_of_block (a := ⟨qb, 1, none⟩) (H.out.2.block qb (show qb < w1.heap.size by omega))).trans c1; have y0 : w2.cell? ⟨p, 0, none⟩ = some (.int .i64 0) := (World.cell?_of_block (a := ⟨p, 0, none⟩) (H.out.2.block p hs1)).trans p0; have y1 : w2.cell? ⟨p, 1, none⟩ = some (.slice none 0 0) := (World.cell?_of_block (a := ⟨p, 1, none⟩) (H.out.2.block p hs1)).trans p1; have z0 : w2.frozen? ⟨p, 0, none⟩ = false := (World.frozen?_of_block (a := ⟨p, 0, none⟩) (H.out.2.block p hs1)).trans f0; have z1 : w2.frozen? ⟨p, 1, none⟩ = false := (World.frozen?_of_block (a := ⟨p, 1, none⟩) (H.out.2.block p hs1)).trans f1)
  all_goals
    have r0 : ((w2.setCell ⟨p, 0, none⟩ (.int .i64 nx)).setCell ⟨p, 1, none⟩ (.slice A S.length c)).cell? ⟨p, 0, none⟩ = some (.int .i64 nx) := by
      rw [World.cell?_setCell_other _ _ _ _ (by intro e; simp only [Addr.mk.injEq] at e; omega)]; exact World.cell?_setCell_same _ _ _ y0
    have r1 : ((w2.setCell ⟨p, 0, none⟩ (.int .i64 nx)).setCell ⟨p, 1, none⟩ (.slice A S.length c)).cell? ⟨p, 1, none⟩ = some (.slice A S.length c) :=
      World.cell?_setCell_same _ _ _ (by rw [World.cell?_setCell_other _ _ _ _ (by intro e; simp only [Addr.mk.injEq] at e; omega)]; exact y1)
    have hw : w1.heap.size = w1.drew.heap.size := rfl
    have hO : OH ((w2.setCell ⟨p, 0, none⟩ (.int .i64 nx)).setCell ⟨p, 1, none⟩ (.slice A S.length c)) W.heap.size (.slice A S.length c) S := by
      have ho : OH _ W.heap.size (.slice A S.length c) S := ⟨H.out.1.1, H.out.1.2.imp id fun ⟨g, cap, cur, e, h1, r⟩ => ⟨g, cap, cur, e, Nat.le_trans HBD.out.size h1, r⟩⟩
      refine ho.same fun g hg => ?_
      have hgw : g ≠ p := by have := (H.out.1.lt g hg).1; rw [← hw] at this; omega
      rw [Go.RowKit.Below.heap_setCell _ _ _ _ hgw, Go.RowKit.Below.heap_setCell _ _ _ _ hgw]
    have hB : Go.RowKit.Below W.heap.size W ((w2.setCell ⟨p, 0, none⟩ (.int .i64 nx)).setCell ⟨p, 1, none⟩ (.slice A S.length c)) :=
      ((HBD.out.trans (H.out.2.mono HBD.out.size)).setCell (p := ⟨p, 0, none⟩) (by rw [HP.out]; exact Nat.le_refl _) _).setCell (p := ⟨p, 1, none⟩) (by rw [HP.out]; exact Nat.le_refl _) _
    have HO := Lib.hid hO; have HB := Lib.hid hB
    clear hO hB x1 y0 y1 z0 z1 H
    generalize (w2.setCell ⟨p, 0, none⟩ (.int .i64 nx)).setCell ⟨p, 1, none⟩ (.slice A S.length c) = w3 at r0 r1 HO HB ⊢
    go_wp2_with fail
    refine bodyPost_ret (v := .agg #[.int .i64 nx, .slice A S.length c]) (by simp [results, Try.results17, go_sem, r0, r1]) rfl ?_
    exact ⟨_, rfl, Lib.hid ⟨HO.out, HB.out⟩⟩
/-- A queue keeps its state while only new blocks are laid. -/
theorem saves_any (B qb mb : Nat) (F v : Value) (lt : Int → Int → Bool) (nx : Int) (S : List HItem) (W : World) (h : QS W B qb mb F v lt nx S) (hs : SortC S.length) : ∀ W', Go.RowKit.Below W.heap.size W W' → SaveC (.pointer (some ⟨qb, 0, none⟩)) nx S W' := fun W' hb => save_any B qb mb F v lt nx S W' (h.later hb) hs
end Go.Proofs.Ytcppgefnocjdiaa
