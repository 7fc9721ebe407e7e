/- Sorting a row of items by a method value: what a range holds; insertion sort. -/
import Derived.Test.YtcppgefnocjdiaaHeapsE
import Derived.BigRegion
namespace Go.Proofs.Ytcppgefnocjdiaa
open Go.RowKit Go.Lib Go.Sort Go.Shelf
set_option linter.unusedVariables false

/-- The range from a to b holds what it held, in another order; the rest is as it was. -/
structure PR (a b : Nat) (d d' : List HItem) : Prop where
  perm : d'.Perm d
  out : ∀ k, (k < a ∨ b ≤ k) → d'.getD k d0 = d.getD k d0
theorem PR.refl (a b : Nat) (d : List HItem) : PR a b d d := ⟨List.Perm.refl _, fun _ _ => rfl⟩
theorem PR.trans {a b : Nat} {d d' d'' : List HItem} (h : PR a b d d') (k : PR a b d' d'') : PR a b d d'' := ⟨k.perm.trans h.perm, fun j hj => (k.out j hj).trans (h.out j hj)⟩
theorem PR.wide {a b a' b' : Nat} {d d' : List HItem} (h : PR a b d d') (ha : a' ≤ a) (hb : b ≤ b') : PR a' b' d d' := ⟨h.perm, fun k hk => h.out k (by omega)⟩
theorem PR.len {a b : Nat} {d d' : List HItem} (h : PR a b d d') : d'.length = d.length := h.perm.length_eq
theorem swapL_getD {d : List HItem} {i j : Nat} (hi : i < d.length) (hj : j < d.length) (k : Nat) : (swapL d d0 i j).getD k d0 = if k = i then d.getD j d0 else if k = j then d.getD i d0 else d.getD k d0 := by
  rw [List.getD_eq_getElem?_getD, swapL_at hi hj]
  split
  · rfl
  · split
    · rfl
    · rw [List.getD_eq_getElem?_getD]
theorem PR.swap {a b : Nat} (d : List HItem) {i j : Nat} (hi : a ≤ i ∧ i < b) (hj : a ≤ j ∧ j < b) (hb : b ≤ d.length) : PR a b d (swapL d d0 i j) :=
  ⟨swapL_perm d d0 (by omega) (by omega), fun k hk => by rw [swapL_getD (by omega) (by omega), if_neg (by omega), if_neg (by omega)]⟩
/-- Different items have different handles. -/
def DH (d : List HItem) : Prop := (d.map (·.1)).Nodup
theorem DH.perm {d d' : List HItem} (h : DH d) (p : d'.Perm d) : DH d' := (List.Perm.nodup_iff (p.map (fun x : HItem => x.1))).2 h
theorem DH.ne {d : List HItem} (h : DH d) {i j : Nat} (hi : i < d.length) (hj : j < d.length) (e : i ≠ j) : (d.getD i d0).1 ≠ (d.getD j d0).1 := by
  intro e'
  have a1 : (d.map (·.1))[i]? = some (d.getD i d0).1 := by rw [List.getElem?_map, getD_some hi]; rfl
  have a2 : (d.map (·.1))[j]? = some (d.getD i d0).1 := by rw [List.getElem?_map, getD_some hj, e']; rfl
  exact e ((List.getElem?_inj (List.getElem?_eq_some_iff.1 a1).1 h).1 (a1.trans a2.symm))
theorem DH.total {lt : Int → Int → Bool} (hw : WeakB lt) {d : List HItem} (h : DH d) {i j : Nat} (hi : i < d.length) (hj : j < d.length) (e : i ≠ j) (hn : ¬ befI lt (d.getD i d0) (d.getD j d0)) : befI lt (d.getD j d0) (d.getD i d0) :=
  (befI_total hw (h.ne hi hj e)).resolve_left hn
/-- The range from a to b is in order. -/
def Srt (lt : Int → Int → Bool) (a b : Nat) (d : List HItem) : Prop := ∀ p q, a ≤ p → p < q → q < b → befI lt (d.getD p d0) (d.getD q d0)
/-- All but the item at j are in order up to i, and it is before those behind it. -/
structure InI (lt : Int → Int → Bool) (a j i : Nat) (d : List HItem) : Prop where
  rest : ∀ p q, a ≤ p → p < q → q ≤ i → p ≠ j → q ≠ j → befI lt (d.getD p d0) (d.getD q d0)
  behind : ∀ q, j < q → q ≤ i → befI lt (d.getD j d0) (d.getD q d0)
theorem InI.start {lt : Int → Int → Bool} {a i : Nat} {d : List HItem} (h : Srt lt a i d) : InI lt a i i d := ⟨fun p q h1 h2 h3 h4 h5 => h p q h1 h2 (by omega), fun q h1 h2 => by omega⟩
theorem InI.stop {lt : Int → Int → Bool} (hw : WeakB lt) {a j i : Nat} {d : List HItem} (h : InI lt a j i d) (hd : DH d) (hj : a ≤ j) (hji : j ≤ i) (hi : i < d.length) (hs : j = a ∨ ¬ befI lt (d.getD j d0) (d.getD (j - 1) d0)) : Srt lt a (i + 1) d := by
  have w := befI_weak hw
  have hb : a < j → befI lt (d.getD (j - 1) d0) (d.getD j d0) := fun ha => hd.total hw (by omega) (by omega) (by omega) (hs.resolve_left (by omega))
  intro p q h1 h2 h3
  by_cases ep : p = j
  · subst ep; exact h.behind q h2 (by omega)
  · by_cases eq : q = j
    · subst eq
      by_cases e1 : p = q - 1
      · subst e1; exact hb (by omega)
      · exact w.trans _ _ _ (h.rest p (q - 1) h1 (by omega) (by omega) ep (by omega)) (hb (by omega))
    · exact h.rest p q h1 h2 (by omega) ep eq
theorem InI.step {lt : Int → Int → Bool} {a j i : Nat} {d : List HItem} (h : InI lt a j i d) (hj : a < j) (hji : j ≤ i) (hi : i < d.length) (hl : befI lt (d.getD j d0) (d.getD (j - 1) d0)) : InI lt a (j - 1) i (swapL d d0 j (j - 1)) := by
  have e := swapL_getD (d := d) (i := j) (j := j - 1) (by omega) (by omega)
  refine ⟨fun p q h1 h2 h3 h4 h5 => ?_, fun q h1 h2 => ?_⟩
  · rw [e p, e q]
    by_cases ep : p = j
    · rw [if_pos ep, if_neg (by omega), if_neg h5]; exact h.rest _ _ (by omega) (by omega) h3 (by omega) (by omega)
    · by_cases eq : q = j
      · rw [if_neg ep, if_neg h4, if_pos eq]; exact h.rest _ _ h1 (by omega) (by omega) ep (by omega)
      · rw [if_neg ep, if_neg h4, if_neg eq, if_neg h5]; exact h.rest _ _ h1 h2 h3 ep eq
  · rw [e (j - 1), e q, if_neg (by omega), if_pos rfl]
    by_cases eq : q = j
    · rw [if_pos eq]; exact hl
    · rw [if_neg eq, if_neg (by omega)]; exact h.behind q (by omega) h2

/-- A world of the sort: the row holds d, only it has turned. -/
structure SM (W0 : World) (B g n c : Nat) (d : List HItem) (wr : World) : Prop where
  row : OH wr B (.slice (some ⟨g, 0, none⟩) n c) d
  len : d.length = n
  gb : W0.grownBy wr (some g)
theorem SM.grew {W0 : World} {B g n c : Nat} {d : List HItem} {wr w' : World} (h : SM W0 B g n c d wr) (hb : Grew wr w') : SM W0 B g n c d w' := by
  have hbl := hb.below
  refine ⟨h.row.same fun k hk => hbl.block k (h.row.lt k hk).2, h.len, h.gb.trans ⟨hbl.os, hbl.tape, hbl.output, hbl.size, fun k hk _ => hbl.block k hk⟩⟩
theorem SM.swapped {W0 : World} {B g n c : Nat} {d : List HItem} {wr : World} (h : SM W0 B g n c d wr) {i j : Nat} {x y : HItem} (hi : i < n) (hj : j < n) (hx : d.getD i d0 = x) (hy : d.getD j d0 = y) :
    SM W0 B g n c (swapL d d0 i j) ((((wr.setCell ⟨g, i * 2, none⟩ (.int .i64 y.1)).setCell ⟨g, i * 2 + 1, none⟩ (.int .i64 y.2)).setCell ⟨g, j * 2, none⟩ (.int .i64 x.1)).setCell ⟨g, j * 2 + 1, none⟩ (.int .i64 x.2)) := by
  have hr := h.row
  rw [← h.len] at hr hi hj
  obtain ⟨h1, h2⟩ := hr.swapped hi hj hx hy
  rw [h.len] at h1
  exact ⟨h1, by rw [swapL_len]; exact h.len, h.gb.trans h2⟩
theorem SM.drew {W0 : World} {B g n c : Nat} {d : List HItem} {wr : World} (h : SM W0 B g n c d wr) : SM W0 B g n c d wr.drew := h.grew ((Grew.refl wr).drew)
/-- The cells of an item, in every world that follows. -/
theorem SM.cells {W0 : World} {B g n c : Nat} {d : List HItem} {wr : World} (h : SM W0 B g n c d wr) {i : Nat} (hi : i < n) : wr.cell? ⟨g, i * 2, none⟩ = some (.int .i64 (d.getD i d0).1) ∧ wr.cell? ⟨g, i * 2 + 1, none⟩ = some (.int .i64 (d.getD i d0).2) ∧ ∀ j, wr.frozen? ⟨g, j, none⟩ = false := by
  obtain ⟨g', c', e, h1, h2, h3⟩ := h.row.item (getD_some (xs := d) (i := i) (by rw [h.len]; exact hi))
  simp only [Value.slice.injEq, Option.some.injEq, Addr.mk.injEq] at e
  obtain ⟨⟨rfl, _⟩, _⟩ := e
  exact ⟨h1, h2, h3⟩
/-- What the sort is told: less, and where it lies. -/
structure SE (W0 : World) (qb : Nat) (g : Nat) (F : Value) (lt : Int → Int → Bool) : Prop where
  cell : W0.cell? ⟨qb, 2, none⟩ = some F
  ne : qb ≠ g
  ls : LessC F lt
  wk : WeakB lt
theorem SE.cmp {W0 : World} {B g n c qb : Nat} {F : Value} {lt : Int → Int → Bool} {d : List HItem} {wr : World} (h : SE W0 qb g F lt) (m : SM W0 B g n c d wr) (x y : HItem) (N : Nat) (os : Array Obj) :
    Calls Try.prog 60 #[.pointer (some ⟨qb, 2, none⟩), .agg #[.int .i64 x.1, .int .i64 x.2], .agg #[.int .i64 y.1, .int .i64 y.2]] (grow (wr.drewN N) os) fun e w'' => e = .returned (.int .i64 (cmpI lt x y)) ∧ ∃ p : GrownBy, w'' = grow (wr.drewN p.n) p.os := by
  have hc : wr.cell? ⟨qb, 2, none⟩ = some F := m.gb.cell h.cell (fun e => h.ne (Option.some.inj e))
  exact Calls.grown_of (compare_any qb 2 F lt h.ls x y _ (cell_grown (World.block_lt_of_cell? wr _ hc) hc N os))
theorem enters_cmp : ∀ args w, (callFunc 60 args).run Try.prog w = .ok (.enter 60 args) w := enters_of Try.func60 (by kernel_rfl) rfl
/-- The method value that compares. -/
def cmpF (qb : Nat) : Value := .func (.func 60) #[.pointer (some ⟨qb, 2, none⟩)] #[]
set_option maxRecDepth 100000 in
set_option maxHeartbeats 4000000 in
theorem insertion_any (B g n c qb : Nat) (F : Value) (lt : Int → Int → Bool) (d : List HItem) (a b : Nat) (W : World) (h : SE W qb g F lt) (hm : SM W B g n c d W) (hd : DH d) (ha : a ≤ b) (hb : b ≤ n) (hn : n ≤ 100000) :
    Calls Try.prog 76 #[.slice (some ⟨g, 0, none⟩) n c, .int .i64 a, .int .i64 b, cmpF qb] W fun e w' => e = .returned (.tuple #[]) ∧ ∃ d', PR a b d d' ∧ Srt lt a b d' ∧ SM W B g n c d' w' := by
  have mixed : Try.prog.follows .mixedOrders = true := by kernel_rfl
  have HE := Lib.hid h; have HM := Lib.hid hm; have HD := Lib.hid hd
  have ec := enters_cmp
  have i0 : IntKind.i64.wrap ((a : Int) + 1) = ((a + 1 : Nat) : Int) := by rw [IntWalk.i64_in _ (by omega)]; omega
  unfold cmpF
  obtain ⟨m, hma⟩ : ∃ m, a + 1 = m := ⟨_, rfl⟩
  rw [hma] at i0
  have HMA := Lib.hid hma
  clear h hm hd hma
  go_enter Try.func76, Try.ntmps76
  go_wp2_with fail
  go_loopw [8] (fun vi wr => ∃ (i : Nat) (di : List HItem), vi = .int .i64 i ∧ a < i ∧ i ≤ max (a + 1) b ∧ Hid (PR a b d di ∧ (a < b → Srt lt a i di) ∧ SM W B g n c di wr)) (fun vi _ => b - (intOf vi).toNat)
  case atStart => exact ⟨m, d, rfl, by have := HMA.out; omega, by have := HMA.out; omega, Lib.hid ⟨PR.refl _ _ _, fun _ p q h1 h2 h3 => by have := HMA.out; omega, HM.out⟩⟩
  case round =>
    obtain ⟨i, di, rfl, hai, hib, HR⟩ := hrel
    by_cases hlt : i < b
    · have i1 : (i : Int) < (b : Int) := by omega
      go_wp2_with fail
      go_loopw [9] (fun vj wj => ∃ (j : Nat) (dj : List HItem), vj = .int .i64 j ∧ a ≤ j ∧ j ≤ i ∧ Hid (PR a b d dj ∧ InI lt a j i dj ∧ SM W B g n c dj wj)) (fun vj _ => (intOf vj).toNat)
      case atStart => exact ⟨i, di, rfl, by omega, Nat.le_refl _, Lib.hid ⟨HR.out.1, InI.start (HR.out.2.1 (by omega)), HR.out.2.2⟩⟩
      case round =>
        obtain ⟨j, dj, rfl, haj, hji, HI⟩ := hrel
        have hout : (j = a ∨ ¬ befI lt (dj.getD j d0) (dj.getD (j - 1) d0)) → Srt lt a (i + 1) dj := fun hs => HI.out.2.1.stop HE.out.wk (HD.out.perm HI.out.1.perm) haj hji (by have := HI.out.2.2.len; omega) hs
        have HOUT := Lib.hid hout
        clear hout
        by_cases hja : a < j
        · obtain ⟨jp, hjp⟩ : ∃ jp, j - 1 = jp := ⟨_, rfl⟩
          have HJP := Lib.hid hjp
          have hjpj : jp + 1 = j := by omega
          obtain ⟨c0, c1, hz⟩ := HI.out.2.2.cells (i := j) (by omega)
          obtain ⟨e0, e1, _⟩ := HI.out.2.2.cells (i := jp) (by omega)
          obtain ⟨x, hx⟩ : ∃ x, dj.getD j d0 = x := ⟨_, rfl⟩
          obtain ⟨y, hy⟩ : ∃ y, dj.getD jp d0 = y := ⟨_, rfl⟩
          rw [hx] at c0 c1
          rw [hy] at e0 e1
          have HX := Lib.hid hx; have HY := Lib.hid hy
          have kc := fun N os => HE.out.cmp HI.out.2.2 x y N os
          have HCN := Lib.hid (cmpI_neg (lt := lt) (a := x) (b := y))
          generalize cmpI lt x y = r at kc HCN
          have z1 := hz (j * 2); have z2 := hz (j * 2 + 1); have z3 := hz (jp * 2); have z4 := hz (jp * 2 + 1)
          have HSW := Lib.hid (fun wz (hG : Grew wr wz) => ((HI.out.2.2.grew hG).swapped (i := j) (j := jp) (x := x) (y := y) (by omega) (by omega) hx hy).drew)
          obtain ⟨xh, xv⟩ := x
          obtain ⟨yh, yv⟩ := y
          simp only at c0 c1 e0 e1 kc
          have g0 := grown_cell c0; have g1 := grown_cell c1; have g2 := grown_cell e0; have g3 := grown_cell e1
          have i2 : (j : Int) > (a : Int) := by omega
          have i3 : IntKind.i64.wrap ((j : Int) - 1) = (jp : Int) := by rw [IntWalk.i64_in _ (by omega)]; omega
          have i4 : (j : Int) < (n : Int) := by omega
          have i5 : (jp : Int) < (n : Int) := by omega
          clear hx hy hjp hz
          by_cases hr : r < 0
          · have hbef := HCN.out.1 hr
            have HB := Lib.hid hbef
            clear hbef
            go_wp2_with fail
            go_quiet_grown (first | (go_at_fn 60; exact kc _ _))
            have hG : Grew wr (grow (wr.drewN nq) osq) := Grew.of _ _
            have HSW2 := Lib.hid (HSW.out _ hG)
            have q0 := g0 nq osq; have q1 := g1 nq osq; have q2 := g2 nq osq; have q3 := g3 nq osq
            have f1 : (grow (wr.drewN nq) osq).frozen? ⟨g, j * 2, none⟩ = false := (World.frozen?_of_block (a := ⟨g, j * 2, none⟩) (hG.below.block g (World.block_lt_of_cell? wr _ c0))).trans z1
            have f2 : (grow (wr.drewN nq) osq).frozen? ⟨g, j * 2 + 1, none⟩ = false := (World.frozen?_of_block (a := ⟨g, j * 2 + 1, none⟩) (hG.below.block g (World.block_lt_of_cell? wr _ c0))).trans z2
            have f3 : (grow (wr.drewN nq) osq).frozen? ⟨g, jp * 2, none⟩ = false := (World.frozen?_of_block (a := ⟨g, jp * 2, none⟩) (hG.below.block g (World.block_lt_of_cell? wr _ c0))).trans z3
            have f4 : (grow (wr.drewN nq) osq).frozen? ⟨g, jp * 2 + 1, none⟩ = false := (World.frozen?_of_block (a := ⟨g, jp * 2 + 1, none⟩) (hG.below.block g (World.block_lt_of_cell? wr _ c0))).trans z4
            clear g0 g1 g2 g3 kc c0 c1 e0 e1 z1 z2 z3 z4 hG
            generalize grow (wr.drewN nq) osq = wq at HSW2 q0 q1 q2 q3 f1 f2 f3 f4 ⊢
            go_wp2_with fail
            go_big_region_o
            all_goals
              go_wp2_with fail
              go_roundw
              case rel =>
                refine ⟨jp, swapL dj d0 j jp, rfl, by omega, by omega, Lib.hid ⟨HI.out.1.trans (PR.swap dj ⟨by omega, by omega⟩ ⟨by omega, by omega⟩ (by have := HI.out.2.2.len; omega)), ?_, HSW2.out⟩⟩
                have := HI.out.2.1.step hja hji (by have := HI.out.2.2.len; omega) (by rw [HJP.out, HX.out, HY.out]; exact HB.out)
                rw [HJP.out] at this
                exact this
              case measure => simp [intOf]; omega
          · have hbef : ¬ befI lt (xh, xv) (yh, yv) := fun h => hr (HCN.out.2 h)
            have HB := Lib.hid hbef
            clear hbef
            go_wp2_with fail
            go_quiet_grown (first | (go_at_fn 60; exact kc _ _))
            have hG : Grew wr (grow (wr.drewN nq) osq) := Grew.of _ _
            have HM2 := Lib.hid (HI.out.2.2.grew hG)
            have HS2 := Lib.hid (HOUT.out (.inr (by rw [HJP.out, HX.out, HY.out]; exact HB.out)))
            clear g0 g1 g2 g3 kc c0 c1 e0 e1 z1 z2 z3 z4 hG
            generalize grow (wr.drewN nq) osq = wq at HM2 ⊢
            have i6 : IntKind.i64.wrap ((i : Int) + 1) = (i : Int) + 1 := IntWalk.i64_in _ (by omega)
            go_wp2_with fail
            go_roundw
            case rel => exact ⟨i + 1, dj, by go_num, by omega, by omega, Lib.hid ⟨HI.out.1, fun _ => HS2.out, HM2.out⟩⟩
            case measure => simp [intOf]; omega
        · have hjaz : decide ((j : Int) > (a : Int)) = false := decide_eq_false (by omega)
          have hjaz' : ¬ (a : Int) < (j : Int) := by omega
          have i6 : IntKind.i64.wrap ((i : Int) + 1) = (i : Int) + 1 := IntWalk.i64_in _ (by omega)
          have HM2 : Hid (SM W B g n c dj wr.drew) := Lib.hid HI.out.2.2.drew
          have HS2 := Lib.hid (HOUT.out (.inl (by omega)))
          go_wp2_with fail
          go_big_region_o
          all_goals
            go_wp2_with fail
            go_roundw
            case rel => exact ⟨i + 1, dj, by go_num, by omega, by omega, Lib.hid ⟨HI.out.1, fun _ => HS2.out, HM2.out⟩⟩
            case measure => simp [intOf]; omega
    · have i1 : ¬ (i : Int) < (b : Int) := by omega
      go_wp2_with fail
      go_end0
      refine ⟨rfl, di, HR.out.1, ?_, HR.out.2.2⟩
      intro p q h1 h2 h3
      exact HR.out.2.1 (by omega) p q h1 h2 (by omega)
end Go.Proofs.Ytcppgefnocjdiaa
