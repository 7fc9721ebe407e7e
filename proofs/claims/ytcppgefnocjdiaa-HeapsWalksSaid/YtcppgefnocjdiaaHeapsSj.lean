/- slices' partition by a method value. -/
import Derived.Test.YtcppgefnocjdiaaHeapsSg
import Derived.Deep.CutBlock
import Derived.Deep.LoopGhost
namespace Go.Proofs.Ytcppgefnocjdiaa
open Go.RowKit Go.Lib Go.Sort Go.Shelf
set_option linter.unusedVariables false

/-- A range parted at m. -/
structure ParR (lt : Int → Int → Bool) (a m b : Nat) (d : List HItem) : Prop where
  le : a ≤ m
  lb : m < b
  left : ∀ k, a ≤ k → k < m → befI lt (d.getD k d0) (d.getD m d0)
  right : ∀ k, m < k → k < b → befI lt (d.getD m d0) (d.getD k d0)
structure PSt (W0 : World) (B g n c : Nat) (lt : Int → Int → Bool) (a b : Nat) (d : List HItem) (i j : Nat) (dr : List HItem) (w : World) : Prop where
  pr : PR a b d dr
  sm : SM W0 B g n c dr w
  dh : DH dr
  lo : ∀ k, a < k → k < i → befI lt (dr.getD k d0) (dr.getD a d0)
  hi : ∀ k, j < k → k < b → befI lt (dr.getD a d0) (dr.getD k d0)
  b1 : a + 1 ≤ i
  b2 : i ≤ j + 1
  b3 : a ≤ j
  b4 : j < b
  b5 : b ≤ n
theorem PSt.grew {W0 : World} {B g n c : Nat} {lt : Int → Int → Bool} {a b : Nat} {d : List HItem} {i j : Nat} {dr : List HItem} {w w' : World} (h : PSt W0 B g n c lt a b d i j dr w) (hg : Grew w w') : PSt W0 B g n c lt a b d i j dr w' :=
  ⟨h.pr, h.sm.grew hg, h.dh, h.lo, h.hi, h.b1, h.b2, h.b3, h.b4, h.b5⟩
theorem PSt.up {W0 : World} {B g n c : Nat} {lt : Int → Int → Bool} {a b : Nat} {d : List HItem} {i j : Nat} {dr : List HItem} {w : World} (h : PSt W0 B g n c lt a b d i j dr w) (hij : i ≤ j) (hb : befI lt (dr.getD i d0) (dr.getD a d0)) : PSt W0 B g n c lt a b d (i + 1) j dr w :=
  ⟨h.pr, h.sm, h.dh, fun k h1 h2 => by
    by_cases e : k = i
    · rw [e]; exact hb
    · exact h.lo k h1 (by omega), h.hi, by have := h.b1; omega, by omega, h.b3, h.b4, h.b5⟩
theorem PSt.down {W0 : World} {B g n c : Nat} {lt : Int → Int → Bool} (hw : WeakB lt) {a b : Nat} {d : List HItem} {i j : Nat} {dr : List HItem} {w : World} (h : PSt W0 B g n c lt a b d i j dr w) (hij : i ≤ j) (hb : ¬ befI lt (dr.getD j d0) (dr.getD a d0)) : PSt W0 B g n c lt a b d i (j - 1) dr w := by
  have h1 := h.b1; have h4 := h.b4; have h5 := h.b5; have hl := h.sm.len
  exact ⟨h.pr, h.sm, h.dh, h.lo, fun k h1 h2 => by
    by_cases e : k = j
    · rw [e]; exact h.dh.total hw (by omega) (by omega) (by omega) hb
    · exact h.hi k (by omega) h2, h.b1, by omega, by omega, by omega, h.b5⟩
theorem PSt.ne {W0 : World} {B g n c : Nat} {lt : Int → Int → Bool} {a b : Nat} {d : List HItem} {i j : Nat} {dr : List HItem} {w : World} (h : PSt W0 B g n c lt a b d i j dr w) (h1 : ¬ befI lt (dr.getD i d0) (dr.getD a d0)) (h2 : befI lt (dr.getD j d0) (dr.getD a d0)) : i ≠ j := fun e => h1 (e ▸ h2)
theorem PSt.swap {W0 : World} {B g n c : Nat} {lt : Int → Int → Bool} (hw : WeakB lt) {a b : Nat} {d : List HItem} {i j : Nat} {dr : List HItem} {w w' : World} (h : PSt W0 B g n c lt a b d i j dr w) (hij : i ≤ j) (k1 : ¬ befI lt (dr.getD i d0) (dr.getD a d0)) (k2 : befI lt (dr.getD j d0) (dr.getD a d0)) (hs : SM W0 B g n c (swapL dr d0 i j) w') : PSt W0 B g n c lt a b d (i + 1) (j - 1) (swapL dr d0 i j) w' := by
  have hne := h.ne k1 k2
  have h1 := h.b1; have h4 := h.b4; have h5 := h.b5; have hl := h.sm.len
  have e := swapL_getD (d := dr) (i := i) (j := j) (by omega) (by omega)
  have k3 : befI lt (dr.getD a d0) (dr.getD i d0) := h.dh.total hw (by omega) (by omega) (by omega) k1
  refine ⟨h.pr.trans (PR.swap dr ⟨by omega, by omega⟩ ⟨by omega, by omega⟩ (by omega)), hs, h.dh.perm (swapL_perm _ _ (by omega) (by omega)), fun k a1 a2 => ?_, fun k a1 a2 => ?_, by omega, by omega, by omega, by omega, h5⟩
  · rw [e k, e a, if_neg (show ¬ a = i by omega), if_neg (show ¬ a = j by omega)]
    by_cases ek : k = i
    · rw [if_pos ek]; exact k2
    · rw [if_neg ek, if_neg (by omega)]; exact h.lo k a1 (by omega)
  · rw [e k, e a, if_neg (show ¬ a = i by omega), if_neg (show ¬ a = j by omega), if_neg (by omega)]
    by_cases ek : k = j
    · rw [if_pos ek]; exact k3
    · rw [if_neg ek]; exact h.hi k (by omega) a2
/-- What partition leaves. -/
def PaR (W0 : World) (B g n c : Nat) (lt : Int → Int → Bool) (a b : Nat) (d : List HItem) (m : Nat) (w' : World) : Prop := ∃ d', ParR lt a m b d' ∧ PR a b d d' ∧ SM W0 B g n c d' w'
theorem PSt.done {W0 : World} {B g n c : Nat} {lt : Int → Int → Bool} {a b : Nat} {d : List HItem} {i j : Nat} {dr : List HItem} {w w' : World} (h : PSt W0 B g n c lt a b d i j dr w) (hij : ¬ i ≤ j) (hs : SM W0 B g n c (swapL dr d0 j a) w') : PaR W0 B g n c lt a b d j w' := by
  have h1 := h.b1; have h2 := h.b2; have h3 := h.b3; have h4 := h.b4; have h5 := h.b5; have hl := h.sm.len
  have e := swapL_getD (d := dr) (i := j) (j := a) (by omega) (by omega)
  refine ⟨_, ⟨h3, h4, fun k a1 a2 => ?_, fun k a1 a2 => ?_⟩, h.pr.trans (PR.swap dr ⟨by omega, by omega⟩ ⟨by omega, by omega⟩ (by omega)), hs⟩
  · rw [e k, e j, if_pos rfl, if_neg (by omega)]
    by_cases ek : k = a
    · rw [if_pos ek]; exact h.lo j (by omega) (by omega)
    · rw [if_neg ek]; exact h.lo k (by omega) (by omega)
  · rw [e k, e j, if_pos rfl, if_neg (by omega), if_neg (by omega)]
    exact h.hi k a1 a2
theorem PSt.start {W0 : World} {B g n c : Nat} {lt : Int → Int → Bool} {a b : Nat} {d dr : List HItem} {w : World} (hp : PR a b d dr) (hd : DH dr) (hs : SM W0 B g n c dr w) (hab : a + 1 < b) (hb : b ≤ n) : PSt W0 B g n c lt a b d (a + 1) (b - 1) dr w :=
  ⟨hp, hs, hd, fun k h1 h2 => by omega, fun k h1 h2 => by omega, Nat.le_refl _, by omega, by omega, by omega, hb⟩

set_option hygiene false in
/-- A loop from the left: the way to where it stops. -/
local macro "part_up" : tactic => `(tactic| (
  go_wp2_with fail
  go_loopg [12] (j + 1 - i) (fun k vi wr => ∃ i' : Nat, vi = .int .i64 i' ∧ k = j + 1 - i' ∧ Hid (PSt W0 B g n c lt a b d i' j dr wr ∧ i ≤ i'))
  case atStart => exact ⟨i, rfl, rfl, Lib.hid ⟨HP.out, Nat.le_refl _⟩⟩
  case round =>
    obtain ⟨i', rfl, hk, HR⟩ := hrel
    have HK := Lib.hid hk
    clear hk
    by_cases hij : i' ≤ j
    · obtain ⟨i1, hi1⟩ : ∃ i1, i' + 1 = i1 := ⟨_, rfl⟩
      have b1 := HR.out.1.b1; have b4 := HR.out.1.b4; have b5 := HR.out.1.b5
      have e1 : (i' : Int) ≤ (j : Int) := by omega
      have e2 : (i' : Int) < (n : Int) := by omega
      have e3 : (a : Int) < (n : Int) := by omega
      have e4 : IntKind.i64.wrap ((i' : Int) + 1) = (i1 : Int) := w64 (by omega) (by omega)
      obtain ⟨xh, xv, yh, yv, t, HT, g0, g1, g2, g3, kc⟩ := HE.out.test HR.out.1.sm (i := i') (j := a) (by omega) (by omega)
      have HI1 := Lib.hid hi1
      clear hi1 b1 b4 b5
      by_cases ht : t < 0
      · have HN := Lib.hid (show PSt W0 B g n c lt a b d i1 j dr wr from by rw [← HI1.out]; exact HR.out.1.up hij (HT.out.1 ht))
        go_wp2_with fail
        go_quiet_grown (first | (go_at_fn 60; exact kc _ _))
        have HM3 := Lib.hid (HN.out.grew (Grew.of (w := wr) nq osq))
        clear g0 g1 g2 g3 kc
        generalize grow (wr.drewN nq) osq = wq at HM3 ⊢
        go_wp2_with fail
        go_roundg (j + 1 - i1)
        case measure => rw [HK.out, ← HI1.out]; omega
        case rel => exact ⟨i1, rfl, rfl, Lib.hid ⟨HM3.out, by have := HR.out.2; have := HI1.out; omega⟩⟩
      · have ht' : decide (t < 0) = false := decide_eq_false ht
        have HS := Lib.hid (show ¬ befI lt (dr.getD i' d0) (dr.getD a d0) from fun hb => ht (HT.out.2 hb))
        go_wp2_with fail
        go_quiet_grown (first | (go_at_fn 60; exact kc _ _))
        have HM3 := Lib.hid (HR.out.1.grew (Grew.of (w := wr) nq osq))
        clear g0 g1 g2 g3 kc
        generalize grow (wr.drewN nq) osq = wq at HM3 ⊢
        go_wp2_with fail
        go_meet
        exact ⟨i', rfl, Lib.hid ⟨HM3.out, fun _ => HS.out, HR.out.2⟩⟩
    · have e1 : decide ((i' : Int) ≤ (j : Int)) = false := decide_eq_false (by omega)
      have e1' : ¬ (i' : Int) ≤ (j : Int) := by omega
      have HM3 := Lib.hid (HR.out.1.grew ((Grew.refl wr).drew))
      go_wp2_with fail
      go_big_region_o
      all_goals
        generalize wr.drew = wq at HM3 ⊢
        go_wp2_with fail
        go_meet
        exact ⟨i', rfl, Lib.hid ⟨HM3.out, fun h => absurd h hij, HR.out.2⟩⟩))
set_option hygiene false in
/-- A loop from the right. -/
local macro "part_down" : tactic => `(tactic| (
  go_wp2_with fail
  go_loopg [13] (j + 1 - i) (fun k vj wr => ∃ j' : Nat, vj = .int .i64 j' ∧ k = j' + 1 - i ∧ Hid (PSt W0 B g n c lt a b d i j' dr wr ∧ (i ≤ j' → ¬ befI lt (dr.getD i d0) (dr.getD a d0)) ∧ j' ≤ j))
  case atStart => exact ⟨j, rfl, rfl, Lib.hid ⟨HP.out.1, HP.out.2.1, Nat.le_refl _⟩⟩
  case round =>
    obtain ⟨j', rfl, hk, HR⟩ := hrel
    have HK := Lib.hid hk
    clear hk
    by_cases hij : i ≤ j'
    · have b1 := HR.out.1.b1; have b4 := HR.out.1.b4; have b5 := HR.out.1.b5
      obtain ⟨j1, hj1⟩ : ∃ j1, j' - 1 = j1 := ⟨_, rfl⟩
      have e1 : (i : Int) ≤ (j' : Int) := by omega
      have e2 : (j' : Int) < (n : Int) := by omega
      have e3 : (a : Int) < (n : Int) := by omega
      have e4 : IntKind.i64.wrap ((j' : Int) - 1) = (j1 : Int) := w64 (by omega) (by omega)
      obtain ⟨xh, xv, yh, yv, t, HT, g0, g1, g2, g3, kc⟩ := HE.out.test HR.out.1.sm (i := j') (j := a) (by omega) (by omega)
      have HJ1 : Hid (j' - 1 = j1 ∧ 1 ≤ j') := Lib.hid ⟨hj1, by omega⟩
      clear hj1 b1 b4 b5
      by_cases ht : t < 0
      · have HS := Lib.hid (HT.out.1 ht)
        go_wp2_with fail
        go_quiet_grown (first | (go_at_fn 60; exact kc _ _))
        have HM3 := Lib.hid (HR.out.1.grew (Grew.of (w := wr) nq osq))
        clear g0 g1 g2 g3 kc
        generalize grow (wr.drewN nq) osq = wq at HM3 ⊢
        go_wp2_with fail
        go_meet
        exact ⟨j', rfl, Lib.hid ⟨HM3.out, HR.out.2.1, fun _ => HS.out, HR.out.2.2⟩⟩
      · have ht' : decide (t < 0) = false := decide_eq_false ht
        have HN := Lib.hid (show PSt W0 B g n c lt a b d i j1 dr wr from by rw [← HJ1.out.1]; exact HR.out.1.down HE.out.wk hij (fun hb => ht (HT.out.2 hb)))
        go_wp2_with fail
        go_quiet_grown (first | (go_at_fn 60; exact kc _ _))
        have HM3 := Lib.hid (HN.out.grew (Grew.of (w := wr) nq osq))
        clear g0 g1 g2 g3 kc
        generalize grow (wr.drewN nq) osq = wq at HM3 ⊢
        go_wp2_with fail
        go_roundg (j1 + 1 - i)
        case measure => rw [HK.out]; have := HJ1.out; omega
        case rel => exact ⟨j1, rfl, rfl, Lib.hid ⟨HM3.out, fun _ => HR.out.2.1 hij, by have := HR.out.2.2; have := HJ1.out; omega⟩⟩
    · have e1 : decide ((i : Int) ≤ (j' : Int)) = false := decide_eq_false (by omega)
      have e1' : ¬ (i : Int) ≤ (j' : Int) := by omega
      have HM3 := Lib.hid (HR.out.1.grew ((Grew.refl wr).drew))
      go_wp2_with fail
      go_big_region_o
      all_goals
        generalize wr.drew = wq at HM3 ⊢
        go_wp2_with fail
        go_meet
        exact ⟨j', rfl, Lib.hid ⟨HM3.out, HR.out.2.1, fun h => absurd h hij, HR.out.2.2⟩⟩))
set_option hygiene false in
/-- The pivot goes to its place. -/
local macro "part_end" bb:term : tactic => `(tactic| (
  have b3 := HD.out.1.b3; have b4 := HD.out.1.b4; have b5 := HD.out.1.b5
  have e2 : (j : Int) < (n : Int) := by omega
  have e3 : (a : Int) < (n : Int) := by omega
  by_cases hja : j = a
  · subst hja
    obtain ⟨ah, av, g0, g1, f0, f1, HX⟩ := HD.out.1.sm.self (i := j) (by omega)
    have HF := Lib.hid (HD.out.1.done hij HX.out)
    clear b3 b4 b5
    go_wp2_with fail
    go_big_region_o
    all_goals
      clear HX g0 g1 f0 f1
      go_wp2_with fail
      go_ret2
      exact ⟨j, $bb, rfl, HF⟩
  · obtain ⟨ah, av, bh, bv, g0, g1, g2, g3, f0, f1, f2, f3, HX⟩ := HD.out.1.sm.exch (i := j) (j := a) (by omega) (by omega)
    have HF := Lib.hid (HD.out.1.done hij HX.out)
    clear b3 b4 b5
    go_wp2_with fail
    go_big_region_o
    all_goals
      clear HX g0 g1 g2 g3 f0 f1 f2 f3
      go_wp2_with fail
      go_ret2
      exact ⟨j, $bb, rfl, HF⟩))
set_option hygiene false in
/-- Two items out of place change places: what the next round knows. -/
local macro "part_swap" : tactic => `(tactic| (
  have b1 := HD.out.1.b1; have b4 := HD.out.1.b4; have b5 := HD.out.1.b5
  obtain ⟨i1, hi1⟩ : ∃ i1, i + 1 = i1 := ⟨_, rfl⟩
  obtain ⟨j1, hj1⟩ : ∃ j1, j - 1 = j1 := ⟨_, rfl⟩
  have hne := HD.out.1.ne (HD.out.2.1 hij) (HD.out.2.2.1 hij)
  have e2 : (j : Int) < (n : Int) := by omega
  have e3 : (i : Int) < (n : Int) := by omega
  have e4 : IntKind.i64.wrap ((i : Int) + 1) = (i1 : Int) := w64 (by omega) (by omega)
  have e5 : IntKind.i64.wrap ((j : Int) - 1) = (j1 : Int) := w64 (by omega) (by omega)
  have e6 : ¬ (i : Int) > (j : Int) := by omega
  have e7 : decide ((i : Int) > (j : Int)) = false := decide_eq_false e6
  obtain ⟨ah, av, bh, bv, g0, g1, g2, g3, f0, f1, f2, f3, HX⟩ := HD.out.1.sm.exch (i := i) (j := j) (by omega) (by omega)
  have HF := Lib.hid (HD.out.1.swap HE.out.wk hij (HD.out.2.1 hij) (HD.out.2.2.1 hij) HX.out)
  have HIJ : Hid (i + 1 = i1 ∧ j - 1 = j1 ∧ i < j) := Lib.hid ⟨hi1, hj1, by omega⟩
  rw [hi1, hj1] at HF
  clear b1 b4 b5 hi1 hj1
  go_wp2_with fail
  go_big_region_o))

set_option maxRecDepth 100000 in
set_option maxHeartbeats 16000000 in
theorem part_any (B g n c qb : Nat) (F : Value) (lt : Int → Int → Bool) (d : List HItem) (a b p : Nat) (W0 W : World) (h : SE W0 qb g F lt) (hm : SM W0 B g n c d W) (hd : DH d) (hab : a + 1 < b) (hap : a ≤ p) (hpb : p < b) (hb : b ≤ n) (hn : n ≤ 100000) :
    Calls Try.prog 83 #[.slice (some ⟨g, 0, none⟩) n c, .int .i64 a, .int .i64 b, .int .i64 p, cmpF qb] W fun e w' => ∃ (m : Nat) (al : Bool), e = .returned (.tuple #[.int .i64 m, .bool al]) ∧ Hid (PaR W0 B g n c lt a b d m w') := by
  have mixed : Try.prog.follows .mixedOrders = true := by kernel_rfl
  have HE := Lib.hid h
  have ec := enters_cmp
  unfold cmpF
  obtain ⟨i, hi⟩ : ∃ i, a + 1 = i := ⟨_, rfl⟩
  obtain ⟨j, hj⟩ : ∃ j, b - 1 = j := ⟨_, rfl⟩
  have e4 : IntKind.i64.wrap ((a : Int) + 1) = (i : Int) := w64 (by omega) (by omega)
  have e5 : IntKind.i64.wrap ((b : Int) - 1) = (j : Int) := w64 (by omega) (by omega)
  have e2 : (a : Int) < (n : Int) := by omega
  have e3 : (p : Int) < (n : Int) := by omega
  have hl := hm.len
  have HN : Hid (a < b ∧ b ≤ n ∧ n ≤ 100000) := Lib.hid ⟨by omega, by omega, hn⟩
  have hst : ∀ w', SM W0 B g n c (swapL d d0 a p) w' → Hid (PSt W0 B g n c lt a b d i j (swapL d d0 a p) w') := fun w' hs => by
    rw [← hi, ← hj]
    exact Lib.hid (PSt.start (PR.swap d ⟨by omega, by omega⟩ ⟨by omega, by omega⟩ (by omega)) (hd.perm (swapL_perm _ _ (by omega) (by omega))) hs hab hb)
  have HST := Lib.hid hst
  have HM := Lib.hid hm
  clear h hm hd hst hl
  go_enter Try.func83, Try.ntmps83
  go_upto_region 1 with fail
  go_cut [] (fun wc => Hid (PSt W0 B g n c lt a b d i j (swapL d d0 a p) wc))
  case first =>
    by_cases hpa : a = p
    · obtain ⟨ah, av, g0, g1, f0, f1, HX⟩ := HM.out.self (i := a) (by omega)
      subst hpa
      have HF := HST.out _ HX.out
      go_big_region_o
      all_goals
        go_wp2_with fail
        go_meet
        exact HF
    · obtain ⟨ah, av, bh, bv, g0, g1, g2, g3, f0, f1, f2, f3, HX⟩ := HM.out.exch (i := a) (j := p) (by omega) (by omega)
      have HF := HST.out _ HX.out
      go_big_region_o
      all_goals
        go_wp2_with fail
        go_meet
        exact HF
  case rest =>
    have HP := Lib.hid hcut.out
    clear hcut HST HM hi hj hab hap hpb hb
    generalize swapL d d0 a p = dr at HP
    go_upto_block 0 with fail
    go_cut [12] (fun s12 wc => ∃ i' : Nat, s12 = .int .i64 i' ∧ Hid (PSt W0 B g n c lt a b d i' j dr wc ∧ (i' ≤ j → ¬ befI lt (dr.getD i' d0) (dr.getD a d0)) ∧ i ≤ i'))
    case first => part_up
    case rest =>
      clear HP
      clear e4 e2 e3
      obtain ⟨i, rfl, HP⟩ := hcut
      go_upto_block 2 with fail
      go_cut [13] (fun s13 wc => ∃ j' : Nat, s13 = .int .i64 j' ∧ Hid (PSt W0 B g n c lt a b d i j' dr wc ∧ (i ≤ j' → ¬ befI lt (dr.getD i d0) (dr.getD a d0)) ∧ (i ≤ j' → befI lt (dr.getD j' d0) (dr.getD a d0)) ∧ j' ≤ j))
      case first => part_down
      case rest =>
        clear HP
        clear e5
        obtain ⟨j, rfl, HD⟩ := hcut
        by_cases hij : i ≤ j
        · part_swap
          all_goals
            clear HX g0 g1 g2 g3 f0 f1 f2 f3
            go_wp2_with fail
            go_loopg [12, 13] (j1 + 1 - i1) (fun k vi vj wr => ∃ (i j : Nat) (dr : List HItem), vi = .int .i64 i ∧ vj = .int .i64 j ∧ k = j + 1 - i ∧ Hid (PSt W0 B g n c lt a b d i j dr wr))
            case atStart => exact ⟨i1, j1, _, rfl, rfl, rfl, HF.out⟩
            case round =>
              clear HF HD HIJ
              clear hij hne e2 e3 e4 e5 e6 e7
              obtain ⟨i, j, dr, rfl, rfl, hk, HP⟩ := hrel
              have HK := Lib.hid hk
              clear hk
              go_upto_block 6 with fail
              go_cut [12] (fun s12 wc => ∃ i' : Nat, s12 = .int .i64 i' ∧ Hid (PSt W0 B g n c lt a b d i' j dr wc ∧ (i' ≤ j → ¬ befI lt (dr.getD i' d0) (dr.getD a d0)) ∧ i ≤ i'))
              case first => part_up
              case rest =>
                clear HP
                obtain ⟨i, rfl, HP⟩ := hcut
                have HB1 := Lib.hid HP.out.2.2
                go_upto_block 8 with fail
                go_cut [13] (fun s13 wc => ∃ j' : Nat, s13 = .int .i64 j' ∧ Hid (PSt W0 B g n c lt a b d i j' dr wc ∧ (i ≤ j' → ¬ befI lt (dr.getD i d0) (dr.getD a d0)) ∧ (i ≤ j' → befI lt (dr.getD j' d0) (dr.getD a d0)) ∧ j' ≤ j))
                case first => part_down
                case rest =>
                  clear HP
                  obtain ⟨j, rfl, HD⟩ := hcut
                  have HB2 := Lib.hid HD.out.2.2.2
                  by_cases hij : i ≤ j
                  · part_swap
                    all_goals
                      clear HX g0 g1 g2 g3 f0 f1 f2 f3
                      go_wp2_with fail
                      go_roundg (j1 + 1 - i1)
                      case measure => have := HK.out; have := HB1.out; have := HB2.out; have := HIJ.out; omega
                      case rel => exact ⟨i1, j1, _, rfl, rfl, rfl, HF⟩
                  · have e6 : (i : Int) > (j : Int) := by omega
                    part_end false
        · have e6 : (i : Int) > (j : Int) := by omega
          part_end true
end Go.Proofs.Ytcppgefnocjdiaa
