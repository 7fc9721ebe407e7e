/- slices' partialInsertionSort by a method value. -/
import Derived.Test.YtcppgefnocjdiaaHeapsSg
import Derived.Deep.CutBlock
import Derived.Deep.LoopGhost
namespace Go.Proofs.Ytcppgefnocjdiaa
open Go.RowKit Go.Lib Go.Sort Go.Shelf
set_option linter.unusedVariables false

/-- All below a range come before those in it. -/
def LowR (lt : Int → Int → Bool) (a b : Nat) (d : List HItem) : Prop := ∀ p q, p < a → a ≤ q → q < b → befI lt (d.getD p d0) (d.getD q d0)
theorem LowR.perm {lt : Int → Int → Bool} {a b : Nat} {d d' : List HItem} (h : LowR lt a b d) (hp : PR a b d d') (hb : b ≤ d.length) : LowR lt a b d' := fun p q h1 h2 h3 => by
  rw [hp.out p (.inl h1)]
  exact hp.any hb (P := fun x => befI lt (d.getD p d0) x) (Nat.le_refl _) (Nat.le_refl _) (fun q h2 h3 => h p q h1 h2 h3) q h2 h3
theorem Srt.ext {lt : Int → Int → Bool} (hw : WeakB lt) {a i : Nat} {d : List HItem} (h : Srt lt a i d) (hi : a < i) (hb : befI lt (d.getD (i - 1) d0) (d.getD i d0)) : Srt lt a (i + 1) d := fun p q h1 h2 h3 => by
  by_cases e : q = i
  · subst e
    by_cases e2 : p = q - 1
    · rw [e2]; exact hb
    · exact (befI_weak hw).trans _ _ _ (h p (q - 1) h1 (by omega) (by omega)) hb
  · exact h p q h1 h2 (by omega)
theorem Srt.less {lt : Int → Int → Bool} {a b b' : Nat} {d : List HItem} (h : Srt lt a b d) (hb : b' ≤ b) : Srt lt a b' d := fun p q h1 h2 h3 => h p q h1 h2 (by omega)
/-- A world of it: in order up to i. -/
structure IS (W0 : World) (B g n c : Nat) (lt : Int → Int → Bool) (a b : Nat) (d : List HItem) (i : Nat) (dr : List HItem) (w : World) : Prop where
  pr : PR a b d dr
  sm : SM W0 B g n c dr w
  dh : DH dr
  srt : Srt lt a i dr
  b1 : a < i
  b2 : i ≤ b
theorem IS.grew {W0 : World} {B g n c : Nat} {lt : Int → Int → Bool} {a b : Nat} {d : List HItem} {i : Nat} {dr : List HItem} {w w' : World} (h : IS W0 B g n c lt a b d i dr w) (hg : Grew w w') : IS W0 B g n c lt a b d i dr w' :=
  ⟨h.pr, h.sm.grew hg, h.dh, h.srt, h.b1, h.b2⟩
/-- The shift to the left: the item at j is on its way. -/
structure ShI (W0 : World) (B g n c : Nat) (lt : Int → Int → Bool) (a b : Nat) (d : List HItem) (i j : Nat) (dr : List HItem) (w : World) : Prop where
  pr : PR a b d dr
  sm : SM W0 B g n c dr w
  dh : DH dr
  ini : InI lt a j i dr
  b1 : a ≤ j
  b2 : j < i
  b3 : i < b
theorem ShI.grew {W0 : World} {B g n c : Nat} {lt : Int → Int → Bool} {a b : Nat} {d : List HItem} {i j : Nat} {dr : List HItem} {w w' : World} (h : ShI W0 B g n c lt a b d i j dr w) (hg : Grew w w') : ShI W0 B g n c lt a b d i j dr w' :=
  ⟨h.pr, h.sm.grew hg, h.dh, h.ini, h.b1, h.b2, h.b3⟩
theorem IS.turn {W0 : World} {B g n c : Nat} {lt : Int → Int → Bool} {a b : Nat} {d : List HItem} {i : Nat} {dr : List HItem} {w w' : World} (h : IS W0 B g n c lt a b d i dr w) (hb : b ≤ n) (hi : i < b) (hl : befI lt (dr.getD i d0) (dr.getD (i - 1) d0)) (hs : SM W0 B g n c (swapL dr d0 i (i - 1)) w') : ShI W0 B g n c lt a b d i (i - 1) (swapL dr d0 i (i - 1)) w' := by
  have h1 := h.b1; have hn := h.sm.len
  exact ⟨h.pr.trans (PR.swap dr ⟨by omega, by omega⟩ ⟨by omega, by omega⟩ (by omega)), hs, h.dh.perm (swapL_perm _ _ (by omega) (by omega)), (InI.start h.srt).step h1 (Nat.le_refl _) (by omega) hl, by omega, by omega, hi⟩
theorem ShI.step {W0 : World} {B g n c : Nat} {lt : Int → Int → Bool} {a b : Nat} {d : List HItem} {i j : Nat} {dr : List HItem} {w w' : World} (h : ShI W0 B g n c lt a b d i j dr w) (hb : b ≤ n) (hj : a < j) (hl : befI lt (dr.getD j d0) (dr.getD (j - 1) d0)) (hs : SM W0 B g n c (swapL dr d0 j (j - 1)) w') : ShI W0 B g n c lt a b d i (j - 1) (swapL dr d0 j (j - 1)) w' := by
  have h1 := h.b1; have h2 := h.b2; have h3 := h.b3; have hn := h.sm.len
  exact ⟨h.pr.trans (PR.swap dr ⟨by omega, by omega⟩ ⟨by omega, by omega⟩ (by omega)), hs, h.dh.perm (swapL_perm _ _ (by omega) (by omega)), h.ini.step hj (by omega) (by omega) hl, by omega, by omega, h3⟩
theorem ShI.stop {W0 : World} {B g n c : Nat} {lt : Int → Int → Bool} (hw : WeakB lt) {a b : Nat} {d : List HItem} {i j : Nat} {dr : List HItem} {w w' : World} (h : ShI W0 B g n c lt a b d i j dr w) (hb : b ≤ n) (hs : SM W0 B g n c dr w') (hl : j = a ∨ ¬ befI lt (dr.getD j d0) (dr.getD (j - 1) d0)) : IS W0 B g n c lt a b d i dr w' := by
  have h1 := h.b1; have h2 := h.b2; have h3 := h.b3; have hn := h.sm.len
  exact ⟨h.pr, hs, h.dh, (h.ini.stop hw h.dh h1 (by omega) (by omega) hl).less (by omega), by omega, by omega⟩
theorem ShI.low {W0 : World} {B g n c : Nat} {lt : Int → Int → Bool} (hw : WeakB lt) {a b : Nat} {d : List HItem} {i j : Nat} {dr : List HItem} {w : World} (h : ShI W0 B g n c lt a b d i j dr w) (hb : b ≤ n) (hlow : LowR lt a b d) (hlen : d.length = n) (h0 : 1 ≤ j) (hl : befI lt (dr.getD j d0) (dr.getD (j - 1) d0)) : a < j := by
  have h1 := h.b1; have h2 := h.b2; have h3 := h.b3
  refine Nat.lt_of_le_of_ne h1 fun e => ?_
  have k := (hlow.perm h.pr (by omega)) (j - 1) j (by omega) (by omega) (by omega)
  exact (befI_weak hw).asymm k hl
theorem IS.side {W0 : World} {B g n c : Nat} {lt : Int → Int → Bool} {a b : Nat} {d : List HItem} {i j : Nat} {dr : List HItem} {w w' : World} (h : IS W0 B g n c lt a b d i dr w) (hb : b ≤ n) (hi : i < j) (hj : j < b) (hs : SM W0 B g n c (swapL dr d0 j (j - 1)) w') : IS W0 B g n c lt a b d i (swapL dr d0 j (j - 1)) w' := by
  have h1 := h.b1; have h2 := h.b2; have hn := h.sm.len
  refine ⟨h.pr.trans (PR.swap dr ⟨by omega, by omega⟩ ⟨by omega, by omega⟩ (by omega)), hs, h.dh.perm (swapL_perm _ _ (by omega) (by omega)), fun p q k1 k2 k3 => ?_, h1, h2⟩
  have e := swapL_getD (d := dr) (i := j) (j := j - 1) (by omega) (by omega)
  rw [e p, e q, if_neg (by omega), if_neg (by omega), if_neg (by omega), if_neg (by omega)]
  exact h.srt p q k1 k2 k3

/-- What it leaves. -/
def PiR (W0 : World) (B g n c : Nat) (lt : Int → Int → Bool) (a b : Nat) (d : List HItem) (e : Ending) (w' : World) : Prop := ∃ r : Bool, e = .returned (.bool r) ∧ Hid (∃ d', PR a b d d' ∧ (r = true → Srt lt a b d') ∧ SM W0 B g n c d' w')
set_option maxRecDepth 100000 in
set_option maxHeartbeats 16000000 in
theorem partial_any (B g n c qb : Nat) (F : Value) (lt : Int → Int → Bool) (d : List HItem) (a b : Nat) (W0 W : World) (h : SE W0 qb g F lt) (hm : SM W0 B g n c d W) (hd : DH d) (hab : a < b) (hb : b ≤ n) (hn : n ≤ 100000) (hlow : LowR lt a b d) :
    Calls Try.prog 81 #[.slice (some ⟨g, 0, none⟩) n c, .int .i64 a, .int .i64 b, cmpF qb] W (PiR W0 B g n c lt a b d) := by
  have mixed : Try.prog.follows .mixedOrders = true := by kernel_rfl
  have HE := Lib.hid h; have HLOW := Lib.hid hlow; have HLD := Lib.hid hm.len
  have ec := enters_cmp
  unfold cmpF
  obtain ⟨i, hi⟩ : ∃ i, a + 1 = i := ⟨_, rfl⟩
  have e4 : IntKind.i64.wrap ((a : Int) + 1) = (i : Int) := w64 (by omega) (by omega)
  have HP : Hid (IS W0 B g n c lt a b d i d W) := by
    rw [← hi]
    exact Lib.hid ⟨PR.refl _ _ _, hm, hd, fun p q h1 h2 h3 => by omega, by omega, by omega⟩
  clear h hm hd hlow hi
  go_enter Try.func81, Try.ntmps81
  go_wp2_with fail
  go_loopg [9, 10] 6 (fun k vi vj wr => ∃ (i jj : Nat) (dr : List HItem), vi = .int .i64 i ∧ vj = .int .i64 jj ∧ k + jj = 6 ∧ Hid (IS W0 B g n c lt a b d i dr wr))
  case atStart => exact ⟨i, 0, d, rfl, rfl, rfl, HP.out⟩
  case round =>
    clear HP e4
    obtain ⟨i, jj, dr, rfl, rfl, hk, HP⟩ := hrel
    by_cases hjj : jj < 5
    · have HK : Hid (gk + jj = 6 ∧ jj < 5) := Lib.hid ⟨hk, hjj⟩
      obtain ⟨jj1, hjj1⟩ : ∃ jj1, jj + 1 = jj1 := ⟨_, rfl⟩
      have f1 : (jj : Int) < 5 := by omega
      have f2 : IntKind.i64.wrap ((jj : Int) + 1) = (jj1 : Int) := w64 (by omega) (by omega)
      have HJJ := Lib.hid hjj1
      clear hk hjj hjj1
      go_upto_block 2 with fail
      go_cut [9] (fun s9 wc => ∃ i : Nat, s9 = .int .i64 i ∧ Hid (IS W0 B g n c lt a b d i dr wc ∧ (i < b → befI lt (dr.getD i d0) (dr.getD (i - 1) d0))))
      case first =>
        go_wp2_with fail
        go_loopg [9] (b - i) (fun k vi wr => ∃ i' : Nat, vi = .int .i64 i' ∧ k = b - i' ∧ Hid (IS W0 B g n c lt a b d i' dr wr))
        case atStart => exact ⟨i, rfl, rfl, HP.out⟩
        case round =>
          obtain ⟨i', rfl, hk, HR⟩ := hrel
          have HK2 := Lib.hid hk
          clear hk
          by_cases hib : i' < b
          · have b1 := HR.out.b1
            obtain ⟨i1, hi1⟩ : ∃ i1, i' + 1 = i1 := ⟨_, rfl⟩
            obtain ⟨ip, hip⟩ : ∃ ip, i' - 1 = ip := ⟨_, rfl⟩
            have e1 : (i' : Int) < (b : Int) := by omega
            have e2 : (i' : Int) < (n : Int) := by omega
            have e3 : (ip : Int) < (n : Int) := by omega
            have e4 : IntKind.i64.wrap ((i' : Int) + 1) = (i1 : Int) := w64 (by omega) (by omega)
            have e5 : IntKind.i64.wrap ((i' : Int) - 1) = (ip : Int) := w64 (by omega) (by omega)
            obtain ⟨xh, xv, yh, yv, t, HT, g0, g1, g2, g3, kc⟩ := HE.out.test HR.out.sm (i := i') (j := ip) (by omega) (by omega)
            have HI1 : Hid (i' + 1 = i1 ∧ i' - 1 = ip ∧ a < i') := Lib.hid ⟨hi1, hip, b1⟩
            clear hi1 hip b1
            by_cases ht : t < 0
            · have HS := Lib.hid (show befI lt (dr.getD i' d0) (dr.getD (i' - 1) d0) from by rw [HI1.out.2.1]; exact HT.out.1 ht)
              go_wp2_with fail
              go_quiet_grown (first | (go_at_fn 60; exact kc _ _))
              have HM3 := Lib.hid (HR.out.grew (Grew.of (w := wr) nq osq))
              clear g0 g1 g2 g3 kc
              generalize grow (wr.drewN nq) osq = wq at HM3 ⊢
              go_wp2_with fail
              go_meet
              exact ⟨i', rfl, Lib.hid ⟨HM3.out, fun _ => HS.out⟩⟩
            · have ht' : decide (t < 0) = false := decide_eq_false ht
              have HN := Lib.hid (show IS W0 B g n c lt a b d i1 dr wr from by
                have hl := HR.out.sm.len
                rw [← HI1.out.1]
                exact ⟨HR.out.pr, HR.out.sm, HR.out.dh, HR.out.srt.ext HE.out.wk HI1.out.2.2 (HR.out.dh.total HE.out.wk (by omega) (by omega) (by have := HI1.out; omega) (by rw [HI1.out.2.1]; exact fun hb => ht (HT.out.2 hb))), by have := HI1.out; omega, by omega⟩)
              go_wp2_with fail
              go_quiet_grown (first | (go_at_fn 60; exact kc _ _))
              have HM3 := Lib.hid (HN.out.grew (Grew.of (w := wr) nq osq))
              clear g0 g1 g2 g3 kc
              generalize grow (wr.drewN nq) osq = wq at HM3 ⊢
              go_wp2_with fail
              go_roundg (b - i1)
              case measure => rw [HK2.out]; have := HI1.out; omega
              case rel => exact ⟨i1, rfl, rfl, HM3.out⟩
          · have e1 : decide ((i' : Int) < (b : Int)) = false := decide_eq_false (by omega)
            have e1' : ¬ (i' : Int) < (b : Int) := by omega
            have HM3 := Lib.hid (HR.out.grew ((Grew.refl wr).drew))
            go_wp2_with fail
            go_big_region_o
            all_goals
              generalize wr.drew = wq at HM3 ⊢
              go_wp2_with fail
              go_meet
              exact ⟨i', rfl, Lib.hid ⟨HM3.out, fun h => absurd h hib⟩⟩
      case rest =>
        clear HP
        obtain ⟨i, rfl, HP⟩ := hcut
        by_cases hib : i = b
        · subst hib
          go_wp2_with fail
          go_ret
          exact ⟨true, rfl, Lib.hid ⟨dr, HP.out.1.pr, fun _ => HP.out.1.srt, HP.out.1.sm⟩⟩
        · have hib' : ((i : Int) == (b : Int)) = false := by simp; omega
          have hib2 : i < b := by have := HP.out.1.b2; omega
          have b1 := HP.out.1.b1
          obtain ⟨l, hl⟩ : ∃ l, b - a = l := ⟨_, rfl⟩
          have e1 : IntKind.i64.wrap ((b : Int) - (a : Int)) = (l : Int) := w64 (by omega) (by omega)
          by_cases h50 : l < 50
          · have e2 : decide ((l : Int) < 50) = true := decide_eq_true (by omega)
            have e2' : (l : Int) < 50 := by omega
            have HS := Lib.hid (show ∃ d', PR a b d d' ∧ (false = true → Srt lt a b d') ∧ SM W0 B g n c d' wc from ⟨dr, HP.out.1.pr, fun h => by simp at h, HP.out.1.sm⟩)
            clear hl b1 hib2
            go_wp2_with fail
            go_ret
            exact ⟨false, rfl, HS⟩
          · have e2 : decide ((l : Int) < 50) = false := decide_eq_false (by omega)
            have e2' : ¬ (l : Int) < 50 := by omega
            obtain ⟨ip, hip⟩ : ∃ ip, i - 1 = ip := ⟨_, rfl⟩
            obtain ⟨i1, hi1⟩ : ∃ i1, i + 1 = i1 := ⟨_, rfl⟩
            obtain ⟨m, hm⟩ : ∃ m, i - a = m := ⟨_, rfl⟩
            obtain ⟨m2, hm2⟩ : ∃ m2, b - i = m2 := ⟨_, rfl⟩
            have e3 : (i : Int) < (n : Int) := by omega
            have e4 : (ip : Int) < (n : Int) := by omega
            have e5 : IntKind.i64.wrap ((i : Int) - 1) = (ip : Int) := w64 (by omega) (by omega)
            have e6 : IntKind.i64.wrap ((i : Int) - (a : Int)) = (m : Int) := w64 (by omega) (by omega)
            have e7 : IntKind.i64.wrap ((b : Int) - (i : Int)) = (m2 : Int) := w64 (by omega) (by omega)
            have e8 : IntKind.i64.wrap ((i : Int) + 1) = (i1 : Int) := w64 (by omega) (by omega)
            have hne : ¬ i = ip := by omega
            obtain ⟨ah, av, bh, bv, g0, g1, g2, g3, f0, f1, f2, f3, HX⟩ := HP.out.1.sm.exch (i := i) (j := ip) (by omega) (by omega)
            have HQ : Hid (ShI W0 B g n c lt a b d i ip (swapL dr d0 i ip) _) := Lib.hid (by
              have := HP.out.1.turn hb hib2 (HP.out.2 hib2) (by rw [hip]; exact HX.out)
              rw [hip] at this; exact this)
            have HI : Hid (i - 1 = ip ∧ i + 1 = i1 ∧ i - a = m ∧ b - i = m2 ∧ i < b ∧ a < i) := Lib.hid ⟨hip, hi1, hm, hm2, hib2, b1⟩
            clear hl b1 hib2 hip hi1 hm hm2
            go_wp2_with fail
            go_big_region_o
            all_goals
              clear HX g0 g1 g2 g3 f0 f1 f2 f3
              generalize swapL dr d0 i ip = dr at HQ
              go_upto_if 65 with fail
              go_cut [11] (fun s11 wc => Hid (∃ dr, IS W0 B g n c lt a b d i dr wc))
              case first =>
                by_cases hm : 2 ≤ m
                · have j1 : decide ((m : Int) ≥ 2) = true := decide_eq_true (by omega)
                  have j1' : (m : Int) ≥ 2 := by omega
                  have j0 : decide ((2 : Int) ≤ (m : Int)) = true := decide_eq_true (by omega)
                  rw [j0]
                  clear j0
                  go_wp2_with fail
                  go_loopg [11] (ip + 1) (fun k vj wr => ∃ (j : Nat) (dr : List HItem), vj = .int .i64 j ∧ k = j + 1 ∧ Hid (ShI W0 B g n c lt a b d i j dr wr))
                  case atStart => exact ⟨ip, dr, rfl, rfl, HQ.out⟩
                  case round =>
                    clear HQ
                    obtain ⟨j, dr, rfl, hk, HQ⟩ := hrel
                    have HK3 := Lib.hid hk
                    clear hk
                    by_cases h1 : 1 ≤ j
                    · have b2 := HQ.out.b2; have b3 := HQ.out.b3
                      obtain ⟨jp, hjp⟩ : ∃ jp, j - 1 = jp := ⟨_, rfl⟩
                      have c1 : (j : Int) ≥ 1 := by omega
                      have c2 : (j : Int) < (n : Int) := by omega
                      have c3 : (jp : Int) < (n : Int) := by omega
                      have c4 : IntKind.i64.wrap ((j : Int) - 1) = (jp : Int) := w64 (by omega) (by omega)
                      have hne2 : ¬ j = jp := by omega
                      obtain ⟨xh, xv, yh, yv, t, HT, g0, g1, g2, g3, kc⟩ := HE.out.test HQ.out.sm (i := j) (j := jp) (by omega) (by omega)
                      have HJ : Hid (j - 1 = jp ∧ 1 ≤ j ∧ j < n ∧ jp < n) := Lib.hid ⟨hjp, h1, by omega, by omega⟩
                      clear b2 b3 hjp
                      by_cases ht : t < 0
                      · have HS := Lib.hid (show befI lt (dr.getD j d0) (dr.getD (j - 1) d0) from by rw [HJ.out.1]; exact HT.out.1 ht)
                        go_wp2_with fail
                        go_quiet_grown (first | (go_at_fn 60; exact kc _ _))
                        have HM3 := Lib.hid (HQ.out.grew (Grew.of (w := wr) nq osq))
                        clear g0 g1 g2 g3 kc
                        generalize grow (wr.drewN nq) osq = wq at HM3 ⊢
                        obtain ⟨ah, av, bh, bv, g0, g1, g2, g3, f0, f1, f2, f3, HX⟩ := HM3.out.sm.exch (i := j) (j := jp) HJ.out.2.2.1 HJ.out.2.2.2
                        have HN : Hid (ShI W0 B g n c lt a b d i jp (swapL dr d0 j jp) _) := Lib.hid (by
                          have := HM3.out.step hb (HM3.out.low HE.out.wk hb HLOW.out HLD.out HJ.out.2.1 HS.out) HS.out (by rw [HJ.out.1]; exact HX.out)
                          rw [HJ.out.1] at this; exact this)
                        go_wp2_with fail
                        go_big_region_o
                        all_goals
                          clear HX g0 g1 g2 g3 f0 f1 f2 f3
                          go_wp2_with fail
                          go_roundg (jp + 1)
                          case measure => rw [HK3.out]; have := HJ.out; omega
                          case rel => exact ⟨jp, _, rfl, rfl, HN.out⟩
                      · have ht' : decide (t < 0) = false := decide_eq_false ht
                        have HS := Lib.hid (show ¬ befI lt (dr.getD j d0) (dr.getD (j - 1) d0) from by rw [HJ.out.1]; exact fun hb => ht (HT.out.2 hb))
                        go_wp2_with fail
                        go_quiet_grown (first | (go_at_fn 60; exact kc _ _))
                        have HM3 := Lib.hid (HQ.out.grew (Grew.of (w := wr) nq osq))
                        clear g0 g1 g2 g3 kc
                        generalize grow (wr.drewN nq) osq = wq at HM3 ⊢
                        go_wp2_with fail
                        go_meet
                        exact Lib.hid ⟨dr, HM3.out.stop HE.out.wk hb HM3.out.sm (.inr HS.out)⟩
                    · have c1 : decide ((j : Int) ≥ 1) = false := decide_eq_false (by omega)
                      have c1' : ¬ (j : Int) ≥ 1 := by omega
                      have HM3 := Lib.hid (HQ.out.stop HE.out.wk hb HQ.out.sm (.inl (by have := HQ.out.b1; omega)))
                      go_wp2_with fail
                      go_meet
                      exact Lib.hid ⟨dr, HM3.out⟩
                · have j1 : decide ((m : Int) ≥ 2) = false := decide_eq_false (by omega)
                  have j1' : ¬ (m : Int) ≥ 2 := by omega
                  have HM3 := Lib.hid (HQ.out.stop HE.out.wk hb HQ.out.sm (.inl (by have := HI.out; omega)))
                  go_wp2_with fail
                  go_meet
                  exact Lib.hid ⟨dr, HM3.out⟩
              case rest =>
                clear HQ
                have HC := Lib.hid hcut.out
                clear hcut
                · obtain ⟨dr, hdr⟩ := HC.out
                  have HQ := Lib.hid hdr
                  clear hdr
                  by_cases hm : 2 ≤ m2
                  · have j1 : decide ((m2 : Int) ≥ 2) = true := decide_eq_true (by omega)
                    have j1' : (m2 : Int) ≥ 2 := by omega
                    go_wp2_with fail
                    go_loopg [12] (b - i1) (fun k vj wr => ∃ (j : Nat) (dr : List HItem), vj = .int .i64 j ∧ k = b - j ∧ Hid (i < j ∧ IS W0 B g n c lt a b d i dr wr))
                    case atStart => exact ⟨i1, dr, rfl, rfl, Lib.hid ⟨by have := HI.out; omega, HQ.out⟩⟩
                    case round =>
                      clear HQ
                      obtain ⟨j, dr, rfl, hk, HQ⟩ := hrel
                      have HK3 := Lib.hid hk
                      clear hk
                      by_cases h1 : j < b
                      · have b2 := HQ.out.1
                        obtain ⟨jp, hjp⟩ : ∃ jp, j - 1 = jp := ⟨_, rfl⟩
                        obtain ⟨jn, hjn⟩ : ∃ jn, j + 1 = jn := ⟨_, rfl⟩
                        have c1 : (j : Int) < (b : Int) := by omega
                        have c2 : (j : Int) < (n : Int) := by omega
                        have c3 : (jp : Int) < (n : Int) := by omega
                        have c4 : IntKind.i64.wrap ((j : Int) - 1) = (jp : Int) := w64 (by omega) (by omega)
                        have c5 : IntKind.i64.wrap ((j : Int) + 1) = (jn : Int) := w64 (by omega) (by omega)
                        have hne2 : ¬ j = jp := by omega
                        obtain ⟨xh, xv, yh, yv, t, HT, g0, g1, g2, g3, kc⟩ := HE.out.test HQ.out.2.sm (i := j) (j := jp) (by omega) (by omega)
                        have HJ : Hid (j - 1 = jp ∧ j + 1 = jn ∧ j < n ∧ jp < n) := Lib.hid ⟨hjp, hjn, by omega, by omega⟩
                        clear b2 hjp hjn
                        by_cases ht : t < 0
                        · go_wp2_with fail
                          go_quiet_grown (first | (go_at_fn 60; exact kc _ _))
                          have HM3 := Lib.hid (HQ.out.2.grew (Grew.of (w := wr) nq osq))
                          clear g0 g1 g2 g3 kc
                          generalize grow (wr.drewN nq) osq = wq at HM3 ⊢
                          obtain ⟨ah, av, bh, bv, g0, g1, g2, g3, f0, f1, f2, f3, HX⟩ := HM3.out.sm.exch (i := j) (j := jp) HJ.out.2.2.1 HJ.out.2.2.2
                          have HN : Hid (IS W0 B g n c lt a b d i (swapL dr d0 j jp) _) := Lib.hid (by
                            have := HM3.out.side hb HQ.out.1 h1 (by rw [HJ.out.1]; exact HX.out)
                            rw [HJ.out.1] at this; exact this)
                          go_wp2_with fail
                          go_big_region_o
                          all_goals
                            clear HX g0 g1 g2 g3 f0 f1 f2 f3
                            go_wp2_with fail
                            go_roundg (b - jn)
                            case measure => rw [HK3.out]; have := HJ.out; omega
                            case rel => exact ⟨jn, _, rfl, rfl, Lib.hid ⟨by have := HJ.out; have := HQ.out.1; omega, HN.out⟩⟩
                        · have ht' : decide (t < 0) = false := decide_eq_false ht
                          go_wp2_with fail
                          go_quiet_grown (first | (go_at_fn 60; exact kc _ _))
                          have HM3 := Lib.hid (HQ.out.2.grew (Grew.of (w := wr) nq osq))
                          clear g0 g1 g2 g3 kc
                          generalize grow (wr.drewN nq) osq = wq at HM3 ⊢
                          go_wp2_with fail
                          go_roundg (6 - jj1)
                          case measure => have := HK.out; have := HJJ.out; omega
                          case rel => exact ⟨i, jj1, dr, rfl, rfl, by have := HK.out; have := HJJ.out; omega, HM3.out⟩
                      · have c1 : decide ((j : Int) < (b : Int)) = false := decide_eq_false (by omega)
                        have c1' : ¬ (j : Int) < (b : Int) := by omega
                        go_wp2_with fail
                        go_roundg (6 - jj1)
                        case measure => have := HK.out; have := HJJ.out; omega
                        case rel => exact ⟨i, jj1, dr, rfl, rfl, by have := HK.out; have := HJJ.out; omega, HQ.out.2⟩
                  · have j1 : decide ((m2 : Int) ≥ 2) = false := decide_eq_false (by omega)
                    have j1' : ¬ (m2 : Int) ≥ 2 := by omega
                    go_wp2_with fail
                    go_roundg (6 - jj1)
                    case measure => have := HK.out; have := HJJ.out; omega
                    case rel => exact ⟨i, jj1, dr, rfl, rfl, by have := HK.out; have := HJJ.out; omega, HQ.out⟩
    · have f1 : decide ((jj : Int) < 5) = false := decide_eq_false (by omega)
      have f1' : ¬ (jj : Int) < 5 := by omega
      have HS := Lib.hid (show ∃ d', PR a b d d' ∧ (false = true → Srt lt a b d') ∧ SM W0 B g n c d' wr from ⟨dr, HP.out.pr, fun h => by simp at h, HP.out.sm⟩)
      go_wp2_with fail
      go_ret
      exact ⟨false, rfl, HS⟩
end Go.Proofs.Ytcppgefnocjdiaa
