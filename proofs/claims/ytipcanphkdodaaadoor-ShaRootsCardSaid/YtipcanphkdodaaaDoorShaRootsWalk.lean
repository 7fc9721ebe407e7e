/- The law ShaRoots: the walk. -/
import Derived.Test.YtipcanphkdodaaaDoorShaRa
import Derived.Test.YtipcanphkdodaaaDoorShaZe
import Derived.Test.YtipcanphkdodaaaDoorShaO
import Derived.Test.YtipcanphkdodaaaDoorShaX
namespace Go.Proofs.YtipcanphkdodaaaDoor
open Go.RowKit
set_option linter.unusedVariables false

def prP (a : Nat) : Nat := (prA 310).getD a 0
def whC (a : Nat) : Nat := rtN (wantN (prP a) true) true 41 / 4294967296
def mC (a : Nat) : Nat := whC a * 4294967296 + kL.getD a 0
def whS (a : Nat) : Nat := rtN (wantN (prP a) false) false 41 / 4294967296
def mS (a : Nat) : Nat := whS a * 4294967296 + hL.getD a 0
structure TC (a : Nat) : Prop where
  p : prP a < 1000
  h : whC a ≤ 6
  c : ∀ h, h < 7 → (decide ((h + 1) * (h + 1) * (h + 1) ≤ prP a) = decide (h < whC a))
  m : mC a + 1 < 2199023255552
  lo : mC a * mC a * mC a / 18446744073709551616 < prP a * 4294967296
  hi : prP a * 4294967296 ≤ (mC a + 1) * (mC a + 1) * (mC a + 1) / 18446744073709551616
  ne : (mC a + 1) * (mC a + 1) * (mC a + 1) / 18446744073709551616 = prP a * 4294967296 → (mC a + 1) * (mC a + 1) * (mC a + 1) % 18446744073709551616 ≠ 0
structure TS (a : Nat) : Prop where
  p : prP a < 1000
  h : whS a ≤ 6
  c : ∀ h, h < 7 → (decide ((h + 1) * (h + 1) ≤ prP a) = decide (h < whS a))
  m : mS a + 1 < 2199023255552
  lo : mS a * mS a / 18446744073709551616 < prP a
  hi : prP a ≤ (mS a + 1) * (mS a + 1) / 18446744073709551616
  ne : (mS a + 1) * (mS a + 1) / 18446744073709551616 = prP a → (mS a + 1) * (mS a + 1) % 18446744073709551616 ≠ 0
set_option maxRecDepth 100000 in
theorem tabC : ∀ a, a < 64 → (prP a < 1000 ∧ whC a ≤ 6 ∧ (∀ h, h < 7 → (decide ((h + 1) * (h + 1) * (h + 1) ≤ prP a) = decide (h < whC a))) ∧ mC a + 1 < 2199023255552 ∧ mC a * mC a * mC a / 18446744073709551616 < prP a * 4294967296 ∧
    prP a * 4294967296 ≤ (mC a + 1) * (mC a + 1) * (mC a + 1) / 18446744073709551616 ∧ ((mC a + 1) * (mC a + 1) * (mC a + 1) / 18446744073709551616 = prP a * 4294967296 → (mC a + 1) * (mC a + 1) * (mC a + 1) % 18446744073709551616 ≠ 0)) := by decide +kernel
set_option maxRecDepth 100000 in
theorem tabS : ∀ a, a < 8 → (prP a < 1000 ∧ whS a ≤ 6 ∧ (∀ h, h < 7 → (decide ((h + 1) * (h + 1) ≤ prP a) = decide (h < whS a))) ∧ mS a + 1 < 2199023255552 ∧ mS a * mS a / 18446744073709551616 < prP a ∧
    prP a ≤ (mS a + 1) * (mS a + 1) / 18446744073709551616 ∧ ((mS a + 1) * (mS a + 1) / 18446744073709551616 = prP a → (mS a + 1) * (mS a + 1) % 18446744073709551616 ≠ 0)) := by decide +kernel
theorem tc {a : Nat} (h : a < 64) : TC a := by obtain ⟨h1, h2, h3, h4, h5, h6, h7⟩ := tabC a h; exact ⟨h1, h2, h3, h4, h5, h6, h7⟩
theorem ts {a : Nat} (h : a < 8) : TS a := by obtain ⟨h1, h2, h3, h4, h5, h6, h7⟩ := tabS a h; exact ⟨h1, h2, h3, h4, h5, h6, h7⟩
/-- What lies in memory all the time: the primes. -/
structure RtY (w : World) (v : Value) (W : World) : Prop where
  qn : QN W w.heap.size v (prA 310)
  bel : Below w.heap.size w W
theorem RtY.step {w W W' : World} {v : Value} (h : RtY w v W) (hb : Below W.heap.size W W') : RtY w v W' := ⟨h.qn.step hb, bl_call h.bel hb⟩
structure RtZ (w : World) (v : Value) (d ah al bh bl : Nat) (W : World) : Prop where
  y : RtY w v W
  lo : w.heap.size ≤ d
  a8 : AR W d 65 #[.int .u64 (ah : Int), .int .u64 (al : Int)]
  a9 : AR W (d + 1) 65 #[.int .u64 (bh : Int), .int .u64 (bl : Int)]
theorem RtZ.step {w W W' : World} {v : Value} {d ah al bh bl : Nat} (h : RtZ w v d ah al bh bl W) (hb : Below W.heap.size W W') : RtZ w v d ah al bh bl W' := ⟨h.y.step hb, h.lo, h.a8.step hb, h.a9.step hb⟩
theorem RtZ.start {w W : World} {v : Value} (h : RtY w v W) (ah al bh bl : Nat) : RtZ w v W.heap.size ah al bh bl ((W.alloc (.cells #[.int .u64 (ah : Int), .int .u64 (al : Int)] 65)).alloc (.cells #[.int .u64 (bh : Int), .int .u64 (bl : Int)] 65)) := by
  refine ⟨h.step (bl_alloc _ (bl_self _ _)), h.bel.size, (AR.made _ _ _).more _, ?_⟩
  have := AR.made (W.alloc (.cells #[.int .u64 (ah : Int), .int .u64 (al : Int)] 65)) 65 #[.int .u64 (bh : Int), .int .u64 (bl : Int)]
  rw [size_more] at this
  exact this
theorem lcube_at (m h l : Nat) (w : World) (hm : m < 2199023255552) (hh : m * m * m / 18446744073709551616 = h) (hl : m * m * m % 18446744073709551616 = l) :
    Calls Tryd.prog 34 #[.int .u64 m] w (Gives w (.agg #[.int .u64 (h : Int), .int .u64 (l : Int)])) := by
  subst hh hl; exact lcube_any m w hm
set_option maxRecDepth 20000 in
set_option maxHeartbeats 4000000 in
theorem roots_any (n : Nat) (w : World) (hn : n < 256) (hV : VK w) : Calls Tryd.prog 9 #[.int .u8 n] w (Gives w (.bool true)) := by
  have HV := Lib.hid hV; clear hV
  obtain ⟨a, ha⟩ : ∃ a, n % 64 = a := ⟨_, rfl⟩
  obtain ⟨b, hb⟩ : ∃ b, n % 8 = b := ⟨_, rfl⟩
  have ha64 : a < 64 := by omega
  have hb8 : b < 8 := by omega
  have ea : (n : Int) % 64 = (a : Int) := by omega
  have eb : (n : Int) % 8 = (b : Int) := by omega
  have HTC := Lib.hid (tc ha64); have HTS := Lib.hid (ts hb8)
  clear ha hb
  obtain ⟨p, hp⟩ : ∃ p, prP a = p := ⟨_, rfl⟩
  obtain ⟨H, hH⟩ : ∃ H, whC a = H := ⟨_, rfl⟩
  have hp3 : p < 1000 := by rw [← hp]; exact HTC.out.p
  have hH6 : H ≤ 6 := by rw [← hH]; exact HTC.out.h
  have HP := Lib.hid hp; have HH := Lib.hid hH
  clear hp hH
  go_enter Tryd.func9, Tryd.ntmps9
  go_upto_region 2 with (go_at_call 33; refine (primes_any 64 310 _ (by omega) (by omega) pr64_len pr64_less).mono ?_; rintro e w1 ⟨v, rfl, hq, hb⟩; have HY : Hid (RtY w v w1) := Lib.hid ⟨hq, hb⟩; clear hq hb)
  obtain ⟨g, c, hv, _, hg, hc⟩ := HY.out.qn
  rw [pr64_len] at hc hv
  have cp := hc a ha64
  rw [show (prA 310).getD a 0 = p from HP.out] at cp
  subst hv
  clear hc
  go_wp2_with fail
  go_loopw [5] (fun x wr => ∃ h : Nat, x = .int .u64 h ∧ h ≤ H ∧ Hid (RtY w (.slice (some ⟨g, 0, none⟩) 64 c) wr)) (fun x _ => 100 - (intOf x).toNat)
  case atStart => exact ⟨0, rfl, by omega, HY⟩
  case round =>
    clear HY cp hg
    obtain ⟨h, rfl, hh, HY⟩ := hrel
    obtain ⟨h1, e1⟩ : ∃ h1, h + 1 = h1 := ⟨_, rfl⟩
    obtain ⟨h2, e2⟩ : ∃ h2, h1 * h1 = h2 := ⟨_, rfl⟩
    obtain ⟨h3, e3⟩ : ∃ h3, h2 * h1 = h3 := ⟨_, rfl⟩
    have hcond := HTC.out.c h (by omega)
    rw [e1, e2, e3, HP.out, HH.out] at hcond
    have b1 : h1 ≤ 7 := by omega
    have b2 : h2 ≤ 49 := by rw [← e2]; exact Nat.mul_le_mul b1 b1
    have b3 : h3 ≤ 343 := by rw [← e3]; exact Nat.mul_le_mul b2 b1
    have f1 : IntKind.u64.wrap (((h : Int) + 1) * ((h : Int) + 1)) = (h2 : Int) := by rw [← e2, ← e1, ← w64 (n := (h + 1) * (h + 1)) (by rw [e1, e2]; omega), Int.natCast_mul]; rfl
    have f2 : IntKind.u64.wrap ((h2 : Int) * ((h : Int) + 1)) = (h3 : Int) := by rw [← e3, ← e1, ← w64 (n := h2 * (h + 1)) (by rw [e1, e3]; omega), Int.natCast_mul]; rfl
    clear e1 e2 e3 b1 b2 b3
    by_cases hlt : h < H
    · have hle : (h3 : Int) ≤ p := by
        rw [decide_eq_true hlt] at hcond
        have := of_decide_eq_true hcond
        omega
      clear hcond
      go_wp2_with fail
      go_roundw
      case rel => exact ⟨h + 1, by go_num, by omega, HY⟩
      case measure => simp [intOf]; omega
    · have hle : ¬ (h3 : Int) ≤ p := by
        rw [decide_eq_false hlt] at hcond
        have := of_decide_eq_false hcond
        omega
      obtain rfl : h = H := by omega
      obtain ⟨kx, hkx⟩ : ∃ kx, kL.getD a 0 = kx := ⟨_, rfl⟩
      have hk4 : kx < 4294967296 := by rw [← hkx]; exact kL_ww.get _
      obtain ⟨m, hm⟩ : ∃ m, mC a = m := ⟨_, rfl⟩
      have hmm : m = h * 4294967296 + kx := by rw [← hm, ← hkx, ← HH.out]; rfl
      have HT := HTC.out
      have t1 := HT.m; have t2 := HT.lo; have t3 := HT.hi; have t4 := HT.ne
      rw [hm] at t1 t2 t3 t4
      rw [show prP a = p from HP.out] at t2 t3 t4
      obtain ⟨ah, hah⟩ : ∃ x, m * m * m / 18446744073709551616 = x := ⟨_, rfl⟩
      obtain ⟨al, hal⟩ : ∃ x, m * m * m % 18446744073709551616 = x := ⟨_, rfl⟩
      obtain ⟨bh, hbh⟩ : ∃ x, (m + 1) * (m + 1) * (m + 1) / 18446744073709551616 = x := ⟨_, rfl⟩
      obtain ⟨bl, hbl⟩ : ∃ x, (m + 1) * (m + 1) * (m + 1) % 18446744073709551616 = x := ⟨_, rfl⟩
      rw [hah] at t2
      rw [hbh] at t3 t4
      rw [hbl] at t4
      have HAH := Lib.hid hah; have HAL := Lib.hid hal; have HBH := Lib.hid hbh; have HBL := Lib.hid hbl
      have em1 : (m : Int) + 1 = ((m + 1 : Nat) : Int) := by omega
      obtain ⟨m1, hm1⟩ : ∃ m1, m + 1 = m1 := ⟨_, rfl⟩
      rw [hm1] at em1 t1 HBH HBL
      have HM : Hid (h * 4294967296 + kx = m) := Lib.hid hmm.symm
      have T4 := Lib.hid t4
      have hmlt : m < 2199023255552 := by omega
      have em0 : (h : Int) * 4294967296 + kx = (m : Int) := by omega
      have tk1 : True := trivial; have tk2 : True := trivial
      clear hcond hm hmm hah hal hbh hbl hm1 t4 HT
      go_upto_region 9 with (first
        | (go_at_call 14; refine (constants_any _ (HV.out.below HY.out.bel)).mono ?_; rintro e w2 ⟨rfl, hb⟩; have HY2 := Lib.hid (HY.out.step hb); have ck := (AR.made w2 26 (uV kL)).at (i := a) (v := .int .u32 kx) (uV_get (by rw [← hkx, List.getD_eq_getElem?_getD, List.getElem?_eq_getElem (show a < kL.length by rw [kL_len]; exact ha64)]; rfl)); have HY3 := Lib.hid (HY2.out.step (bl_self w2 (.cells (uV kL) 26))); clear hb)
        | ((with_reducible refine atOp ⟨none, .store 26 _ _, _, _, _, _⟩ ?_); refine wpList_store_row rfl 26 (.tmp 6) (.tmp 29) rfl w2.heap.size (uV kL) rfl rfl 26 (uV (List.replicate 64 0)) (AR.made w2 _ _) (info64c kL rfl) rfl (uV_one _) ?_; rw [World.setRow_alloc_new])
        | (go_at_call 34; have _t := tk1; (with_reducible refine (lcube_at m ah al _ hmlt HAH.out HAL.out).mono ?_); rintro e w3 ⟨rfl, hb⟩; have HY4 := Lib.hid (HY3.out.step hb); clear hb tk1 _t)
        | (go_at_call 34; have _t := tk2; (with_reducible refine (lcube_at m1 bh bl _ t1 HBH.out HBL.out).mono ?_); rintro e w4 ⟨rfl, hb⟩; have HY5 := Lib.hid (HY4.out.step hb); clear hb tk2 _t))
      obtain ⟨d, hd⟩ : ∃ d, w4.heap.size = d := ⟨_, rfl⟩
      have HZ : Hid (RtZ w (.slice (some ⟨g, 0, none⟩) 64 c) d ah al bh bl ((w4.alloc (.cells #[.int .u64 (ah : Int), .int .u64 (al : Int)] 65)).alloc (.cells #[.int .u64 (bh : Int), .int .u64 (bl : Int)] 65))) := Lib.hid (by rw [← hd]; exact RtZ.start HY5.out _ _ _ _)
      rw [hd]
      have g1 : decide ((p : Int) * 4294967296 < (ah : Int)) = false := decide_eq_false (by omega)
      have g2 : ((ah : Int) == (p : Int) * 4294967296) = false := beq_eq_false_iff_ne.2 (by omega)
      have g3 : decide ((bh : Int) < (p : Int) * 4294967296) = false := decide_eq_false (by omega)
      go_cut [78] (fun s78 wc => s78 = .bool false ∧ Hid (RtZ w (.slice (some ⟨g, 0, none⟩) 64 c) d ah al bh bl wc))
      case first =>
        by_cases hq : bh = p * 4294967296
        · have g4 : ((bh : Int) == (p : Int) * 4294967296) = true := beq_iff_eq.2 (by omega)
          have g5 : ((bl : Int) == 0) = false := beq_eq_false_iff_ne.2 (by have := T4.out hq; omega)
          clear hq
          go_wp2_with fail
          go_meet
          exact ⟨rfl, HZ⟩
        · have g4 : ((bh : Int) == (p : Int) * 4294967296) = false := beq_eq_false_iff_ne.2 (by omega)
          clear hq
          go_wp2_with fail
          go_meet
          exact ⟨rfl, HZ⟩
      case rest =>
        obtain ⟨rfl, HZ⟩ := hcut
        clear HY5 HY4 HY3 HY2 HY ck hle T4 HM g1 g2 g3 t1 t2 t3 em1 em0 hmlt hkx hk4 hp3 HP HAH HAL HBH HBL hd f1 f2 HH hlt hh hH6 HTC ea
        obtain ⟨p2, hp2⟩ : ∃ p, prP b = p := ⟨_, rfl⟩
        obtain ⟨H2, hH2⟩ : ∃ H, whS b = H := ⟨_, rfl⟩
        have hp23 : p2 < 1000 := by rw [← hp2]; exact HTS.out.p
        have hH26 : H2 ≤ 6 := by rw [← hH2]; exact HTS.out.h
        have HP2 := Lib.hid hp2; have HH2 := Lib.hid hH2
        clear hp2 hH2
        obtain ⟨g', c', hv', _, hg', hc'⟩ := HZ.out.y.qn
        rw [pr64_len] at hc' hv'
        simp only [Value.slice.injEq, Option.some.injEq, Addr.mk.injEq, and_true, true_and] at hv'
        obtain ⟨rfl, rfl⟩ := hv'
        have cp2 := hc' b (by omega)
        rw [show (prA 310).getD b 0 = p2 from HP2.out] at cp2
        clear hc' hg'
        go_wp2_with fail
        go_loopw [5] (fun x wr => ∃ h : Nat, x = .int .u64 h ∧ h ≤ H2 ∧ Hid (RtZ w (.slice (some ⟨g, 0, none⟩) 64 c) d ah al bh bl wr)) (fun x _ => 100 - (intOf x).toNat)
        case atStart => exact ⟨0, rfl, by omega, HZ⟩
        case round =>
          clear HZ cp2
          obtain ⟨h, rfl, hh, HZ⟩ := hrel
          obtain ⟨h1, e1⟩ : ∃ h1, h + 1 = h1 := ⟨_, rfl⟩
          obtain ⟨h2, e2⟩ : ∃ h2, h1 * h1 = h2 := ⟨_, rfl⟩
          have hcond := HTS.out.c h (by omega)
          rw [e1, e2, HP2.out, HH2.out] at hcond
          have b1 : h1 ≤ 7 := by omega
          have b2 : h2 ≤ 49 := by rw [← e2]; exact Nat.mul_le_mul b1 b1
          have f1 : IntKind.u64.wrap (((h : Int) + 1) * ((h : Int) + 1)) = (h2 : Int) := by rw [← e2, ← e1, ← w64 (n := (h + 1) * (h + 1)) (by rw [e1, e2]; omega), Int.natCast_mul]; rfl
          clear e1 e2 b1 b2
          by_cases hlt : h < H2
          · have hle : (h2 : Int) ≤ p2 := by
              rw [decide_eq_true hlt] at hcond
              have := of_decide_eq_true hcond
              omega
            clear hcond
            go_wp2_with fail
            go_roundw
            case rel => exact ⟨h + 1, by go_num, by omega, HZ⟩
            case measure => simp [intOf]; omega
          · have hle : ¬ (h2 : Int) ≤ p2 := by
              rw [decide_eq_false hlt] at hcond
              have := of_decide_eq_false hcond
              omega
            obtain rfl : h = H2 := by omega
            obtain ⟨kx, hkx⟩ : ∃ kx, hL.getD b 0 = kx := ⟨_, rfl⟩
            have hk4 : kx < 4294967296 := by rw [← hkx]; exact hL_ww.get _
            obtain ⟨m, hm⟩ : ∃ m, mS b = m := ⟨_, rfl⟩
            have hmm : m = h * 4294967296 + kx := by rw [← hm, ← hkx, ← HH2.out]; rfl
            have HT := HTS.out
            have t1 := HT.m; have t2 := HT.lo; have t3 := HT.hi; have t4 := HT.ne
            rw [hm] at t1 t2 t3 t4
            rw [show prP b = p2 from HP2.out] at t2 t3 t4
            obtain ⟨ah2, hah⟩ : ∃ x, m * m / 18446744073709551616 = x := ⟨_, rfl⟩
            obtain ⟨al2, hal⟩ : ∃ x, m * m % 18446744073709551616 = x := ⟨_, rfl⟩
            obtain ⟨bh2, hbh⟩ : ∃ x, (m + 1) * (m + 1) / 18446744073709551616 = x := ⟨_, rfl⟩
            obtain ⟨bl2, hbl⟩ : ∃ x, (m + 1) * (m + 1) % 18446744073709551616 = x := ⟨_, rfl⟩
            rw [hah] at t2
            rw [hbh] at t3 t4
            rw [hbl] at t4
            have HAH := Lib.hid hah; have HAL := Lib.hid hal; have HBH := Lib.hid hbh; have HBL := Lib.hid hbl
            have em1 : (m : Int) + 1 = ((m + 1 : Nat) : Int) := by omega
            obtain ⟨m1, hm1⟩ : ∃ m1, m + 1 = m1 := ⟨_, rfl⟩
            rw [hm1] at em1 t1 HBH HBL
            have T4 := Lib.hid t4
            have hmlt : m < 18446744073709551616 := by omega
            have hm1lt : m1 < 18446744073709551616 := by omega
            have em0 : (h : Int) * 4294967296 + kx = (m : Int) := by omega
            have tk1 : True := trivial; have tk2 : True := trivial
            clear hcond hm hmm hah hal hbh hbl hm1 t4 HT
            go_upto_region 18 with (first
              | (go_at_call 16; refine (start_any _ (HV.out.below HZ.out.y.bel)).mono ?_; rintro e w5 ⟨rfl, hb⟩; have HZ2 := Lib.hid (HZ.out.step hb); have ck := (AR.made w5 23 (uV hL)).at (i := b) (v := .int .u32 kx) (uV_get (by rw [← hkx, List.getD_eq_getElem?_getD, List.getElem?_eq_getElem (show b < hL.length by rw [hL_len]; exact hb8)]; rfl)); have HZ3 := Lib.hid (HZ2.out.step (bl_self w5 (.cells (uV hL) 23))); clear hb)
              | ((with_reducible refine atOp ⟨none, .store 23 _ _, _, _, _, _⟩ ?_); refine wpList_store_row rfl 23 (.tmp 10) (.tmp 93) rfl w5.heap.size (uV hL) rfl rfl 23 (uV (List.replicate 8 0)) (AR.made w5 _ _) (info8 hL rfl) rfl (uV_one _) ?_; rw [World.setRow_alloc_new])
              | (go_at_call 35; have _t := tk1; (with_reducible refine (ltimes_at m m (m * m) ah2 al2 _ hmlt hmlt rfl HAH.out HAL.out).mono ?_); rintro e w6 ⟨rfl, hb⟩; have HZ4 := Lib.hid (HZ3.out.step hb); clear hb tk1 _t)
              | (go_at_call 35; have _t := tk2; (with_reducible refine (ltimes_at m1 m1 (m1 * m1) bh2 bl2 _ hm1lt hm1lt rfl HBH.out HBL.out).mono ?_); rintro e w7 ⟨rfl, hb⟩; have HZ5 := Lib.hid (HZ4.out.step hb); clear hb tk2 _t)
              | ((with_reducible refine atOp ⟨none, .store 65 (.tmp 8) _, _, _, _, _⟩ ?_); refine wpList_store_row rfl 65 (.tmp 8) (.tmp 104) rfl d #[.int .u64 (ah2 : Int), .int .u64 (al2 : Int)] rfl rfl 65 #[.int .u64 (ah : Int), .int .u64 (al : Int)] HZ5.out.a8 infoWideL rfl (by simp [Value.oneCell']) ?_)
              | ((with_reducible refine atOp ⟨none, .store 65 (.tmp 9) _, _, _, _, _⟩ ?_); refine wpList_store_row rfl 65 (.tmp 9) (.tmp 109) rfl (d + 1) #[.int .u64 (bh2 : Int), .int .u64 (bl2 : Int)] rfl rfl 65 #[.int .u64 (bh : Int), .int .u64 (bl : Int)] (HZ5.out.a9.apart (show d + 1 ≠ d by omega) _) infoWideL rfl (by simp [Value.oneCell']) ?_))
            have F8 := (HZ5.out.a8.row #[.int .u64 (ah2 : Int), .int .u64 (al2 : Int)]).apart (show d ≠ d + 1 by omega) #[.int .u64 (bh2 : Int), .int .u64 (bl2 : Int)]
            have F9 := (HZ5.out.a9.apart (show d + 1 ≠ d by omega) #[.int .u64 (ah2 : Int), .int .u64 (al2 : Int)]).row #[.int .u64 (bh2 : Int), .int .u64 (bl2 : Int)]
            have BF : Hid (Below w.heap.size w ((w7.setRow d #[.int .u64 (ah2 : Int), .int .u64 (al2 : Int)]).setRow (d + 1) #[.int .u64 (bh2 : Int), .int .u64 (bl2 : Int)])) := Lib.hid (bl_row _ (bl_row _ HZ5.out.y.bel HZ5.out.lo) (Nat.le_succ_of_le HZ5.out.lo))
            have c80 := F8.at (i := 0) (v := .int .u64 (ah2 : Int)) rfl
            have c81 := F8.at (i := 1) (v := .int .u64 (al2 : Int)) rfl
            have c90 := F9.at (i := 0) (v := .int .u64 (bh2 : Int)) rfl
            have c91 := F9.at (i := 1) (v := .int .u64 (bl2 : Int)) rfl
            clear F8 F9
            generalize ((w7.setRow d #[.int .u64 (ah2 : Int), .int .u64 (al2 : Int)]).setRow (d + 1) #[.int .u64 (bh2 : Int), .int .u64 (bl2 : Int)]) = wf at *
            have g1 : decide ((ah2 : Int) < (p2 : Int)) = true := decide_eq_true (by omega)
            clear HZ5 HZ4 HZ3 HZ2 HZ ck
            have hfin : (decide (p2 < bh2) || decide (0 < bl2)) = true := by
              by_cases hq : bh2 = p2
              · have := T4.out hq; simp; omega
              · simp; omega
            have HF := Lib.hid hfin
            clear hfin
            clear HF
            by_cases hq : bh2 = p2
            · have h0 : 0 < bl2 := by have := T4.out hq; omega
              have g3 : decide ((p2 : Int) < (bh2 : Int)) = false := decide_eq_false (by omega)
              have g4 : ((bh2 : Int) == (p2 : Int)) = true := beq_iff_eq.2 (by omega)
              have g5 : decide ((0 : Int) < (bl2 : Int)) = true := decide_eq_true (by omega)
              have n1 : ¬ p2 < bh2 := by omega
              go_wp2_with (go_at_call 18; refine (shown_any _ (HV.out.below BF.out)).mono ?_; rintro e w8 ⟨rfl, hb⟩; have BG := Lib.hid (bl_call BF.out hb); clear hb)
              go_ret
              first
                | exact ⟨rfl, BG.out⟩
                | exact ⟨by show Ending.returned (Value.bool (decide (p2 < bh2) || decide (0 < bl2))) = _; rw [decide_eq_true h0, Bool.or_true], BG.out⟩
            · have n1 : p2 < bh2 := by omega
              have g3 : decide ((p2 : Int) < (bh2 : Int)) = true := decide_eq_true (by omega)
              have n2 : (p2 : Int) < (bh2 : Int) := by omega
              clear hq
              go_wp2_with (go_at_call 18; refine (shown_any _ (HV.out.below BF.out)).mono ?_; rintro e w8 ⟨rfl, hb⟩; have BG := Lib.hid (bl_call BF.out hb); clear hb)
              go_ret
              first
                | exact ⟨rfl, BG.out⟩
                | exact ⟨by show Ending.returned (Value.bool (decide (p2 < bh2) || decide (0 < bl2))) = _; rw [decide_eq_true n1, Bool.true_or], BG.out⟩
theorem roots_int (n : Int) (w : World) (hn : (Lit.int .u8 n).wf = true) (hV : VK w) : Calls Tryd.prog 9 #[.int .u8 n] w (Gives w (.bool true)) := by
  obtain ⟨h0, h1⟩ := wf_u8 n hn
  obtain ⟨m, rfl⟩ : ∃ m : Nat, n = m := ⟨n.toNat, by omega⟩
  exact roots_any m w (by omega) hV
end Go.Proofs.YtipcanphkdodaaaDoor
