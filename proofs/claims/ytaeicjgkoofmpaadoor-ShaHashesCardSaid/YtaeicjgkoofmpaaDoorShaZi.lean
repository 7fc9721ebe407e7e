/- The reference's Sum. -/
import Derived.Test.YtaeicjgkoofmpaaDoorShaZg
import Derived.Test.YtaeicjgkoofmpaaDoorShaP
import Derived.Test.YtaeicjgkoofmpaaDoorShaU
namespace Go.Proofs.YtaeicjgkoofmpaaDoor
open Go.RowKit
set_option linter.unusedVariables false

/-- The memory of Sum behind its preparations: all of it was there in w0 but the constants (dk) and the state (ds). -/
structure SuI (w w0 : World) (dk ds : Nat) (s : List Nat) (W : World) : Prop where
  k0 : w0.heap.size ≤ dk
  k1 : dk < ds
  ks : AR W dk 68 (uV kL)
  sx : AR W ds 70 (uV s)
  bel : Below w0.heap.size w0 W
theorem SuI.step {w w0 W W' : World} {dk ds : Nat} {s : List Nat} (h : SuI w w0 dk ds s W) (hb : Below W.heap.size W W') : SuI w w0 dk ds s W' := ⟨h.k0, h.k1, h.ks.step hb, h.sx.step hb, bl_call h.bel hb⟩
theorem SuI.row {w w0 W : World} {dk ds : Nat} {s : List Nat} (h : SuI w w0 dk ds s W) (s' : List Nat) : SuI w w0 dk ds s' (W.setRow ds (uV s')) := by
  have h0 := h.k0; have h1 := h.k1
  exact ⟨h.k0, h.k1, h.ks.apart (show dk ≠ ds by omega) _, h.sx.row _, bl_row _ h.bel (by omega)⟩
theorem SuI.put {w w0 W : World} {dk ds dx : Nat} {s : List Nat} (h : SuI w w0 dk ds s W) (hx : ds < dx) (i : Nat) (v : Value) : SuI w w0 dk ds s (W.setCell ⟨dx, i, none⟩ v) := by
  have h0 := h.k0; have h1 := h.k1
  exact ⟨h.k0, h.k1, h.ks.kept (show dk ≠ dx by omega) _, h.sx.kept (show ds ≠ dx by omega) _, bl_set _ h.bel (show w0.heap.size ≤ dx by omega)⟩
theorem blk_get {m : List Nat} {k i : Nat} (h : 64 * k + 64 ≤ m.length) (hi : i < 64) : ((m.drop (64 * k)).take 64).getD i 0 = m.getD (64 * k + i) 0 := by
  rw [List.getD_eq_getElem?_getD, List.getD_eq_getElem?_getD, List.getElem?_take, if_pos hi, List.getElem?_drop]
theorem blk_len {m : List Nat} {k : Nat} (h : 64 * k + 64 ≤ m.length) : ((m.drop (64 * k)).take 64).length = 64 := by rw [List.length_take, List.length_drop]; omega
theorem all_len (m : List Nat) : (allL m).length = 64 * ((allL m).length / 64) := by
  have := padL_mod m.length
  unfold allL
  rw [List.length_append]
  omega

set_option maxRecDepth 20000 in
set_option maxHeartbeats 4000000 in
theorem rsum_any (xs : List Nat) (v : Value) (w : World) (hv : RN w v xs) (hb : BB xs) (hsz : xs.length ≤ 100000) :
    Calls Tryd.prog 19 #[v] w (Gives w (.agg (yV (shaL xs)))) := by
  obtain ⟨q, hq⟩ : ∃ q, xs.length = q := ⟨_, rfl⟩
  obtain ⟨A, c, rfl⟩ := hv.len
  rw [hq] at hv hsz ⊢
  have HX := Lib.hid hv; have HBB := Lib.hid hb; have HQ := Lib.hid hq
  have HRES : Hid (AR (w.alloc (.cells (yV (List.replicate 32 0)) 36)) w.heap.size 36 (yV (List.replicate 32 0))) := Lib.hid (AR.made _ _ _)
  have HB0 : Hid (Below w.heap.size w (w.alloc (.cells (yV (List.replicate 32 0)) 36))) := Lib.hid (bl_self _ _)
  clear hv hb hq
  go_enter Tryd.func19, Tryd.ntmps19
  go_upto_region 2 with (go_at_call 44; (with_reducible refine (rpad_yes q _ (by omega)).mono ?_); rintro e w1 ⟨v1, rfl, hr, hb⟩; have R1 := Lib.hid hr; have B1 := Lib.hid (bl_call HB0.out hb); have HRES1 := Lib.hid (HRES.out.step hb); clear hr hb)
  have hpl := padL_le q
  have tk1 : True := trivial; have tk2 : True := trivial
  go_upto_region 3 with (first
    | (at_builtin; have _t := tk1; refine wpList_append_on _ rfl _ _ rfl w1.heap.size _ (.slice A q c) [] xs rfl (on_new w1 [] 0 rfl (by omega)) rfl (HX.out.later (bl_alloc _ B1.out)) (by simp) (by have := HQ.out; simp; omega) ?_; intro v2 w2 hn hg; have HN2 : Hid (ON w2 w1.heap.size v2 xs) := Lib.hid hn; have B2 : Hid (Below w1.heap.size w1 w2) := Lib.hid ((bl_self w1 _).grown hg (by simp) (fun k e => by cases e; exact Nat.le_refl _)); clear hn hg tk1 _t)
    | (at_builtin; have _t := tk2; refine wpList_append_on _ rfl _ _ rfl w1.heap.size _ v1 xs (padL q) rfl HN2.out rfl (R1.out.later B2.out) B2.out.size (by have := HQ.out; omega) ?_; intro v3 w3 hn hg; have HN3 : Hid (ON w3 w1.heap.size v3 (allL xs)) := Lib.hid (by have := hn; unfold allL; rw [HQ.out]; exact this); have B3 : Hid (Below w1.heap.size w1 w3) := Lib.hid (B2.out.grown hg B2.out.size (fun k e => (World.ownsRow.lt HN2.out k e).1)); clear hn hg tk2 _t))
  obtain ⟨A3, c3, rfl⟩ := HN3.out.len
  obtain ⟨nb, hnb⟩ : ∃ nb, (allL xs).length / 64 = nb := ⟨_, rfl⟩
  have hal := all_len xs
  rw [hnb] at hal
  have hal2 : 64 * nb ≤ 100072 := by rw [← hal]; unfold allL; rw [List.length_append, HQ.out]; omega
  have hsh : shaL xs = digL (foldB (allL xs) nb) := by rw [← hnb]; rfl
  have hbb : BB (allL xs) := HBB.out.app (padL_bb _)
  have hnb0 : 0 < nb := by
    rcases Nat.eq_zero_or_pos nb with h | h
    · subst h; have : (allL xs).length = xs.length + (padL xs.length).length := by unfold allL; rw [List.length_append]
      have h9 := padL_le xs.length; omega
    · exact h
  have R3 := Lib.hid HN3.out.rn
  have RES3 := Lib.hid (HRES1.out.step B3.out)
  have BW := Lib.hid (bl_call B1.out B3.out)
  obtain ⟨all, hall⟩ : ∃ all, allL xs = all := ⟨_, rfl⟩
  rw [hall] at R3 hal hsh hbb ⊢
  have HAL := Lib.hid hal; have HSH := Lib.hid hsh; have HAB := Lib.hid hbb
  rw [hsh]
  clear R1 B1 HRES HB0 HRES1 HX HBB HN2 B2 HN3 B3 hnb hal hsh hbb hpl hall
  obtain ⟨L, hL⟩ : ∃ L, all.length = L := ⟨_, rfl⟩
  rw [hL] at HAL R3 ⊢
  have HLL := Lib.hid hL
  have hL0 : 0 < L := by rw [HAL.out]; omega
  have hL1 : L ≤ 100072 := by rw [HAL.out]; exact hal2
  obtain ⟨gp, off, rfl, hgp, hcells⟩ : ∃ gp off, A3 = some ⟨gp, off, none⟩ ∧ gp < w3.heap.size ∧ ∀ i, i < L → w3.cell? ⟨gp, off + i, none⟩ = some (.int .u8 (all.getD i 0 : Nat)) := by
    rcases R3.out with ⟨A', c', e, rfl, _⟩ | ⟨g, off, c', e, hg, h0, h1, h2, h3⟩
    · simp at hL; omega
    · simp only [Value.slice.injEq] at e
      exact ⟨g, off, e.1, hg, fun i hi => h3 i (by rw [hL]; exact hi)⟩
  have HC := Lib.hid hcells
  clear hcells R3 hL hal2
  go_wp2_with (first
    | (go_at_call 45; refine (rconstants_any _).mono ?_; rintro e w4 ⟨rfl, hb⟩; have B4 := Lib.hid hb; have K4 : Hid (AR (w4.alloc (.cells (uV kL) 68)) w4.heap.size 68 (uV kL)) := Lib.hid (AR.made _ _ _); have B4b := Lib.hid (bl_alloc (.cells (uV kL) 68) hb); clear hb)
    | ((with_reducible refine atOp ⟨none, .store 68 _ _, _, _, _, _⟩ ?_); refine wpList_store_row rfl 68 (.tmp 6) (.tmp 24) rfl w4.heap.size (uV kL) rfl rfl 68 (uV (List.replicate 64 0)) (AR.made w4 _ _) (info64c kL rfl) rfl (uV_one _) ?_; rw [World.setRow_alloc_new])
    | (go_at_call 46; refine (rstart_any _).mono ?_; rintro e w5 ⟨rfl, hb⟩; have HS : Hid (SuI w w3 w4.heap.size w5.heap.size hL (w5.alloc (.cells (uV hL) 70))) := Lib.hid ⟨B4.out.size, by have := hb.size; rw [size_more] at this; omega, (K4.out.step hb).more _, AR.made _ _ _, bl_alloc _ (bl_call B4b.out hb)⟩; clear hb)
    | ((with_reducible refine atOp ⟨none, .store 70 _ _, _, _, _, _⟩ ?_); refine wpList_store_row rfl 70 (.tmp 7) (.tmp 25) rfl w5.heap.size (uV hL) rfl rfl 70 (uV (List.replicate 8 0)) (AR.made w5 _ _) (info8 hL rfl) rfl (uV_one _) ?_; rw [World.setRow_alloc_new]))
  obtain ⟨dk, hdk⟩ : ∃ d, w4.heap.size = d := ⟨_, rfl⟩
  obtain ⟨ds, hds⟩ : ∃ d, w5.heap.size = d := ⟨_, rfl⟩
  rw [hdk, hds] at HS ⊢
  clear hdk hds B4 K4 B4b
  go_loopw [8] (fun i wr => ∃ k : Nat, k ≤ nb ∧ i = .int .i64 ((64 * k : Nat) : Int) ∧ Hid (SuI w w3 dk ds (foldB all k) wr)) (fun i _ => L + 1 - (intOf i).toNat)
  case atStart => exact ⟨0, by omega, rfl, HS⟩
  case round =>
    clear HS
    obtain ⟨k, hk, rfl, HR⟩ := hrel
    obtain ⟨p, hp⟩ : ∃ p, 64 * k = p := ⟨_, rfl⟩
    rw [hp]
    by_cases hlt : k < nb
    · have hpL : p < L := by rw [HAL.out]; omega
      have hpL2 : 64 * k + 64 ≤ all.length := by rw [HLL.out, HAL.out]; omega
      have HP := Lib.hid hp; have HPL := Lib.hid hpL2
      clear hp hpL2
      obtain ⟨s8, hs8⟩ : ∃ s8, foldB all k = s8 := ⟨_, rfl⟩
      have h8 : s8.length = 8 := by rw [← hs8]; exact foldB_len _ _
      have hw8 : WW s8 := by rw [← hs8]; exact foldB_ww _ _
      obtain ⟨bk, hbk⟩ : ∃ bk, (all.drop (64 * k)).take 64 = bk := ⟨_, rfl⟩
      have hbl : bk.length = 64 := by rw [← hbk]; exact blk_len HPL.out
      have hbw : BB bk := by rw [← hbk]; exact (HAB.out.drop _).take _
      have hbg : ∀ n, n < 64 → bk.getD n 0 = all.getD (p + n) 0 := fun n hn => by rw [← hbk, ← HP.out]; exact blk_get HPL.out hn
      have hnx : foldB all (k + 1) = blockL s8 bk := by rw [← hs8, ← hbk]; rfl
      rw [hs8] at HR
      have H8 := Lib.hid h8; have HW8 := Lib.hid hw8; have HBL := Lib.hid hbl; have HBW := Lib.hid hbw; have HBG := Lib.hid hbg; have HNX := Lib.hid hnx
      clear hs8 h8 hw8 hbk hbl hbw hbg hnx
      go_wp2_with fail
      obtain ⟨dx, hdx⟩ : ∃ d, wr.heap.size = d := ⟨_, rfl⟩
      have HI : Hid (SuI w w3 dk ds s8 (wr.alloc (.cells (yV (List.replicate 64 0)) 43)) ∧ AR (wr.alloc (.cells (yV (List.replicate 64 0)) 43)) dx 43 (yV (List.replicate 64 0)) ∧ ds < dx) :=
        Lib.hid ⟨HR.out.step (bl_self _ _), by rw [← hdx]; exact AR.made _ _ _, by rw [← hdx]; exact HR.out.sx.inside⟩
      rw [hdx]
      clear hdx HR
      go_loopw [10] (fun i wx => ∃ n : Nat, n ≤ 64 ∧ i = .int .i64 n ∧ Hid (SuI w w3 dk ds s8 wx ∧ AR wx dx 43 (yV (mix bk (List.replicate 64 0) n)) ∧ ds < dx)) (fun i _ => 64 - (intOf i).toNat)
      case atStart => exact ⟨0, by omega, rfl, HI⟩
      case round =>
        clear HI
        obtain ⟨n, hn, rfl, HX⟩ := hrel
        by_cases hlt2 : n < 64
        · obtain ⟨j, hj⟩ : ∃ j, p + n = j := ⟨_, rfl⟩
          have hjL : j < L := by have h1 := HPL.out; have h2 := HLL.out; have h3 := HP.out; omega
          have ej : IntKind.i64.wrap ((p : Int) + n) = (j : Int) := by rw [IntKind.wrap_i64]; omega
          have ej2 : (p : Int) + n = (j : Int) := by omega
          have cj := (HX.out.1.bel.cell (p := ⟨gp, off + j, none⟩) hgp).trans (HC.out j hjL)
          have hxx := HBG.out n hlt2
          rw [hj] at hxx
          rw [← hxx] at cj
          obtain ⟨x, hx⟩ : ∃ x, bk.getD n 0 = x := ⟨_, rfl⟩
          rw [hx] at cj
          have hg := HX.out.2.1.at (i := n) (v := .int .u8 0) (yV_get (hole HBL.out hlt2))
          have hf := HX.out.2.1.free n
          have rn : (n : Int) < 64 := by omega
          have HXX := Lib.hid hx
          clear hxx hx hj
          go_wp2_with fail
          go_roundw
          case rel => exact ⟨n + 1, by omega, by go_num, Lib.hid (by
            refine ⟨HX.out.1.put HX.out.2.2 _ _, ?_, HX.out.2.2⟩
            have := HX.out.2.1.put n (.int .u8 (x : Nat))
            rw [yV_set, ← HXX.out, mix_set (by rw [HBL.out]; omega) (by rw [List.length_replicate]; omega)] at this
            rw [← HXX.out]
            exact this)⟩
          case measure => simp [intOf]; omega
        · have HN : Hid (n = 64) := Lib.hid (by omega)
          replace HX : Hid (SuI w w3 dk ds s8 wr ∧ AR wr dx 43 (yV bk)) := Lib.hid (by have := HX.out; rw [HN.out, mix_full HBL.out (by rw [List.length_replicate])] at this; exact ⟨this.1, this.2.1⟩)
          go_wp2_with (first
            | ((with_reducible refine atOp ⟨some 44, _, _, _, _, _⟩ ?_); refine wpList_load_row rfl 68 _ rfl dk rfl 68 (uV kL) (0, 0) _ HX.out.1.ks Tryd.underlying68 rfl (info64c kL rfl) ?_)
            | ((with_reducible refine atOp ⟨some 45, _, _, _, _, _⟩ ?_); refine wpList_load_row rfl 70 _ rfl ds rfl 70 (uV s8) (0, 0) _ HX.out.1.sx Tryd.underlying70 rfl (info8 s8 H8.out) ?_)
            | ((with_reducible refine atOp ⟨some 46, _, _, _, _, _⟩ ?_); refine wpList_load_row rfl 43 _ rfl dx rfl 43 (yV bk) (0, 0) _ HX.out.2 Tryd.underlying43 rfl (info64 bk HBL.out) ?_)
            | (go_at_call 47; refine (rblock_any s8 bk _ H8.out HW8.out HBW.out HBL.out).mono ?_; rintro e w6 ⟨rfl, hb⟩; have H6 := Lib.hid (HX.out.1.step hb); clear hb)
            | ((with_reducible refine atOp ⟨none, .store 70 _ _, _, _, _, _⟩ ?_); refine wpList_store_row rfl 70 (.tmp 7) (.tmp 47) rfl ds (uV (blockL s8 bk)) rfl rfl 70 (uV s8) H6.out.sx (info8 _ (blockL_len _ H8.out)) (by rw [uV_size, uV_size, H8.out, blockL_len _ H8.out]) (uV_one _) ?_))
          go_roundw
          case rel => exact ⟨k + 1, by omega, by have := HP.out; go_num, Lib.hid (by rw [HNX.out]; exact H6.out.row _)⟩
          case measure => simp [intOf]; omega
    · have hpL : p = L := by rw [HAL.out]; omega
      obtain ⟨s8, hs8⟩ : ∃ s8, foldB all nb = s8 := ⟨_, rfl⟩
      have hkn : k = nb := by omega
      have h8 : s8.length = 8 := by rw [← hs8]; exact foldB_len _ _
      obtain ⟨T, hT⟩ : ∃ T, digL s8 = T := ⟨_, rfl⟩
      have hTl : T.length = 32 := by rw [← hT]; exact digL_len h8
      have hTg : ∀ i j, i < 8 → j < 4 → T.getD (4 * i + j) 0 = s8.getD i 0 / 2 ^ (24 - 8 * j) % 256 := fun i j hi hj => by rw [← hT]; exact digL_get h8 hi hj
      rw [hkn, hs8] at HR
      have H8 := Lib.hid h8; have HTL := Lib.hid hTl; have HTG := Lib.hid hTg; have HTT : Hid (digL (foldB all nb) = T) := Lib.hid (by rw [hs8]; exact hT)
      clear hs8 h8 hT hTl hTg hkn hp hlt hk
      subst hpL
      go_wp2_with fail
      obtain ⟨dx, hdx⟩ : ∃ d, wr.heap.size = d := ⟨_, rfl⟩
      have HI : Hid (SuI w w3 dk ds s8 (wr.alloc (.cells (yV (List.replicate 32 0)) 36)) ∧ AR (wr.alloc (.cells (yV (List.replicate 32 0)) 36)) dx 36 (yV (mix T (List.replicate 32 0) 0)) ∧ ds < dx) :=
        Lib.hid ⟨HR.out.step (bl_self _ _), by rw [← hdx]; exact AR.made _ _ _, by rw [← hdx]; exact HR.out.sx.inside⟩
      rw [hdx]
      clear hdx HR
      go_loopw [12] (fun i wx => ∃ n : Nat, n ≤ 32 ∧ i = .int .i64 n ∧ Hid (SuI w w3 dk ds s8 wx ∧ AR wx dx 36 (yV (mix T (List.replicate 32 0) n)) ∧ ds < dx)) (fun i _ => 32 - (intOf i).toNat)
      case atStart => exact ⟨0, by omega, rfl, HI⟩
      case round =>
        clear HI
        obtain ⟨n, hn, rfl, HX⟩ := hrel
        by_cases hlt2 : n < 32
        · obtain ⟨a, ha⟩ : ∃ a, n / 4 = a := ⟨_, rfl⟩
          obtain ⟨r, hr⟩ : ∃ r, n % 4 = r := ⟨_, rfl⟩
          obtain ⟨z, hz⟩ : ∃ z, 24 - 8 * r = z := ⟨_, rfl⟩
          have ea : (n : Int) / 4 = (a : Int) := by omega
          have er : (n : Int) % 4 = (r : Int) := by omega
          have ez : (24 : Int) - 8 * (r : Int) = (z : Int) := by omega
          have hr4 : r < 4 := by omega
          have hz24 : z ≤ 24 := by omega
          have ha8 : (a : Int) < 8 := by omega
          obtain ⟨x, hx⟩ : ∃ x, s8.getD a 0 = x := ⟨_, rfl⟩
          have ca := HX.out.1.sx.at (i := a) (v := .int .u32 x) (uV_get (by rw [getD_at (by rw [H8.out]; omega), hx]))
          have hval : T.getD n 0 = x / 2 ^ z % 256 := by
            have := HTG.out a r (by omega) hr4
            rw [show 4 * a + r = n by omega, hx, hz] at this
            exact this
          have hg := HX.out.2.1.at (i := n) (v := .int .u8 0) (yV_get (hole HTL.out hlt2))
          have hf := HX.out.2.1.free n
          have HVL := Lib.hid hval
          have rn : (n : Int) < 32 := by omega
          clear hval hx ha hr hz
          go_wp2_with fail
          go_roundw
          case rel => exact ⟨n + 1, by omega, by go_num, Lib.hid (by
            rw [show (x : Int) / 2 ^ z % 256 = ((x / 2 ^ z % 256 : Nat) : Int) by push_cast; rfl, ← HVL.out]
            refine ⟨HX.out.1.put HX.out.2.2 _ _, ?_, HX.out.2.2⟩
            have := HX.out.2.1.put n (.int .u8 (T.getD n 0 : Nat))
            rw [yV_set, mix_set (by rw [HTL.out]; omega) (by rw [List.length_replicate]; omega)] at this
            exact this)⟩
          case measure => simp [intOf]; omega
        · have HN : Hid (n = 32) := Lib.hid (by omega)
          have HF : Hid (AR wr dx 36 (yV T)) := Lib.hid (by have := HX.out.2.1; rw [HN.out, mix_full HTL.out (by rw [List.length_replicate])] at this; exact this)
          have RS := Lib.hid (RES3.out.step HX.out.1.bel)
          have BF := Lib.hid (bl_call BW.out HX.out.1.bel)
          go_wp2_with (first
            | ((with_reducible refine atOp ⟨some 65, _, _, _, _, _⟩ ?_); refine wpList_load_row rfl 36 _ rfl dx rfl 36 (yV T) (0, 0) _ HF.out Tryd.underlying36 rfl (info32 T HTL.out) ?_)
            | ((with_reducible refine atOp ⟨none, .store 36 _ _, _, _, _, _⟩ ?_); refine wpList_store_row rfl 36 (.tmp 2) (.tmp 65) rfl w.heap.size (yV T) rfl rfl 36 (yV (List.replicate 32 0)) RS.out (info32 T HTL.out) (by rw [yV_size, yV_size, HTL.out]; rfl) (yV_one _) ?_))
          refine bodyPost_ret (v := .agg (yV T)) (results_cell_row Tryd.results19 _ _ w.heap.size 36 _ (0, 0) _ rfl (RS.out.row _) Tryd.underlying36 rfl (info32 T HTL.out)) rfl ⟨by rw [HSH.out, HTT.out], bl_row _ BF.out (Nat.le_refl _)⟩
end Go.Proofs.YtaeicjgkoofmpaaDoor
