/- The reference's Block. The reference's padded. The reference's Tag and Equal. The reference's Equal and Verify. The reference's Verify. -/
import Derived.Test.YtaeicjgkoofmpaaDoorHmacK
import Derived.Test.YtaeicjgkoofmpaaDoorShaZi
import Derived.BigQuiet
import Derived.Deep.QuietTactic
namespace Go.Proofs.YtaeicjgkoofmpaaDoor
open Go.RowKit
set_option linter.unusedVariables false

theorem getD_app {l m : List Nat} {k : Nat} (h : k < l.length) : (l ++ m).getD k 0 = l.getD k 0 := by
  rw [List.getD_eq_getElem?_getD, List.getD_eq_getElem?_getD, List.getElem?_append_left h]
theorem mix_pre {l : List Nat} {n k : Nat} (hk : l.length = k) (h : k ≤ n) : mix (l ++ List.replicate (n - k) 0) (List.replicate n 0) k = l ++ List.replicate (n - k) 0 := by
  unfold mix
  rw [List.take_append_of_le_length (by omega), List.take_of_length_le (by omega), List.drop_replicate]
theorem kb_long {key : List Nat} (h : 64 < key.length) : mix (kbL key) (List.replicate 64 0) 32 = kbL key := by
  rw [kbL_long h]; exact mix_pre (n := 64) (k := 32) (shaL_len _) (by omega)
theorem kb_short {key : List Nat} {n : Nat} (hn : key.length = n) (h : n ≤ 64) : mix (kbL key) (List.replicate 64 0) n = kbL key := by
  subst hn
  rw [kbL_short h]; exact mix_pre (n := 64) rfl h
theorem kb_get_long {key : List Nat} {k : Nat} (h : 64 < key.length) (hk : k < 32) : (kbL key).getD k 0 = (shaL key).getD k 0 := by
  rw [kbL_long h, getD_app (by rw [shaL_len]; exact hk)]
theorem kb_get_short {key : List Nat} {k : Nat} (h : key.length ≤ 64) (hk : k < key.length) : (kbL key).getD k 0 = key.getD k 0 := by
  rw [kbL_short h, getD_app hk]
theorem KbA.put {w W : World} {l : List Nat} (h : KbA w l W) (i x : Nat) : KbA w (l.set i x) (W.setCell ⟨w.heap.size + 1, i, none⟩ (.int .u8 x)) := by
  refine ⟨h.res.kept (show w.heap.size ≠ w.heap.size + 1 by omega) _, ?_, bl_set _ h.bel (show w.heap.size ≤ w.heap.size + 1 by omega)⟩
  have := h.box.put i (.int .u8 x)
  rw [yV_set] at this
  exact this
theorem kb_step {w W : World} {key : List Nat} {k x : Nat} (h : KbA w (mix (kbL key) (List.replicate 64 0) k) W) (hk : k < 64) (hx : (kbL key).getD k 0 = x) : KbA w (mix (kbL key) (List.replicate 64 0) (k + 1)) (W.setCell ⟨w.heap.size + 1, k, none⟩ (.int .u8 x)) := by
  have := h.put k x
  rw [← hx, mix_set (by rw [kbL_len]; exact hk) (by simp; exact hk), hx] at this
  exact this
theorem kb_hole {key : List Nat} {k : Nat} (hk : k < 64) : (mix (kbL key) (List.replicate 64 0) k)[k]? = some 0 := by
  rw [mix_get (by rw [kbL_len]; exact hk) (by simp; exact hk), List.getD_eq_getElem?_getD, List.getElem?_replicate, if_pos hk]; rfl

set_option maxRecDepth 20000 in
set_option maxHeartbeats 2000000 in
theorem rkblock_any (xs : List Nat) (v : Value) (w : World) (hv : RN w v xs) (hb : BB xs) (hsz : xs.length ≤ 100000) :
    Calls Tryd.prog 22 #[v] w (Gives w (.agg (yV (kbL xs)))) := by
  obtain ⟨q, hq⟩ : ∃ q, xs.length = q := ⟨_, rfl⟩
  obtain ⟨A, c, rfl⟩ := hv.len
  rw [hq] at hv hsz ⊢
  have HX := Lib.hid hv; have HBB := Lib.hid hb; have HQ := Lib.hid hq
  have HS := Lib.hid (KbA.start w)
  clear hv hb hq
  by_cases hlt : 64 < q
  · have HLQ : Hid (64 < xs.length) := Lib.hid (by rw [HQ.out]; exact hlt)
    go_enter Tryd.func22, Tryd.ntmps22
    go_wp2_with (first
      | (go_at_call 19; refine (rsum_any xs _ _ (HX.out.later HS.out.bel) HBB.out (by rw [HQ.out]; exact hsz)).mono ?_; rintro e w1 ⟨rfl, hb⟩; have H1 := Lib.hid (HS.out.step hb); clear hb)
      | ((with_reducible refine atOp ⟨none, .store 36 _ _, _, _, _, _⟩ ?_); refine wpList_store_row rfl 36 (.tmp 4) (.tmp 11) rfl w1.heap.size (yV (shaL xs)) rfl rfl 36 (yV (List.replicate 32 0)) (AR.made _ _ _) (info32 _ (shaL_len _)) (by rw [yV_size, yV_size, shaL_len]; rfl) (yV_one _) ?_; rw [World.setRow_alloc_new]))
    obtain ⟨d, hd⟩ : ∃ d, w1.heap.size = d := ⟨_, rfl⟩
    have HI : Hid (KbA w (List.replicate 64 0) (w1.alloc (.cells (yV (shaL xs)) 36)) ∧ AR (w1.alloc (.cells (yV (shaL xs)) 36)) d 36 (yV (shaL xs)) ∧ w.heap.size + 1 < d) := Lib.hid ⟨H1.out.step (bl_self _ _), by rw [← hd]; exact AR.made _ _ _, by rw [← hd]; exact H1.out.box.inside⟩
    rw [hd]
    clear hd H1 HS
    go_loopw [5] (fun i wr => ∃ k : Nat, k ≤ 32 ∧ i = .int .i64 k ∧ Hid (KbA w (mix (kbL xs) (List.replicate 64 0) k) wr ∧ AR wr d 36 (yV (shaL xs)) ∧ w.heap.size + 1 < d)) (fun i _ => 32 - (intOf i).toNat)
    case atStart => exact ⟨0, by omega, rfl, HI⟩
    case round =>
      clear HI
      obtain ⟨k, hk, rfl, HR⟩ := hrel
      by_cases hk2 : k < 32
      · obtain ⟨x, hx⟩ : ∃ x, (shaL xs).getD k 0 = x := ⟨_, rfl⟩
        have c1 := HR.out.2.1.at (i := k) (v := .int .u8 x) (yV_get (by rw [← hx]; exact getD_at (by rw [shaL_len]; exact hk2)))
        have c2 := HR.out.1.box.at (i := k) (v := .int .u8 0) (yV_get (kb_hole (by omega)))
        have f2 := HR.out.1.box.free k
        have HN : Hid (KbA w (mix (kbL xs) (List.replicate 64 0) (k + 1)) (wr.setCell ⟨w.heap.size + 1, k, none⟩ (.int .u8 x)) ∧ AR (wr.setCell ⟨w.heap.size + 1, k, none⟩ (.int .u8 x)) d 36 (yV (shaL xs)) ∧ w.heap.size + 1 < d) := Lib.hid ⟨kb_step HR.out.1 (by omega) (by rw [kb_get_long HLQ.out hk2, hx]), HR.out.2.1.kept (show d ≠ w.heap.size + 1 by have := HR.out.2.2; omega) _, HR.out.2.2⟩
        have hk32 : (k : Int) < 32 := by omega
        clear hx
        go_wp2_with fail
        go_roundw
        case rel => exact ⟨k + 1, by omega, by go_num, HN⟩
        case measure => simp [intOf]; omega
      · have HF : Hid (KbA w (kbL xs) wr) := Lib.hid (by have := HR.out.1; rw [show k = 32 by omega, kb_long HLQ.out] at this; exact this)
        go_wp2_with (first
          | ((with_reducible refine atOp ⟨some 21, _, _, _, _, _⟩ ?_); refine wpList_load_row rfl 43 _ rfl (w.heap.size + 1) rfl 43 (yV (kbL xs)) (0, 0) _ HF.out.box Tryd.underlying43 rfl (info64 _ (kbL_len _)) ?_)
          | ((with_reducible refine atOp ⟨none, .store 43 _ _, _, _, _, _⟩ ?_); refine wpList_store_row rfl 43 (.tmp 2) (.tmp 21) rfl w.heap.size (yV (kbL xs)) rfl rfl 43 (yV (List.replicate 64 0)) HF.out.res (info64 _ (kbL_len _)) (by rw [yV_size, yV_size, kbL_len]; rfl) (yV_one _) ?_))
        refine bodyPost_ret (v := .agg (yV (kbL xs))) (results_cell_row Tryd.results22 _ _ w.heap.size 43 _ (0, 0) _ rfl (HF.out.res.row _) Tryd.underlying43 rfl (info64 _ (kbL_len _))) rfl ⟨rfl, bl_row _ HF.out.bel (Nat.le_refl _)⟩
  · have HLQ : Hid (xs.length ≤ 64) := Lib.hid (by rw [HQ.out]; omega)
    go_enter Tryd.func22, Tryd.ntmps22
    go_wp2_with fail
    go_loopw [6] (fun i wr => ∃ k : Nat, k ≤ q ∧ i = .int .i64 k ∧ Hid (KbA w (mix (kbL xs) (List.replicate 64 0) k) wr)) (fun i _ => q - (intOf i).toNat)
    case atStart => exact ⟨0, by omega, rfl, HS⟩
    case round =>
      clear HS
      obtain ⟨k, hk, rfl, HR⟩ := hrel
      by_cases hk2 : k < q
      · obtain ⟨x, hx⟩ : ∃ x, xs.getD k 0 = x := ⟨_, rfl⟩
        obtain ⟨g, off, rfl, hg, c1⟩ := HX.out.byte HQ.out hk2
        rw [hx] at c1
        replace c1 := (HR.out.bel.cell (p := ⟨g, off + k, none⟩) hg).trans c1
        have c2 := HR.out.box.at (i := k) (v := .int .u8 0) (yV_get (kb_hole (by omega)))
        have f2 := HR.out.box.free k
        have HN : Hid (KbA w (mix (kbL xs) (List.replicate 64 0) (k + 1)) (wr.setCell ⟨w.heap.size + 1, k, none⟩ (.int .u8 x))) := Lib.hid (kb_step HR.out (by omega) (by rw [kb_get_short HLQ.out (by rw [HQ.out]; exact hk2), hx]))
        have hk64 : (k : Int) < 64 := by omega
        clear hx
        go_wp2_with fail
        go_roundw
        case rel => exact ⟨k + 1, by omega, by go_num, HN⟩
        case measure => simp [intOf]; omega
      · have HF : Hid (KbA w (kbL xs) wr) := Lib.hid (by have := HR.out; rw [show k = q by omega, kb_short HQ.out (by omega)] at this; exact this)
        go_wp2_with (first
          | ((with_reducible refine atOp ⟨some 34, _, _, _, _, _⟩ ?_); refine wpList_load_row rfl 43 _ rfl (w.heap.size + 1) rfl 43 (yV (kbL xs)) (0, 0) _ HF.out.box Tryd.underlying43 rfl (info64 _ (kbL_len _)) ?_)
          | ((with_reducible refine atOp ⟨none, .store 43 _ _, _, _, _, _⟩ ?_); refine wpList_store_row rfl 43 (.tmp 2) (.tmp 34) rfl w.heap.size (yV (kbL xs)) rfl rfl 43 (yV (List.replicate 64 0)) HF.out.res (info64 _ (kbL_len _)) (by rw [yV_size, yV_size, kbL_len]; rfl) (yV_one _) ?_))
        refine bodyPost_ret (v := .agg (yV (kbL xs))) (results_cell_row Tryd.results22 _ _ w.heap.size 43 _ (0, 0) _ rfl (HF.out.res.row _) Tryd.underlying43 rfl (info64 _ (kbL_len _))) rfl ⟨rfl, bl_row _ HF.out.bel (Nat.le_refl _)⟩
end Go.Proofs.YtaeicjgkoofmpaaDoor
namespace Go.Proofs.YtaeicjgkoofmpaaDoor
open Go.RowKit
set_option linter.unusedVariables false

theorem ON.apartX {W : World} {B d : Nat} {v : Value} {xs : List Nat} {T : TypeId} {cs : Array Value} (h : ON W B v xs) (h1 : AR W d T cs) (hT : T ≠ 5) : v.ownBlock ≠ some d :=
  Lib.ownBlock_ne (T := T) (e := 5) h h1 hT
theorem AR.grownY {w w' : World} {g : Nat} {t : TypeId} {cs : Array Value} {row : Option Nat} (h : AR w g t cs) (hg : w.grownBy w' row) (hne : row ≠ some g) : AR w' g t cs := (hg.block g h.inside (fun e => hne e.symm)).trans h
/-- A row d, and bytes v of one's own beside it. -/
structure PdA (B d : Nat) (T : TypeId) (cs : Array Value) (w0 : World) (v : Value) (l : List Nat) (W : World) : Prop where
  row : AR W d T cs
  own : ON W B v l
  bel : Below w0.heap.size w0 W
  lo : w0.heap.size ≤ B
  inB : B ≤ W.heap.size
theorem PdA.step {B d : Nat} {T : TypeId} {cs : Array Value} {w0 W W' : World} {v : Value} {l : List Nat} (h : PdA B d T cs w0 v l W) (hb : Below W.heap.size W W') : PdA B d T cs w0 v l W' :=
  ⟨h.row.step hb, h.own.later hb, bl_call h.bel hb, h.lo, Nat.le_trans h.inB hb.size⟩
theorem PdA.append {B d : Nat} {T : TypeId} {cs : Array Value} {w0 W W' : World} {v v' : Value} {l l' : List Nat} (h : PdA B d T cs w0 v l W) (hT : T ≠ 5) (hn : ON W' B v' l') (hg : W.grownBy W' v.ownBlock) : PdA B d T cs w0 v' l' W' :=
  ⟨h.row.grownY hg (h.own.apartX h.row hT), hn, h.bel.grown hg h.bel.size (fun k e => Nat.le_trans h.lo (World.ownsRow.lt h.own k e).1), h.lo, Nat.le_trans h.inB hg.size⟩
theorem rn_one (W : World) (x : Nat) : RN (W.alloc (.cells #[.int .u8 x] 5)) (.slice (some ⟨W.heap.size, 0, none⟩) 1 1) [x] := (on_new W [x] 1 rfl (by omega)).rn
/-- What padded returns. -/
def Bytes (w : World) (xs : List Nat) (e : Ending) (w' : World) : Prop := ∃ v, e = .returned v ∧ RN w' v xs ∧ Below w.heap.size w w'

set_option maxRecDepth 20000 in
set_option maxHeartbeats 2000000 in
theorem padded_any (key xs : List Nat) (x : Nat) (vk v : Value) (w : World) (hk : RN w vk key) (hkb : BB key) (hkz : key.length ≤ 100000) (hv : RN w v xs) (hxz : xs.length ≤ 900000) (hx : x < 256) :
    Calls Tryd.prog 51 #[vk, .int .u8 x, v] w (Bytes w (xorL (kbL key) x ++ xs)) := by
  have HK := Lib.hid hk; have HKB := Lib.hid hkb; have HX := Lib.hid hv; have HXZ := Lib.hid hxz
  clear hk hkb hv hxz
  go_enter Tryd.func51, Tryd.ntmps51
  go_wp2_with (first
    | (go_at_call 22; refine (rkblock_any key _ _ HK.out HKB.out hkz).mono ?_; rintro e w1 ⟨rfl, hb⟩; have B1 := Lib.hid hb; clear hb)
    | ((with_reducible refine atOp ⟨none, .store 43 _ _, _, _, _, _⟩ ?_); refine wpList_store_row rfl 43 (.tmp 7) (.tmp 11) rfl w1.heap.size (yV (kbL key)) rfl rfl 43 (yV (List.replicate 64 0)) (AR.made _ _ _) (info64 _ (kbL_len _)) (by rw [yV_size, yV_size, kbL_len]; rfl) (yV_one _) ?_; rw [World.setRow_alloc_new]))
  have HI : Hid (PdA w.heap.size w1.heap.size 43 (yV (kbL key)) w (.slice none 0 0) [] (w1.alloc (.cells (yV (kbL key)) 43))) := Lib.hid ⟨AR.made _ _ _, ON.nil _ _ (by have := B1.out.size; simp; omega), bl_alloc _ B1.out, Nat.le_refl _, by have := B1.out.size; simp; omega⟩
  obtain ⟨d, hd⟩ : ∃ d, w1.heap.size = d := ⟨_, rfl⟩
  obtain ⟨kb, hkb⟩ : ∃ kb, kbL key = kb := ⟨_, rfl⟩
  rw [hd, hkb] at HI
  rw [hd, hkb]
  have HL : Hid (kb.length = 64 ∧ BB kb) := Lib.hid (by rw [← hkb]; exact ⟨kbL_len _, kbL_bb HKB.out⟩)
  have HKE := Lib.hid hkb
  clear hd hkb B1 HK HKB
  go_loopw [8, 9] (fun v i wr => ∃ k : Nat, k ≤ 64 ∧ i = .int .i64 k ∧ Hid (PdA w.heap.size d 43 (yV kb) w v ((xorL kb x).take k) wr)) (fun _ i _ => 64 - (intOf i).toNat)
  case atStart => exact ⟨0, by omega, rfl, HI⟩
  case round =>
    clear HI
    obtain ⟨k, hk, rfl, HR⟩ := hrel
    obtain ⟨Av, cv, hva⟩ := HR.out.own.len
    subst hva
    have htl : ((xorL kb x).take k).length = k := by rw [List.length_take, xorL_len, HL.out.1]; omega
    rw [htl] at HR ⊢
    have HTL := Lib.hid htl; clear htl
    by_cases hlt : k < 64
    · obtain ⟨b, hb⟩ : ∃ b, kb.getD k 0 = b := ⟨_, rfl⟩
      have hb8 : b < 256 := by rw [← hb]; exact HL.out.2.get k
      have c1 := HR.out.row.at (i := k) (v := .int .u8 b) (yV_get (by rw [← hb]; exact getD_at (by rw [HL.out.1]; exact hlt)))
      obtain ⟨z, hz⟩ : ∃ z, (b ^^^ x) = z := ⟨_, rfl⟩
      have he : bits .xor .u8 (b : Int) (x : Int) = (z : Int) := by rw [u8_xor_nat _ _ hb8 hx, hz]
      have HN : Hid ((xorL kb x).take (k + 1) = (xorL kb x).take k ++ [z]) := Lib.hid (take_snoc (by rw [xorL_len, HL.out.1]; exact hlt) (by rw [xorL_get x (by rw [HL.out.1]; exact hlt), hb, hz]))
      have hk64 : (k : Int) < 64 := by omega
      clear hb hz
      go_wp2_with (at_builtin; have P1 := Lib.hid (HR.out.step (bl_self wr (.cells #[.int .u8 z] 5))); refine wpList_append_on _ rfl _ _ rfl w.heap.size _ (.slice (some ⟨wr.heap.size, 0, none⟩) 1 1) ((xorL kb x).take k) [z] rfl P1.out.own rfl (rn_one wr z) P1.out.inB (by rw [HTL.out]; simp; omega) ?_; intro v2 w2 hn hg; rw [← HN.out] at hn; have P2 := Lib.hid (P1.out.append (by decide) hn hg); clear hn hg P1)
      go_roundw
      case rel => exact ⟨k + 1, by omega, by go_num, P2⟩
      case measure => simp [intOf]; omega
    · have HF : Hid (PdA w.heap.size d 43 (yV kb) w (.slice Av k cv) (xorL kb x) wr) := Lib.hid (by have := HR.out; rw [List.take_of_length_le (by rw [xorL_len, HL.out.1]; omega)] at this; exact this)
      go_wp2_with (at_builtin; refine wpList_append_on _ rfl _ _ rfl w.heap.size _ v (xorL kb x) xs rfl HF.out.own rfl (HX.out.later HF.out.bel) HF.out.inB (by rw [xorL_len, HL.out.1]; have := HXZ.out; omega) ?_; intro v2 w2 hn hg; have P2 := Lib.hid (HF.out.append (by decide) hn hg); clear hn hg)
      go_ret
      exact ⟨v2, rfl, by rw [HKE.out]; exact P2.out.own.rn, P2.out.bel⟩
end Go.Proofs.YtaeicjgkoofmpaaDoor
namespace Go.Proofs.YtaeicjgkoofmpaaDoor
open Go.RowKit
set_option linter.unusedVariables false

set_option maxRecDepth 20000 in
set_option maxHeartbeats 2000000 in
theorem rtag_any (key xs : List Nat) (vk v : Value) (w : World) (hk : RN w vk key) (hkb : BB key) (hkz : key.length ≤ 90000) (hv : RN w v xs) (hb : BB xs) (hsz : xs.length ≤ 90000) :
    Calls Tryd.prog 24 #[vk, v] w (Gives w (.agg (yV (tagL key xs)))) := by
  have hb1 := bl_self w (.cells (yV (List.replicate 32 0)) 36)
  have HK := Lib.hid (hk.later hb1); have HKB := Lib.hid hkb; have HX := Lib.hid (hv.later hb1); have HBB := Lib.hid hb; have HB1 := Lib.hid hb1; have HXZ := Lib.hid hsz
  have HRES : Hid (AR (w.alloc (.cells (yV (List.replicate 32 0)) 36)) w.heap.size 36 (yV (List.replicate 32 0))) := Lib.hid (AR.made _ _ _)
  clear hk hkb hv hb hb1 hsz
  have tk : True := trivial; have ts : True := trivial
  go_enter Tryd.func24, Tryd.ntmps24
  go_wp2_with (first
    | (go_at_call 51; refine (padded_any key xs 54 _ _ _ HK.out HKB.out (by omega) HX.out (by have := HXZ.out; omega) (by omega)).mono ?_; rintro e w2 ⟨v2, rfl, hr, hb⟩; have R2 := Lib.hid hr; have B2 := Lib.hid (bl_call HB1.out hb); have S2 := Lib.hid (HRES.out.step hb); have K2 := Lib.hid (HK.out.later hb); clear hr hb)
    | (go_at_call 19; refine (rsum_any (ipL key ++ xs) _ _ R2.out ((ipL_bb HKB.out).app HBB.out) (by rw [List.length_append, ipL_len]; have := HXZ.out; omega)).mono ?_; rintro e w3 ⟨rfl, hb⟩; have B3 := Lib.hid (bl_call B2.out hb); have S3 := Lib.hid (S2.out.step hb); have K3 := Lib.hid (K2.out.later hb); clear hb)
    | ((with_reducible refine atOp ⟨none, .store 36 _ _, _, _, _, _⟩ ?_); refine wpList_store_row rfl 36 (.tmp 5) (.tmp 11) rfl w3.heap.size (yV (shaL (ipL key ++ xs))) rfl rfl 36 (yV (List.replicate 32 0)) (AR.made _ _ _) (info32 _ (shaL_len _)) (by rw [yV_size, yV_size, shaL_len]; rfl) (yV_one _) ?_; rw [World.setRow_alloc_new]))
  obtain ⟨D, hD⟩ : ∃ D, shaL (ipL key ++ xs) = D := ⟨_, rfl⟩
  have HDL : Hid (D.length = 32 ∧ BB D ∧ tagL key xs = shaL (xorL (kbL key) 92 ++ D)) := Lib.hid (by rw [← hD]; exact ⟨shaL_len _, shaL_bb _, rfl⟩)
  rw [hD]
  obtain ⟨d, hd⟩ : ∃ d, w3.heap.size = d := ⟨_, rfl⟩
  obtain ⟨w4, hw4⟩ : ∃ w4, w3.alloc (.cells (yV D) 36) = w4 := ⟨_, rfl⟩
  have HI : Hid (PdA w4.heap.size d 36 (yV D) w4 (.slice none 0 0) [] w4 ) := Lib.hid (by rw [← hw4, ← hd]; exact ⟨AR.made _ _ _, ON.nil _ _ (Nat.le_refl _), Below.refl _ _, Nat.le_refl _, Nat.le_refl _⟩)
  have B4 : Hid (Below w.heap.size w w4) := Lib.hid (by rw [← hw4]; exact bl_alloc _ B3.out)
  have S4 : Hid (AR w4 w.heap.size 36 (yV (List.replicate 32 0))) := Lib.hid (by rw [← hw4]; exact S3.out.more _)
  have K4 : Hid (RN w4 vk key) := Lib.hid (by rw [← hw4]; exact K3.out.later (bl_self _ _))
  rw [hw4, hd]
  clear hd hw4 hD B3 S3 K3 B2 S2 K2 R2 HK HX HRES HB1
  go_loopw [6, 7] (fun v i wr => ∃ k : Nat, k ≤ 32 ∧ i = .int .i64 k ∧ Hid (PdA w4.heap.size d 36 (yV D) w4 v (D.take k) wr)) (fun _ i _ => 32 - (intOf i).toNat)
  case atStart => exact ⟨0, by omega, rfl, HI⟩
  case round =>
    clear HI
    obtain ⟨k, hk, rfl, HR⟩ := hrel
    obtain ⟨Av, cv, hva⟩ := HR.out.own.len
    subst hva
    have htl : (D.take k).length = k := by rw [List.length_take, HDL.out.1]; omega
    rw [htl] at HR ⊢
    have HTL := Lib.hid htl; clear htl
    by_cases hlt : k < 32
    · obtain ⟨z, hz⟩ : ∃ z, D.getD k 0 = z := ⟨_, rfl⟩
      have c1 := HR.out.row.at (i := k) (v := .int .u8 z) (yV_get (by rw [← hz]; exact getD_at (by rw [HDL.out.1]; exact hlt)))
      have HN : Hid (D.take (k + 1) = D.take k ++ [z]) := Lib.hid (take_snoc (by rw [HDL.out.1]; exact hlt) hz)
      have hk32 : (k : Int) < 32 := by omega
      clear hz
      go_wp2_with (at_builtin; have P1 := Lib.hid (HR.out.step (bl_self wr (.cells #[.int .u8 z] 5))); refine wpList_append_on _ rfl _ _ rfl w4.heap.size _ (.slice (some ⟨wr.heap.size, 0, none⟩) 1 1) (D.take k) [z] rfl P1.out.own rfl (rn_one wr z) P1.out.inB (by rw [HTL.out]; simp; omega) ?_; intro v2 w2 hn hg; rw [← HN.out] at hn; have P2 := Lib.hid (P1.out.append (by decide) hn hg); clear hn hg P1)
      go_roundw
      case rel => exact ⟨k + 1, by omega, by go_num, P2⟩
      case measure => simp [intOf]; omega
    · have HF : Hid (PdA w4.heap.size d 36 (yV D) w4 (.slice Av k cv) D wr) := Lib.hid (by have := HR.out; rw [List.take_of_length_le (by rw [HDL.out.1]; omega)] at this; exact this)
      go_wp2_with (first
        | (go_at_call 51; refine (padded_any key D 92 _ _ _ (K4.out.later HF.out.bel) HKB.out (by omega) HF.out.own.rn (by rw [HDL.out.1]; omega) (by omega)).mono ?_; rintro e w5 ⟨v5, rfl, hr, hb⟩; have R5 := Lib.hid hr; have B5 := Lib.hid (bl_call (bl_call B4.out HF.out.bel) hb); have S5 := Lib.hid ((S4.out.step HF.out.bel).step hb); clear hr hb)
        | (go_at_call 19; refine (rsum_any (xorL (kbL key) 92 ++ D) _ _ R5.out ((opL_bb HKB.out).app HDL.out.2.1) (by rw [List.length_append, xorL_len, kbL_len, HDL.out.1]; omega)).mono ?_; rintro e w6 ⟨rfl, hb⟩; have B6 := Lib.hid (bl_call B5.out hb); have S6 := Lib.hid (S5.out.step hb); clear hb; rw [← HDL.out.2.2])
        | ((with_reducible refine atOp ⟨none, .store 36 _ _, _, _, _, _⟩ ?_); refine wpList_store_row rfl 36 (.tmp 4) (.tmp 25) rfl w.heap.size (yV (tagL key xs)) rfl rfl 36 (yV (List.replicate 32 0)) S6.out (info32 _ (tagL_len _ _)) (by rw [yV_size, yV_size, tagL_len]; rfl) (yV_one _) ?_))
      refine bodyPost_ret (v := .agg (yV (tagL key xs))) (results_cell_row Tryd.results24 _ _ w.heap.size 36 _ (0, 0) _ rfl (S6.out.row _) Tryd.underlying36 rfl (info32 _ (tagL_len _ _))) rfl ⟨rfl, bl_row _ B6.out (Nat.le_refl _)⟩
end Go.Proofs.YtaeicjgkoofmpaaDoor
namespace Go.Proofs.YtaeicjgkoofmpaaDoor
open Go.RowKit
set_option linter.unusedVariables false

/-- Whether two strings of bytes have one length, and their first k bytes are the same. -/
def eqK (xs ys : List Nat) (k : Nat) : Bool := decide (xs.length = ys.length) && decide (difL xs ys k = 0)
theorem eqK_zero (xs ys : List Nat) : eqK xs ys 0 = decide (xs.length = ys.length) := by unfold eqK; simp [difL]
theorem eqK_step {xs ys : List Nat} {k x y : Nat} (hx : xs.getD k 0 = x) (hy : ys.getD k 0 = y) : eqK xs ys (k + 1) = (eqK xs ys k && decide (x = y)) := by
  subst hx hy
  unfold eqK
  rw [Bool.and_assoc]
  congr 1
  show decide (difL xs ys k ||| _ = 0) = _
  rw [Bool.eq_iff_iff]
  simp only [decide_eq_true_eq, Bool.and_eq_true]
  rw [or_zero, xor_zero]
theorem eqK_full {xs ys : List Nat} : eqK xs ys (max xs.length ys.length) = sameN xs ys := by
  rw [Bool.eq_iff_iff]
  unfold eqK sameN
  simp only [decide_eq_true_eq, Bool.and_eq_true]
  rw [← allD_zero]
  unfold allD
  rw [or_zero, xor_zero]
  exact and_comm

set_option maxRecDepth 20000 in
set_option maxHeartbeats 2000000 in
theorem requal_any (xs ys : List Nat) (n : Nat) (va vb : Value) (w : World) (ha : RN w va xs) (hb : RN w vb ys) (hx : BB xs) (hy : BB ys) (sx : xs.length ≤ 1000000) (sy : ys.length ≤ 1000000) (hn : max xs.length ys.length = n) :
    Calls Tryd.prog 26 #[va, vb] w fun e w' => e = .returned (.tuple #[.bool (sameN xs ys), .int .i64 (n : Int)]) ∧ w = w' := by
  obtain ⟨A, c, rfl⟩ := ha.len
  obtain ⟨B, d, rfl⟩ := hb.len
  obtain ⟨p, hp⟩ : ∃ p, xs.length = p := ⟨_, rfl⟩
  obtain ⟨q, hq⟩ : ∃ q, ys.length = q := ⟨_, rfl⟩
  have HF : Hid (eqK xs ys n = sameN xs ys) := Lib.hid (by rw [← hn]; exact eqK_full)
  have HZ : Hid (eqK xs ys 0 = ((p : Int) == q)) := Lib.hid (by rw [eqK_zero, hp, hq, Bool.eq_iff_iff]; simp; omega)
  rw [hp] at ha sx ⊢
  rw [hq] at hb sy ⊢
  rw [hp, hq] at hn
  have hnp : p ≤ n ∧ q ≤ n ∧ (n = p ∨ n = q) := by omega
  have hnm : max (p : Int) (q : Int) = n := by omega
  have HA := Lib.hid ha; have HB := Lib.hid hb; have HP := Lib.hid hp; have HQ := Lib.hid hq
  clear ha hb hx hy hp hq hn
  obtain ⟨hn1, hn2, hn3⟩ := hnp
  go_enter Tryd.func26, Tryd.ntmps26
  go_wp2_with fail
  go_loop [7, 8] (fun s i => ∃ k : Nat, k ≤ n ∧ i = .int .i64 k ∧ s = .bool (eqK xs ys k)) (fun _ i => n - (intOf i).toNat)
  case atStart => exact ⟨0, by omega, rfl, by rw [HZ.out]⟩
  case round =>
    obtain ⟨k, hk, rfl, rfl⟩ := hrel
    by_cases hlt : k < n
    · obtain ⟨x, hx⟩ : ∃ x, xs.getD k 0 = x := ⟨_, rfl⟩
      obtain ⟨y, hy⟩ : ∃ y, ys.getD k 0 = y := ⟨_, rfl⟩
      have HST := Lib.hid (eqK_step hx hy)
      obtain ⟨b, hb⟩ : ∃ b, eqK xs ys k = b := ⟨_, rfl⟩
      rw [hb] at HST ⊢
      have HXV := Lib.hid hx; have HYV := Lib.hid hy
      clear hb hx hy
      by_cases h1 : k < p
      · by_cases h2 : k < q
        · obtain ⟨g1, o1, rfl, hg1, c1⟩ := HA.out.byte HP.out h1
          rw [HXV.out] at c1
          obtain ⟨g2, o2, rfl, hg2, c2⟩ := HB.out.byte HQ.out h2
          rw [HYV.out] at c2
          cases b with
          | true =>
            go_wp2_with fail
            go_round
            case rel => exact ⟨k + 1, by omega, by go_num, by rw [HST.out]; first | (simp; done) | (simp; rw [Bool.eq_iff_iff]; simp; try omega)⟩
            case measure => simp [intOf]; omega
          | false =>
            go_wp2_with fail
            go_round
            case rel => exact ⟨k + 1, by omega, by go_num, by rw [HST.out]; first | (simp; done) | (simp; rw [Bool.eq_iff_iff]; simp; try omega)⟩
            case measure => simp [intOf]; omega
        · obtain ⟨g1, o1, rfl, hg1, c1⟩ := HA.out.byte HP.out h1
          rw [HXV.out] at c1
          obtain rfl : y = 0 := by rw [← HYV.out]; exact getD_out (by rw [HQ.out]; omega)
          cases b with
          | true =>
            go_wp2_with fail
            go_round
            case rel => exact ⟨k + 1, by omega, by go_num, by rw [HST.out]; first | (simp; done) | (simp; rw [Bool.eq_iff_iff]; simp; try omega)⟩
            case measure => simp [intOf]; omega
          | false =>
            go_wp2_with fail
            go_round
            case rel => exact ⟨k + 1, by omega, by go_num, by rw [HST.out]; first | (simp; done) | (simp; rw [Bool.eq_iff_iff]; simp; try omega)⟩
            case measure => simp [intOf]; omega
      · have h2 : k < q := by omega
        obtain rfl : x = 0 := by rw [← HXV.out]; exact getD_out (by rw [HP.out]; omega)
        obtain ⟨g2, o2, rfl, hg2, c2⟩ := HB.out.byte HQ.out h2
        rw [HYV.out] at c2
        cases b with
        | true =>
          go_wp2_with fail
          go_round
          case rel => exact ⟨k + 1, by omega, by go_num, by rw [HST.out]; first | (simp; done) | (simp; rw [Bool.eq_iff_iff]; simp; try omega)⟩
          case measure => simp [intOf]; omega
        | false =>
          go_wp2_with fail
          go_round
          case rel => exact ⟨k + 1, by omega, by go_num, by rw [HST.out]; first | (simp; done) | (simp; rw [Bool.eq_iff_iff]; simp; try omega)⟩
          case measure => simp [intOf]; omega
    · have HE : Hid (eqK xs ys k = sameN xs ys) := Lib.hid (by rw [← HF.out, show k = n by omega])
      go_wp2_with fail
      go_ret2
      rw [HE.out]
      exact ⟨rfl, rfl⟩
end Go.Proofs.YtaeicjgkoofmpaaDoor
namespace Go.Proofs.YtaeicjgkoofmpaaDoor
open Go.RowKit
set_option linter.unusedVariables false

theorem same_len {d tag : List Nat} (h : sameN d tag = true) : tag.length = d.length := by unfold sameN at h; rw [of_decide_eq_true h]
theorem authI_len {d tag : List Nat} (h : tag.length ≠ d.length) : authI d tag = 12 := by
  apply authI_no
  cases hs : sameN d tag with
  | false => rfl
  | true => exact absurd (same_len hs) h
theorem authI_byte {d tag : List Nat} {k : Nat} (h : d.getD k 0 ≠ tag.getD k 0) : authI d tag = 12 := by
  apply authI_no
  cases hs : sameN d tag with
  | false => rfl
  | true => unfold sameN at hs; rw [of_decide_eq_true hs] at h; exact absurd rfl h
theorem authI_all {d tag : List Nat} (hl : tag.length = d.length) (h : ∀ i, i < d.length → d.getD i 0 = tag.getD i 0) : authI d tag = 0 := by
  apply authI_yes
  apply sameN_true
  apply List.ext_getElem hl.symm
  intro i hi hj
  have := h i hi
  rwa [List.getD_eq_getElem?_getD, List.getD_eq_getElem?_getD, List.getElem?_eq_getElem hi, List.getElem?_eq_getElem hj] at this

set_option maxRecDepth 20000 in
set_option maxHeartbeats 2000000 in
theorem rverify_any (key xs tag : List Nat) (vk v vt : Value) (w : World) (hk : RN w vk key) (hkb : BB key) (hkz : key.length ≤ 90000) (hv : RN w v xs) (hb : BB xs) (hsz : xs.length ≤ 90000) (ht : RN w vt tag) (htz : tag.length ≤ 1000000) :
    Calls Tryd.prog 28 #[vk, v, vt] w (Gives w (.int .i64 (authI (tagL key xs) tag))) := by
  obtain ⟨A, c, rfl⟩ := ht.len
  obtain ⟨q, hq⟩ : ∃ q, tag.length = q := ⟨_, rfl⟩
  rw [hq] at ht htz ⊢
  have HK := Lib.hid hk; have HKB := Lib.hid hkb; have HX := Lib.hid hv; have HBB := Lib.hid hb; have HT := Lib.hid ht; have HQ := Lib.hid hq
  clear hk hkb hv hb ht hq
  go_enter Tryd.func28, Tryd.ntmps28
  go_upto_region 2 with (first
    | (go_at_call 24; refine (rtag_any key xs _ _ _ HK.out HKB.out hkz HX.out HBB.out hsz).mono ?_; rintro e w1 ⟨rfl, hb⟩; have B1 := Lib.hid hb; clear hb)
    | ((with_reducible refine atOp ⟨none, .store 36 _ _, _, _, _, _⟩ ?_); refine wpList_store_row rfl 36 (.tmp 7) (.tmp 11) rfl w1.heap.size (yV (tagL key xs)) rfl rfl 36 (yV (List.replicate 32 0)) (AR.made _ _ _) (info32 _ (tagL_len _ _)) (by rw [yV_size, yV_size, tagL_len]; rfl) (yV_one _) ?_; rw [World.setRow_alloc_new]))
  obtain ⟨D, hD⟩ : ∃ D, tagL key xs = D := ⟨_, rfl⟩
  have HDL : Hid (D.length = 32) := Lib.hid (by rw [← hD]; exact tagL_len _ _)
  have HDB : Hid (BB D) := Lib.hid (by rw [← hD]; exact tagL_bb _ _)
  obtain ⟨d, hd⟩ : ∃ d, w1.heap.size = d := ⟨_, rfl⟩
  obtain ⟨w4, hw4⟩ : ∃ w4, w1.alloc (.cells (yV (tagL key xs)) 36) = w4 := ⟨_, rfl⟩
  have HI : Hid (AR w4 d 36 (yV D) ∧ Below w.heap.size w w4) := Lib.hid (by rw [← hw4, ← hd, ← hD]; exact ⟨AR.made _ _ _, bl_alloc _ B1.out⟩)
  rw [hw4, hd, hD]
  have HDE := Lib.hid hD
  clear hd hw4 hD B1 HX HK HKB HBB
  by_cases h32 : q = 32
  · subst h32
    go_wp2_with fail
    go_loopw [8] (fun i wr => ∃ k : Nat, k ≤ 32 ∧ i = .int .i64 k ∧ Hid (∀ i, i < k → D.getD i 0 = tag.getD i 0) ∧ Hid (AR wr d 36 (yV D) ∧ Below w.heap.size w wr)) (fun i _ => 32 - (intOf i).toNat)
    case atStart => exact ⟨0, by omega, rfl, Lib.hid (fun i hi => by omega), HI⟩
    case round =>
      clear HI
      obtain ⟨k, hk, rfl, HE, HR⟩ := hrel
      by_cases hlt : k < 32
      · obtain ⟨x, hx⟩ : ∃ x, D.getD k 0 = x := ⟨_, rfl⟩
        obtain ⟨y, hy⟩ : ∃ y, tag.getD k 0 = y := ⟨_, rfl⟩
        have c1 := HR.out.1.at (i := k) (v := .int .u8 x) (yV_get (by rw [← hx]; exact getD_at (by rw [HDL.out]; exact hlt)))
        obtain ⟨g2, o2, rfl, hg2, c2⟩ := HT.out.byte HQ.out hlt
        rw [hy] at c2
        replace c2 := (HR.out.2.cell (p := ⟨g2, o2 + k, none⟩) hg2).trans c2
        have hk32 : (k : Int) < 32 := by omega
        have HXV := Lib.hid hx; have HYV := Lib.hid hy
        clear hx hy
        by_cases hxy : x = y
        · subst hxy
          go_wp2_with fail
          go_quiet (fail)
          go_wp2_with fail
          go_roundw
          case rel => exact ⟨k + 1, by omega, by go_num, Lib.hid (fun i hi => by
            rcases Nat.lt_or_ge i k with h | h
            · exact HE.out i h
            · obtain rfl : i = k := by omega
              rw [HXV.out, HYV.out]), Lib.hid ⟨HR.out.1.step (bl_drewN _ (Below.refl _ _)), bl_drewN _ HR.out.2⟩⟩
          case measure => simp [intOf]; omega
        · have hne : ((x : Int) != (y : Int)) = true := by simp; omega
          go_wp2_with fail
          go_quiet (fail)
          go_wp2_with fail
          go_ret
          rw [HDE.out, authI_byte (k := k) (by rw [HXV.out, HYV.out]; exact hxy)]
          exact ⟨rfl, bl_drewN _ HR.out.2⟩
      · have HA : Hid (authI D tag = 0) := Lib.hid (authI_all (by rw [HQ.out, HDL.out]) (fun i hi => HE.out i (by rw [HDL.out] at hi; omega)))
        go_wp2_with fail
        go_ret
        rw [HDE.out, HA.out]
        exact ⟨rfl, HR.out.2⟩
  · have hne : ((q : Int) != 32) = true := by simp; omega
    have HA : Hid (authI D tag = 12) := Lib.hid (authI_len (by rw [HQ.out, HDL.out]; exact h32))
    go_wp2_with fail
    go_ret
    rw [HDE.out, HA.out]
    exact ⟨rfl, HI.out.2⟩
end Go.Proofs.YtaeicjgkoofmpaaDoor
