/- The law HmacAccepts: the walk. -/
import Derived.Test.YtaeicjgkoofmpaaDoorHmacPartsWalk
import Derived.Deep.CutBlock
import Derived.Lib.SmallJoins
namespace Go.Proofs.YtaeicjgkoofmpaaDoor
open Go.RowKit
set_option linter.unusedVariables false

theorem RN.takeH {w : World} {A : Option Addr} {n c k : Nat} {xs : List Nat} (h : RN w (.slice A n c) xs) (hn : xs.length = n) (h0n : 0 < n) (hk : k ≤ n) : RN w (.slice A k c) (xs.take k) := by
  rcases h with ⟨A', c', e, rfl, hA⟩ | ⟨g, off, c', e, hg, h0, h1, h2, h3⟩
  · simp at hn; omega
  · simp only [Value.slice.injEq] at e
    obtain ⟨rfl, hn', rfl⟩ := e
    rcases Nat.eq_zero_or_pos k with h0k | h0k
    · subst h0k
      exact .inl ⟨_, _, rfl, by simp, fun h => by cases h⟩
    · refine .inr ⟨g, off, c, ?_, hg, by rw [List.length_take]; omega, by rw [List.length_take]; omega, by omega, fun i hi => ?_⟩
      · rw [List.length_take, hn, Nat.min_eq_left hk]
      · rw [List.length_take] at hi
        rw [h3 i (by omega), List.getD_eq_getElem?_getD, List.getD_eq_getElem?_getD, List.getElem?_take, if_pos (by omega)]
theorem on_cap {w : World} {B n c : Nat} {A : Option Addr} {l : List Nat} (h : ON w B (.slice A n c) l) : n ≤ c := by
  have h' : w.ownsRow B 5 1 (.slice A n c) l.length (yL l) := h
  rcases h'.2 with ⟨e, h0⟩ | ⟨g, c', cur, e, hb, hg, hc, _⟩
  · simp only [Value.slice.injEq] at e; omega
  · simp only [Value.slice.injEq] at e; omega
def AcR (w : World) (T : List Nat) (s8 s9 : Value) (W : World) : Prop := ∃ (tag : List Nat) (z : Int), RN W s8 tag ∧ BB tag ∧ tag.length ≤ 1000 ∧ s9 = .int .i64 z ∧ authI T tag = z ∧ Below w.heap.size w W
set_option maxRecDepth 100000 in
set_option maxHeartbeats 8000000 in
theorem haccepts_any (v0 v1 : Value) (key xs : List Nat) (a b : Nat) (w : World) (hv0 : RN w v0 key) (hbv0 : BB key) (hv1 : RN w v1 xs) (hbv1 : BB xs) (ha : a < 256) (hb : b < 256) (hV : VK w) :
    Calls Tryd.prog 7 #[v0, v1, .agg #[.int .u8 a, .int .u8 b]] w (Gives w (.bool true)) := by
  obtain ⟨A, c, rfl⟩ := hv0.len
  obtain ⟨B, e0, rfl⟩ := hv1.len
  obtain ⟨p, hp⟩ : ∃ p, key.length = p := ⟨_, rfl⟩
  rw [hp] at hv0 ⊢
  have Rv0 := Lib.hid hv0; have Bv0 := Lib.hid hbv0; have Lv0 := Lib.hid hp
  obtain ⟨q, hq⟩ : ∃ q, xs.length = q := ⟨_, rfl⟩
  rw [hq] at hv1 ⊢
  have Rv1 := Lib.hid hv1; have Bv1 := Lib.hid hbv1; have Lv1 := Lib.hid hq
  clear hv0 hbv0 hp hv1 hbv1 hq
  have HV := Lib.hid hV; clear hV
  by_cases h1 : p ≤ 300
  · by_cases h2 : q ≤ 300
    · obtain ⟨T, hT⟩ : ∃ T, tagL key xs = T := ⟨_, rfl⟩
      have HT := Lib.hid hT
      have HTL : Hid (T.length = 32) := Lib.hid (by rw [← hT]; exact tagL_len _ _)
      have HTB : Hid (BB T) := Lib.hid (by rw [← hT]; exact tagL_bb _ _)
      clear hT
      obtain ⟨r, hr4⟩ : ∃ r, a % 4 = r := ⟨_, rfl⟩
      have hri : (a : Int) % 4 = (r : Int) := by omega
      have hr3 : r < 4 := by omega
      clear hr4
      go_enter Tryd.func7, Tryd.ntmps7
      go_upto_block 0 with (first
        | (go_at_call 23; refine (htag_any key xs _ _ _ (Rv0.out.later (bl_self w _)) Bv0.out (by rw [Lv0.out]; omega) (Rv1.out.later (bl_self w _)) Bv1.out (by rw [Lv1.out]; omega) (HV.out.below (bl_self w _))).mono ?_; rintro e w1 ⟨rfl, hb⟩; have B1 := Lib.hid (bl_call (bl_self w _) hb); have C1 := Lib.hid ((AR.made w 52 #[.int .u8 a, .int .u8 b]).step hb); clear hb; rw [HT.out])
        | ((with_reducible refine atOp ⟨none, .store 36 (.tmp 7) _, _, _, _, _⟩ ?_); refine wpList_store_row rfl 36 (.tmp 7) (.tmp 23) rfl w1.heap.size (yV T) rfl rfl 36 (yV (List.replicate 32 0)) (AR.made _ _ _) (info32 T HTL.out) (by rw [yV_size, yV_size, HTL.out]; rfl) (yV_one _) ?_; rw [World.setRow_alloc_new]; have D2 : Hid (AR (w1.alloc (.cells (yV T) 36)) w1.heap.size 36 (yV T)) := Lib.hid (AR.made _ _ _); have B2 := Lib.hid (bl_alloc (.cells (yV T) 36) B1.out); have C2 := Lib.hid (C1.out.more (.cells (yV T) 36)); generalize w1.alloc (.cells (yV T) 36) = w2 at D2 B2 C2 ⊢; generalize w1.heap.size = d at D2 ⊢)
        | (at_builtin; refine wpList_append_on _ rfl _ _ rfl w2.heap.size _ (.slice (some ⟨d, 0, none⟩) 32 32) [] T rfl (on_new w2 [] 0 rfl (by omega)) rfl ((RN.whole D2.out HTL.out (by omega) (by omega)).later (bl_self w2 _)) (by simp) (by have := HTL.out; simp; omega) ?_; intro v3 w3 hn hg; rw [List.nil_append] at hn; have O3 : Hid (ON w3 w2.heap.size v3 T) := Lib.hid hn; have B3 : Hid (Below w.heap.size w w3) := Lib.hid ((bl_alloc _ B2.out).grown hg (by have := B2.out.size; simp; omega) (fun k e => by cases e; exact B2.out.size)); have C3 : Hid (AR w3 w.heap.size 52 #[.int .u8 a, .int .u8 b] ∧ w.heap.size < w2.heap.size) := Lib.hid ⟨(C2.out.more _).grownY hg (by intro e; have h1 := Option.some.inj e; have h2 := C2.out.inside; simp at h1; omega), C2.out.inside⟩; have N3 : Hid (w2.heap.size ≤ w3.heap.size) := Lib.hid (by have := hg.size; simp at this; omega); clear hn hg; obtain ⟨A3, c3, rfl⟩ := O3.out.len; rw [HTL.out] at O3 ⊢; have f0 := C3.out.1.at (i := 0) (v := .int .u8 a) rfl; have f1 := C3.out.1.at (i := 1) (v := .int .u8 b) rfl))
      rw [hri]
      go_cut [8, 9] (fun s8 s9 wc => Hid (AcR w T s8 s9 wc))
      case first =>
        clear hri
        have hr : r = 0 ∨ r = 1 ∨ r = 2 ∨ r = 3 := by omega
        rcases hr with hr | hr | hr | hr
        · have b0 : ((r : Int) == 0) = true := by simp; omega
          clear hr hr3
          go_wp2_with fail
          go_meet
          exact Lib.hid ⟨T, 0, O3.out.rn, HTB.out, by rw [HTL.out]; omega, rfl, authI_yes (sameN_true rfl), B3.out⟩
        · have b0 : ((r : Int) == 0) = false := by simp; omega
          have b1 : ((r : Int) == 1) = true := by simp; omega
          clear hr hr3
          obtain ⟨i, hib⟩ : ∃ i, b / 8 = i := ⟨_, rfl⟩
          obtain ⟨j, hjb⟩ : ∃ j, b % 8 = j := ⟨_, rfl⟩
          have e1 : (b : Int) / 8 = (i : Int) := by omega
          have e2 : (b : Int).tmod 8 = (j : Int) := by rw [Int.tmod_eq_emod_of_nonneg (by omega)]; omega
          have i32 : i < 32 := by omega
          have i32i : (i : Int) < 32 := by omega
          have j8 : j < 8 := by omega
          have e3 : IntKind.u8.wrap (i : Int) = (i : Int) := by rw [IntKind.wrap_u8]; omega
          have e4 : IntKind.u8.wrap (j : Int) = (j : Int) := by rw [IntKind.wrap_u8]; omega
          obtain ⟨gm, rfl, hgm, cm, fm⟩ := O3.out.cell HTL.out i32
          obtain ⟨x, hx⟩ : ∃ x, T.getD i 0 = x := ⟨_, rfl⟩
          rw [hx] at cm
          have hx8 : x < 256 := by rw [← hx]; exact HTB.out.get i
          have HXV := Lib.hid hx
          obtain ⟨z, hz⟩ : ∃ z, 2 ^ j = z := ⟨_, rfl⟩
          obtain ⟨y, hy⟩ : ∃ y, (x ^^^ z) = y := ⟨_, rfl⟩
          have hz8 : z < 256 := by rw [← hz]; exact Nat.lt_of_lt_of_le (Nat.pow_lt_pow_right (by omega) j8) (by decide)
          have hz0 : 0 < z := by rw [← hz]; exact Nat.pow_pos (by omega)
          have he : bits .xor .u8 (x : Int) (IntKind.u8.wrap (2 ^ j)) = (y : Int) := by
            rw [show ((2 : Int) ^ j) = (z : Int) by rw [← hz]; push_cast; rfl, IntKind.wrap_u8, show (z : Int) % 256 = (z : Int) by omega, u8_xor_nat _ _ hx8 hz8, hy]
          have HYX : Hid (y ≠ x) := Lib.hid (by
            rw [← hy]
            intro e
            have h3 : (x ^^^ z) ^^^ x = 0 := by rw [e, Nat.xor_self]
            rw [Nat.xor_comm x, Nat.xor_assoc, Nat.xor_self, Nat.xor_zero] at h3
            omega)
          have HY8 : Hid (y < 256) := Lib.hid (by rw [← hy]; exact Nat.xor_lt_two_pow (n := 8) hx8 hz8)
          have PU := Lib.hid (O3.out.put (i := i) (x := y) HTL.out)
          clear hib hjb hx hy hz hz8 hz0
          go_wp2_with fail
          go_still_tail 16, (by kernel_rfl)
          change wpList _ _ _ _ _ w3.drew
          have he2 := he
          go_wp2_with fail
          go_meet
          exact Lib.hid ⟨T.set i y, 12, (PU.out.1.later (bl_drewN 1 (Below.refl _ _))).rn, HTB.out.set i HY8.out, by rw [List.length_set, HTL.out]; omega, rfl, authI_byte (k := i) (by rw [HXV.out, List.getD_eq_getElem?_getD, List.getElem?_set_self (by rw [HTL.out]; exact i32)]; exact Ne.symm HYX.out), bl_drewN 1 (B3.out.grown PU.out.2 B3.out.size (fun k e => by cases e; have := C3.out.2; omega))⟩
        · have b0 : ((r : Int) == 0) = false := by simp; omega
          have b1 : ((r : Int) == 1) = false := by simp; omega
          have b2 : ((r : Int) == 2) = true := by simp; omega
          clear hr hr3
          obtain ⟨k, hkb⟩ : ∃ k, b % 32 = k := ⟨_, rfl⟩
          have e1 : (b : Int) % 32 = (k : Int) := by omega
          have k32 : k < 32 := by omega
          clear hkb
          have R4 := Lib.hid (O3.out.rn.takeH (k := k) HTL.out (by omega) (by omega))
          have hle := on_cap O3.out
          go_wp2_with fail
          go_meet
          exact Lib.hid ⟨T.take k, 12, R4.out, HTB.out.take k, by rw [List.length_take, HTL.out]; omega, rfl, authI_len (by rw [List.length_take, HTL.out]; omega), B3.out⟩
        · have b0 : ((r : Int) == 0) = false := by simp; omega
          have b1 : ((r : Int) == 1) = false := by simp; omega
          have b2 : ((r : Int) == 2) = false := by simp; omega
          clear hr hr3
          go_wp2_with (at_builtin; refine wpList_append_on _ rfl _ _ rfl w2.heap.size _ (.slice (some ⟨w3.heap.size, 0, none⟩) 1 1) T [b] rfl (O3.out.later (bl_self _ _)) rfl (rn_one w3 b) (by have := N3.out; simp; omega) (by rw [HTL.out]; simp) ?_; intro v4 w4 hn hg; have R4 := Lib.hid hn.rn; have B4 : Hid (Below w.heap.size w w4) := Lib.hid ((bl_alloc _ B3.out).grown hg (by have := B3.out.size; simp; omega) (fun k e => by have := (World.ownsRow.lt O3.out k e).1; have := C3.out.2; omega)); clear hn hg)
          go_meet
          exact Lib.hid ⟨T ++ [b], 12, R4.out, HTB.out.app (fun y hy => by rw [List.mem_singleton.1 hy]; exact hb), by rw [List.length_append, HTL.out]; simp, rfl, authI_len (by rw [List.length_append, HTL.out]; simp), B4.out⟩
      case rest =>
        obtain ⟨tag, z, htg, htb, htl, rfl, hz, hbel⟩ := hcut
        have HTG := Lib.hid htg; have HTGB := Lib.hid htb; have HTGL := Lib.hid htl; have HB := Lib.hid hbel
        have HZ : Hid (authI (tagL key xs) tag = z) := Lib.hid (by rw [HT.out]; exact hz)
        clear htg htb htl hz hbel
        go_wp2_with (first
          | (go_at_call 29; refine (hnew_any key _ _ (Rv0.out.later HB.out) Bv0.out (by rw [Lv0.out]; omega) (HV.out.below HB.out)).mono ?_; rintro e w4 ⟨g, h, rfl, h1', h2', h3', h4', hb⟩; have X4 : Hid (MX w4 g h key []) := Lib.hid ⟨h1', by rw [List.append_nil]; exact h2'⟩; have N4 : Hid (w.heap.size ≤ h) := Lib.hid (Nat.le_trans HB.out.size h4'); have B4 := Lib.hid (bl_call HB.out hb); have W4 := Lib.hid hb; have M4 := Lib.hid h4'; clear h1' h2' h3' h4' hb)
          | (go_at_call 30; refine (mwrite_any g h key [] xs _ _ X4.out (Rv1.out.later B4.out) Bv1.out (by rw [Lv1.out]; simp; omega) (HV.out.below B4.out)).mono ?_; rintro e w5 ⟨rfl, hh, hg⟩; have X5 : Hid (MX w5 g h key xs) := Lib.hid (by rw [List.nil_append] at hh; exact hh); have B5 := Lib.hid (B4.out.grown hg B4.out.size (fun k e => by cases e; exact N4.out)); have T5 := Lib.hid (HTG.out.later (W4.out.grown hg W4.out.size (fun k e => by cases e; exact M4.out))); clear hh hg)
          | (go_at_call 27; refine (hverify_any key xs tag _ _ _ _ (Rv0.out.later B5.out) Bv0.out (by rw [Lv0.out]; omega) (Rv1.out.later B5.out) Bv1.out (by rw [Lv1.out]; omega) T5.out HTGB.out (by have := HTGL.out; omega) (HV.out.below B5.out)).mono ?_; rintro e w6 ⟨rfl, hb⟩; have B6 := Lib.hid (bl_call B5.out hb); have X6 := Lib.hid (X5.out.step hb); have T6 := Lib.hid (T5.out.later hb); clear hb; rw [HZ.out])
          | (go_at_call 31; refine (mverify_any g h key xs tag _ _ X6.out Bv0.out Bv1.out (by rw [Lv1.out]; omega) T6.out HTGB.out (by have := HTGL.out; omega) (HV.out.below B6.out)).mono ?_; rintro e w7 ⟨rfl, hb⟩; have B7 := Lib.hid (bl_call B6.out hb); clear hb; rw [HZ.out])
          | (go_at_call 20; refine (hshown_any _ (HV.out.below B7.out)).mono ?_; rintro e w8 ⟨rfl, hb⟩; have B8 := Lib.hid (bl_call B7.out hb); clear hb))
        go_ret
        exact ⟨rfl, B8.out⟩
    · go_enter Tryd.func7, Tryd.ntmps7
      go_wp2_with (go_at_call 20; refine (hshown_any _ (HV.out.below (bl_self w _))).mono ?_; rintro e w1 ⟨rfl, hb⟩; have HB := Lib.hid (bl_call (bl_self w _) hb); clear hb)
      go_ret
      exact ⟨rfl, HB.out⟩
  · go_enter Tryd.func7, Tryd.ntmps7
    go_wp2_with (go_at_call 20; refine (hshown_any _ (HV.out.below (bl_self w _))).mono ?_; rintro e w1 ⟨rfl, hb⟩; have HB := Lib.hid (bl_call (bl_self w _) hb); clear hb)
    go_ret
    exact ⟨rfl, HB.out⟩
set_option maxRecDepth 100000 in
theorem open_change {H : Type} {enc : TypeId × Value → H} {W : World} {base : Nat} {v : Value} {d : DataW H} {p : List MemPlace} (hval : Value.okWide Tryd.prog W .any base 52 v) (h : DataW.Trod enc Tryd.prog W 0 (fun _ => true) true 52 v d p) :
    ∃ a b : Nat, v = .agg #[.int .u8 a, .int .u8 b] ∧ a < 256 ∧ b < 256 := by
  obtain ⟨v0, v1, y0, y1, n, rfl, _, _, g0, g1⟩ := Go.Joins.open_agg2 Tryd.underlying52 (by kernel_rfl) (by kernel_rfl) hval h
  obtain ⟨z0, e0, _, w0⟩ := DataW.trod_int Tryd.underlying5 g0
  obtain ⟨z1, e1, _, w1⟩ := DataW.trod_int Tryd.underlying5 g1
  obtain ⟨l0, u0⟩ := wf_u8 z0 w0
  obtain ⟨l1, u1⟩ := wf_u8 z1 w1
  obtain ⟨q0, rfl⟩ : ∃ q : Nat, z0 = q := ⟨z0.toNat, by omega⟩
  obtain ⟨q1, rfl⟩ : ∃ q : Nat, z1 = q := ⟨z1.toNat, by omega⟩
  simp only [List.cons.injEq, and_true] at e0 e1
  subst e0 e1
  exact ⟨q0, q1, rfl, by omega, by omega⟩
end Go.Proofs.YtaeicjgkoofmpaaDoor
