/- The law ShaHexes: mathematics and the walk. -/
import Derived.Test.YtipcanphkdodaaaDoorShaHc
import Derived.Test.YtipcanphkdodaaaDoorShaHd
import Derived.Test.YtipcanphkdodaaaDoorShaO
import Derived.Test.YtipcanphkdodaaaDoorShaT
namespace Go.Proofs.YtipcanphkdodaaaDoor
open Go.RowKit
set_option linter.unusedVariables false

theorem hexL_get : ∀ (l : List Nat) (j : Nat), j < l.length → (hexL l).getD (2 * j) 0 = hxd (l.getD j 0 / 16) ∧ (hexL l).getD (2 * j + 1) 0 = hxd (l.getD j 0 % 16)
  | [], j, h => by simp at h
  | x :: l, 0, _ => ⟨rfl, rfl⟩
  | x :: l, j + 1, h => by
    have := hexL_get l j (by simpa using h)
    rw [show hexL (x :: l) = hxd (x / 16) :: hxd (x % 16) :: hexL l from rfl, show 2 * (j + 1) = 2 * j + 1 + 1 by omega]
    exact this
def bL (s : ByteArray) : List Nat := s.data.toList.map (·.toNat)
theorem bL_len (s : ByteArray) : (bL s).length = s.size := by simp [bL]
theorem bL_bb (s : ByteArray) : BB (bL s) := fun x hx => by
  obtain ⟨y, _, rfl⟩ := List.mem_map.1 hx
  exact y.toNat_lt
theorem strN_bL (s : ByteArray) : strN (bL s) = s := by
  apply ByteArray.ext
  simp [strN, bL, Function.comp_def]
theorem bL_strN {l : List Nat} (h : BB l) : bL (strN l) = l := by
  unfold bL strN
  simp only [List.map_map]
  conv => rhs; rw [← List.map_id l]
  refine List.map_congr_left (fun x hx => ?_)
  have := h x hx
  show (UInt8.ofNat x).toNat = x
  rw [UInt8.toNat_ofNat']
  exact Nat.mod_eq_of_lt this
theorem str_bL (s : ByteArray) : Str s (fun i => (bL s).getD i 0) := fun i h => by
  have h2 : i < (bL s).length := by rw [bL_len]; exact h
  show (s[i]'h).toNat = (bL s).getD i 0
  rw [List.getD_eq_getElem?_getD, List.getElem?_eq_getElem h2]
  simp [bL]
  try rfl
theorem list_getD {l m : List Nat} (h : l.length = m.length) (hg : ∀ i, i < l.length → l.getD i 0 = m.getD i 0) : l = m := by
  refine List.ext_getElem h (fun i h1 h2 => ?_)
  have := hg i h1
  rw [List.getD_eq_getElem?_getD, List.getD_eq_getElem?_getD, List.getElem?_eq_getElem h1, List.getElem?_eq_getElem h2] at this
  exact this
theorem okS_iff (f : Nat → Nat) (n : Nat) : okS f n = true ↔ ∀ j, j < n → 0 ≤ digI (f (2 * j)) ∧ 0 ≤ digI (f (2 * j + 1)) := by
  unfold okS
  rw [List.all_eq_true]
  simp
theorem parse_hex {d : List Nat} (hd : d.length = 32) (hb : BB d) : okS (fun i => (hexL d).getD i 0) 32 = true ∧ valS (fun i => (hexL d).getD i 0) = d := by
  constructor
  · refine (okS_iff _ _).2 (fun j hj => ?_)
    obtain ⟨h1, h2⟩ := hexL_get d j (by omega)
    have hx : d.getD j 0 < 256 := hb.get j
    simp only [h1, h2]
    rw [digI_hx (by omega), digI_hx (by omega)]
    omega
  · refine list_getD (by rw [valS_len, hd]) (fun j hj => ?_)
    rw [valS_len] at hj
    rw [valS_get _ hj]
    obtain ⟨h1, h2⟩ := hexL_get d j (by omega)
    have hx : d.getD j 0 < 256 := hb.get j
    simp only [h1, h2]
    rw [digI_hx (by omega), digI_hx (by omega)]
    omega
theorem hex_parse {m : List Nat} (hm : m.length = 64) (hk : okS (fun i => m.getD i 0) 32 = true) : hexL (valS (fun i => m.getD i 0)) = m := by
  have hk' := (okS_iff _ _).1 hk
  refine list_getD (by rw [hexL_len, valS_len, hm]) (fun i hi => ?_)
  rw [hexL_len, valS_len] at hi
  obtain ⟨j, hj, hij⟩ : ∃ j, j < 32 ∧ (i = 2 * j ∨ i = 2 * j + 1) := ⟨i / 2, by omega, by omega⟩
  obtain ⟨h1, h2⟩ := hexL_get (valS (fun i => m.getD i 0)) j (by rw [valS_len]; exact hj)
  rw [valS_get _ hj] at h1 h2
  obtain ⟨k1, k2⟩ := hk' j hj
  have l1 := digI_le (m.getD (2 * j) 0); have l2 := digI_le (m.getD (2 * j + 1) 0)
  have e1 := hx_dig k1; have e2 := hx_dig k2
  rcases hij with rfl | rfl
  · rw [h1, show (16 * digI (m.getD (2 * j) 0) + digI (m.getD (2 * j + 1) 0)).toNat / 16 = (digI (m.getD (2 * j) 0)).toNat by omega, e1]
  · rw [h2, show (16 * digI (m.getD (2 * j) 0) + digI (m.getD (2 * j + 1) 0)).toNat % 16 = (digI (m.getD (2 * j + 1) 0)).toNat by omega, e2]
structure HxL (w : World) (d D : List Nat) (d5 d7 : Nat) (W : World) : Prop where
  bx : AR W w.heap.size 32 (yV d)
  a5 : AR W d5 32 (yV D)
  a7 : AR W d7 32 (yV D)
  bel : Below w.heap.size w W
theorem HxL.step {w W W' : World} {d D : List Nat} {d5 d7 : Nat} (h : HxL w d D d5 d7 W) (hb : Below W.heap.size W W') : HxL w d D d5 d7 W' := ⟨h.bx.step hb, h.a5.step hb, h.a7.step hb, bl_call h.bel hb⟩
set_option maxRecDepth 20000 in
set_option maxHeartbeats 4000000 in
theorem hexes_any (d : List Nat) (s : ByteArray) (w : World) (hd : d.length = 32) (hb : BB d) (hs : s.size ≤ maxLen) (hV : VK w) :
    Calls Tryd.prog 6 #[.agg (yV d), .string s] w (Gives w (.bool true)) := by
  have HV := Lib.hid hV; have HD := Lib.hid hd; have HBB := Lib.hid hb
  clear hV hd hb
  have BX : Hid (AR (w.alloc (.cells (yV d) 32)) w.heap.size 32 (yV d)) := Lib.hid (AR.made _ _ _)
  have B0 : Hid (Below w.heap.size w (w.alloc (.cells (yV d) 32))) := Lib.hid (bl_self _ _)
  obtain ⟨n, hn⟩ : ∃ n, s.size = n := ⟨_, rfl⟩
  unfold maxLen at hs
  rw [hn] at hs
  by_cases h200 : n ≤ 200
  · obtain ⟨D, hD⟩ : ∃ D, pD s.size (fun i => (bL s).getD i 0) = D := ⟨_, rfl⟩
    obtain ⟨E, hE⟩ : ∃ E, pE s.size (fun i => (bL s).getD i 0) = E := ⟨_, rfl⟩
    have HP : Hid (∀ W, Calls Tryd.prog 23 #[.string s] W (Gives W (.tuple #[.agg (yV D), .int .i64 E]))) := Lib.hid (fun W => by
      have := parse_any s _ W (str_bL s) (fun i => (bL_bb s).get i) (by rw [hn]; omega)
      rw [hD, hE] at this; exact this)
    have HR : Hid (∀ W, Calls Tryd.prog 24 #[.string s] W (Gives W (.tuple #[.agg (yV D), .int .i64 E]))) := Lib.hid (fun W => by
      have := rparse_any s _ W (str_bL s) (fun i => (bL_bb s).get i) (by rw [hn]; omega)
      rw [hD, hE] at this; exact this)
    have hDl : D.length = 32 := by rw [← hD]; exact pD_len _ _
    have hcase : (E = 0 ∧ BB D ∧ strN (hexL D) = s) ∨ E = 6 := by
      unfold pE at hE
      unfold pD at hD
      split at hE
      · rename_i hc
        rw [if_pos hc] at hD
        refine .inl ⟨hE.symm, ?_, ?_⟩
        · rw [← hD]
          intro x hx
          obtain ⟨j, _, rfl⟩ := List.mem_map.1 hx
          have l1 := digI_le ((bL s).getD (2 * j) 0); have l2 := digI_le ((bL s).getD (2 * j + 1) 0)
          show (16 * digI ((bL s).getD (2 * j) 0) + digI ((bL s).getD (2 * j + 1) 0)).toNat < 256
          omega
        · rw [← hD, hex_parse (by rw [bL_len]; exact hc.1) hc.2, strN_bL]
      · exact .inr hE.symm
    obtain ⟨X, hX⟩ : ∃ X, strN (hexL d) = X := ⟨_, rfl⟩
    have HH : Hid (∀ W, Calls Tryd.prog 25 #[.agg (yV d)] W (Gives W (.string X))) := Lib.hid (fun W => by have := hex_any d W HD.out HBB.out; rw [hX] at this; exact this)
    have HRH : Hid (∀ W, Calls Tryd.prog 26 #[.agg (yV d)] W (Gives W (.string X))) := Lib.hid (fun W => by have := rhex_any d W HD.out HBB.out; rw [hX] at this; exact this)
    have HPX : Hid (∀ W, Calls Tryd.prog 23 #[.string X] W (Gives W (.tuple #[.agg (yV d), .int .i64 0]))) := Lib.hid (fun W => by
      have hsz : X.size = 64 := by rw [← hX, ← bL_len, bL_strN (hexL_bb HBB.out), hexL_len, HD.out]
      have := parse_any X _ W (str_bL X) (fun i => (bL_bb X).get i) (by rw [hsz]; omega)
      obtain ⟨k1, k2⟩ := parse_hex HD.out HBB.out
      rw [show bL X = hexL d by rw [← hX]; exact bL_strN (hexL_bb HBB.out)] at this
      unfold pD pE at this
      rw [if_pos ⟨hsz, k1⟩, if_pos ⟨hsz, k1⟩, k2] at this
      exact this)
    have HDL := Lib.hid hDl; have HC := Lib.hid hcase
    have xs1 : (X.toList == X.toList) = true := beq_self_eq_true _
    have ee : (E == E) = true := beq_self_eq_true _
    clear hD hE hDl hcase hX
    have tk1 : True := trivial
    go_enter Tryd.func6, Tryd.ntmps6
    go_upto_region 5 with (first
      | (go_at_call 23; refine (HP.out _).mono ?_; rintro e w1 ⟨rfl, hb⟩; have BX1 := Lib.hid (BX.out.step hb); have B1 := Lib.hid (bl_call B0.out hb); have A5 : Hid (AR (w1.alloc (.cells (yV D) 32)) w1.heap.size 32 (yV D)) := Lib.hid (AR.made _ _ _); clear hb)
      | ((with_reducible refine atOp ⟨none, .store 32 (.tmp 5) _, _, _, _, _⟩ ?_); refine wpList_store_row rfl 32 (.tmp 5) (.tmp 17) rfl w1.heap.size (yV D) rfl rfl 32 (yV (List.replicate 32 0)) (AR.made w1 _ _) (info32 D HDL.out) (by rw [yV_size, yV_size, HDL.out]; rfl) (yV_one _) ?_; rw [World.setRow_alloc_new])
      | (go_at_call 24; refine (HR.out _).mono ?_; rintro e w2 ⟨rfl, hb⟩; have HX0 : Hid (HxL w d D w1.heap.size w2.heap.size (w2.alloc (.cells (yV D) 32))) := Lib.hid ⟨((BX1.out.more _).step hb).more _, (A5.out.step hb).more _, AR.made _ _ _, bl_alloc _ (bl_call (bl_alloc _ B1.out) hb)⟩; clear hb)
      | ((with_reducible refine atOp ⟨none, .store 32 (.tmp 7) _, _, _, _, _⟩ ?_); refine wpList_store_row rfl 32 (.tmp 7) (.tmp 22) rfl w2.heap.size (yV D) rfl rfl 32 (yV (List.replicate 32 0)) (AR.made w2 _ _) (info32 D HDL.out) (by rw [yV_size, yV_size, HDL.out]; rfl) (yV_one _) ?_; rw [World.setRow_alloc_new]))
    have xs2 : (X.toList != X.toList) = false := by rw [bne, beq_self_eq_true]; rfl
    have ee2 : (E != E) = false := by rw [bne, beq_self_eq_true]; rfl
    obtain ⟨d5, hd5⟩ : ∃ d5, w1.heap.size = d5 := ⟨_, rfl⟩
    obtain ⟨d7, hd7⟩ : ∃ d7, w2.heap.size = d7 := ⟨_, rfl⟩
    rw [hd5, hd7] at HX0 ⊢
    have H0 : Hid (HxL w d D d5 d7 (w2.alloc (.cells (yV D) 32)).drew) := Lib.hid (HX0.out.step (bl_drewN 1 (Below.refl _ _)))
    refine wp_region_held_drew (S := fun W => AR W w.heap.size 32 (yV d) ∧ AR W d5 32 (yV D) ∧ AR W d7 32 (yV D)) (by kernel_rfl) ⟨H0.out.bx, H0.out.a5, H0.out.a7⟩ (fun hHeld => ?_)
    refine wpAnyH_take (i := 0) (oi := { dst := some 24, op := _, type := _, pos := _, after := _, guard := _ }) rfl (by kernel_rfl) (by kernel_rfl) (by kernel_rfl) (fun _ _ _ h => h) (yields_row (by rfl) 32 (.tmp 2) rfl w.heap.size rfl 32 (yV d) _ (fun _ h => h.1) Tryd.underlying32 rfl (info32 d HD.out)) (by assumption) ?_
    (try simp only [Act.put, List.setIfInBounds_toArray, List.set_cons_zero, List.set_cons_succ])
    refine wpAnyH_take (i := 2) (oi := { dst := some 26, op := _, type := _, pos := _, after := _, guard := _ }) rfl (by kernel_rfl) (by kernel_rfl) (by kernel_rfl) (fun _ _ _ h => h) (yields_row (by rfl) 32 (.tmp 2) rfl w.heap.size rfl 32 (yV d) _ (fun _ h => h.1) Tryd.underlying32 rfl (info32 d HD.out)) (by assumption) ?_
    (try simp only [Act.put, List.setIfInBounds_toArray, List.set_cons_zero, List.set_cons_succ])
    refine wpAnyH_ready (rs := [1]) (by kernel_rfl) (by simp) (AllReadyH.cons (o := { dst := some 25, op := _, type := _, pos := _, after := _, guard := _ }) rfl (fun K hK => ?_) AllReadyH.nil)
    go_simp
    go_at_call 25; refine (HH.out _).mono ?_; rintro e w3 ⟨rfl, hb⟩; have H1 := Lib.hid (H0.out.step hb); clear hb
    refine hK.out _ _ ?_ (fun hHeld25 => ?_)
    · exact ⟨H1.out.bx, H1.out.a5, H1.out.a7⟩
    clear hK K
    (try simp only [Act.put, List.setIfInBounds_toArray, List.set_cons_zero, List.set_cons_succ])
    refine wpAnyH_ready (rs := [3]) (by kernel_rfl) (by simp) (AllReadyH.cons (o := { dst := some 27, op := _, type := _, pos := _, after := _, guard := _ }) rfl (fun K hK => ?_) AllReadyH.nil)
    go_simp
    go_at_call 26; refine (HRH.out _).mono ?_; rintro e w4 ⟨rfl, hb⟩; have H2 := Lib.hid (H1.out.step hb); clear hb
    refine hK.out _ _ ?_ (fun hHeld27 => ?_)
    · exact ⟨H2.out.bx, H2.out.a5, H2.out.a7⟩
    clear hK K
    (try simp only [Act.put, List.setIfInBounds_toArray, List.set_cons_zero, List.set_cons_succ])
    refine wpAnyH_take (i := 4) (oi := { dst := some 28, op := _, type := _, pos := _, after := _, guard := _ }) (v := ?v28) rfl (by kernel_rfl) (by kernel_rfl) (by kernel_rfl) (fun _ _ _ h => h) (Or.inl ⟨by rfl, ?y28⟩) (by assumption) ?r28
    case y28 => intro w9 hSw; go_simp <;> with_reducible rfl
    (try simp only [Act.put, List.setIfInBounds_toArray, List.set_cons_zero, List.set_cons_succ])
    refine wpAnyH_take (i := 5) (oi := { dst := some 29, op := _, type := _, pos := _, after := _, guard := _ }) (v := ?v29) rfl (by kernel_rfl) (by kernel_rfl) (by kernel_rfl) (fun _ _ _ h => h) (Or.inl ⟨by rfl, ?y29⟩) (by assumption) ?r29
    case y29 => intro w9 hSw; go_simp <;> with_reducible rfl
    (try simp only [Act.put, List.setIfInBounds_toArray, List.set_cons_zero, List.set_cons_succ])
    refine wpAnyH_take (i := 6) (oi := { dst := some 30, op := _, type := _, pos := _, after := _, guard := _ }) rfl (by kernel_rfl) (by kernel_rfl) (by kernel_rfl) (fun _ _ _ h => h) (yields_row (by rfl) 32 (.tmp 5) rfl d5 rfl 32 (yV D) _ (fun _ h => h.2.1) Tryd.underlying32 rfl (info32 D HDL.out)) (by assumption) ?_
    (try simp only [Act.put, List.setIfInBounds_toArray, List.set_cons_zero, List.set_cons_succ])
    refine wpAnyH_take (i := 7) (oi := { dst := some 31, op := _, type := _, pos := _, after := _, guard := _ }) rfl (by kernel_rfl) (by kernel_rfl) (by kernel_rfl) (fun _ _ _ h => h) (yields_row (by rfl) 32 (.tmp 7) rfl d7 rfl 32 (yV D) _ (fun _ h => h.2.2) Tryd.underlying32 rfl (info32 D HDL.out)) (by assumption) ?_
    (try simp only [Act.put, List.setIfInBounds_toArray, List.set_cons_zero, List.set_cons_succ])
    refine wpAnyH_take (i := 8) (oi := { dst := some 32, op := _, type := _, pos := _, after := _, guard := _ }) (v := ?v32) rfl (by kernel_rfl) (by kernel_rfl) (by kernel_rfl) (fun _ _ _ h => h) (Or.inl ⟨by rfl, ?y32⟩) (by assumption) ?r32
    case y32 => intro w9 hSw; have e8 := eq32 D HDL.out w9; go_simp <;> with_reducible rfl
    (try simp only [Act.put, List.setIfInBounds_toArray, List.set_cons_zero, List.set_cons_succ])
    refine wpAnyH_take (i := 9) (oi := { dst := some 33, op := _, type := _, pos := _, after := _, guard := _ }) (v := ?v33) rfl (by kernel_rfl) (by kernel_rfl) (by kernel_rfl) (fun _ _ _ h => h) (Or.inl ⟨by rfl, ?y33⟩) (by assumption) ?r33
    case y33 => intro w9 hSw; go_simp <;> with_reducible rfl
    (try simp only [Act.put, List.setIfInBounds_toArray, List.set_cons_zero, List.set_cons_succ])
    refine wpAnyH_take (i := 10) (oi := { dst := some 34, op := _, type := _, pos := _, after := _, guard := _ }) (v := ?v34) rfl (by kernel_rfl) (by kernel_rfl) (by kernel_rfl) (fun _ _ _ h => h) (Or.inl ⟨by rfl, ?y34⟩) (by assumption) ?r34
    case y34 => intro w9 hSw; go_simp <;> with_reducible rfl
    (try simp only [Act.put, List.setIfInBounds_toArray, List.set_cons_zero, List.set_cons_succ])
    refine wpAnyH_take (i := 11) (oi := { dst := some 35, op := _, type := _, pos := _, after := _, guard := _ }) (v := ?v35) rfl (by kernel_rfl) (by kernel_rfl) (by kernel_rfl) (fun _ _ _ h => h) (Or.inl ⟨by rfl, ?y35⟩) (by assumption) ?r35
    case y35 => intro w9 hSw; go_simp <;> with_reducible rfl
    (try simp only [Act.put, List.setIfInBounds_toArray, List.set_cons_zero, List.set_cons_succ])
    refine wpAnyH_take (i := 12) (oi := { dst := some 36, op := _, type := _, pos := _, after := _, guard := _ }) (v := ?v36) rfl (by kernel_rfl) (by kernel_rfl) (by kernel_rfl) (fun _ _ _ h => h) (Or.inl ⟨by rfl, ?y36⟩) (by assumption) ?r36
    case y36 => intro w9 hSw; go_simp <;> with_reducible rfl
    (try simp only [Act.put, List.setIfInBounds_toArray, List.set_cons_zero, List.set_cons_succ])
    refine wpAnyH_take (i := 13) (oi := { dst := some 37, op := _, type := _, pos := _, after := _, guard := _ }) (v := ?v37) rfl (by kernel_rfl) (by kernel_rfl) (by kernel_rfl) (fun _ _ _ h => h) (Or.inl ⟨by rfl, ?y37⟩) (by assumption) ?r37
    case y37 => intro w9 hSw; go_simp <;> with_reducible rfl
    (try simp only [Act.put, List.setIfInBounds_toArray, List.set_cons_zero, List.set_cons_succ])
    refine wpAnyH_take (i := 14) (oi := { dst := some 38, op := _, type := _, pos := _, after := _, guard := _ }) (v := ?v38) rfl (by kernel_rfl) (by kernel_rfl) (by kernel_rfl) (fun _ _ _ h => h) (Or.inl ⟨by rfl, ?y38⟩) (by assumption) ?r38
    case y38 => intro w9 hSw; go_simp <;> with_reducible rfl
    (try simp only [Act.put, List.setIfInBounds_toArray, List.set_cons_zero, List.set_cons_succ])
    refine wpAnyH_done (by kernel_rfl) ?_ _
    go_upto_region 8 with (first
      | ((with_reducible refine atOp ⟨some 40, _, _, _, _, _⟩ ?_); refine wpList_load_row rfl 32 _ rfl w.heap.size rfl 32 (yV d) (0, 0) _ H2.out.bx Tryd.underlying32 rfl (info32 d HD.out) ?_)
      | (go_at_call 25; refine (HH.out _).mono ?_; rintro e w5 ⟨rfl, hb⟩; have H3 := Lib.hid (H2.out.step hb); clear hb)
      | (go_at_call 23; refine (HPX.out _).mono ?_; rintro e w6 ⟨rfl, hb⟩; have H4 := Lib.hid (H3.out.step hb); have H5 := Lib.hid (H4.out.step (bl_self w6 (.cells (yV d) 32))); have A9 : Hid (AR (w6.alloc (.cells (yV d) 32)) w6.heap.size 32 (yV d)) := Lib.hid (AR.made _ _ _); clear hb)
      | ((with_reducible refine atOp ⟨none, .store 32 (.tmp 9) _, _, _, _, _⟩ ?_); refine wpList_store_row rfl 32 (.tmp 9) (.tmp 43) rfl w6.heap.size (yV d) rfl rfl 32 (yV (List.replicate 32 0)) (AR.made w6 _ _) (info32 d HD.out) (by rw [yV_size, yV_size, HD.out]; rfl) (yV_one _) ?_; rw [World.setRow_alloc_new]))
    have eqd : ∀ w : World, (Op.equalIn 10000 32 (.agg (yV d)) (.agg (yV d))).run Tryd.prog w = .ok true w := eq32 d HD.out
    rcases HC.out with ⟨rfl, hDb, hst⟩ | rfl
    · have HHD : Hid (∀ W, Calls Tryd.prog 25 #[.agg (yV D)] W (Gives W (.string s))) := Lib.hid (fun W => by have := hex_any D W HDL.out hDb; rw [hst] at this; exact this)
      have ss1 : (s.toList == s.toList) = true := beq_self_eq_true _
      clear hDb hst HC ee ee2
      go_wp2_with (first
        | ((with_reducible refine atOp ⟨some 48, _, _, _, _, _⟩ ?_); refine guard_load_row (by rfl) 32 (.tmp 9) rfl w6.heap.size rfl 32 (yV d) (0, 0) _ A9.out Tryd.underlying32 rfl (info32 d HD.out) ?_)
        | ((with_reducible refine atOp ⟨some 49, _, _, _, _, _⟩ ?_); refine guard_load_row (by rfl) 32 (.tmp 2) rfl w.heap.size rfl 32 (yV d) (0, 0) _ H5.out.bx Tryd.underlying32 rfl (info32 d HD.out) ?_)
        | ((with_reducible refine atOp ⟨some 56, _, _, _, _, _⟩ ?_); refine guard_load_row (by rfl) 32 (.tmp 5) rfl d5 rfl 32 (yV D) (0, 0) _ H5.out.a5 Tryd.underlying32 rfl (info32 D HDL.out) ?_)
        | (go_at_call 25; refine (HHD.out _).mono ?_; rintro e w7 ⟨rfl, hb⟩; have H6 := Lib.hid (H5.out.step hb); clear hb)
        | (go_at_call 18; refine (shown_any _ (HV.out.below H6.out.bel)).mono ?_; rintro e w8 ⟨rfl, hb⟩; have BF := Lib.hid (bl_call H6.out.bel hb); clear hb))
      go_ret
      exact ⟨rfl, BF.out⟩
    · clear HC ee ee2
      go_wp2_with (first
        | ((with_reducible refine atOp ⟨some 48, _, _, _, _, _⟩ ?_); refine guard_load_row (by rfl) 32 (.tmp 9) rfl w6.heap.size rfl 32 (yV d) (0, 0) _ A9.out Tryd.underlying32 rfl (info32 d HD.out) ?_)
        | ((with_reducible refine atOp ⟨some 49, _, _, _, _, _⟩ ?_); refine guard_load_row (by rfl) 32 (.tmp 2) rfl w.heap.size rfl 32 (yV d) (0, 0) _ H5.out.bx Tryd.underlying32 rfl (info32 d HD.out) ?_)
        | ((with_reducible refine atOp ⟨some 56, _, _, _, _, _⟩ ?_); refine guard_load_row (by rfl) 32 (.tmp 5) rfl d5 rfl 32 (yV D) (0, 0) _ H5.out.a5 Tryd.underlying32 rfl (info32 D HDL.out) ?_)
        | (go_at_call 18; refine (shown_any _ (HV.out.below H5.out.bel)).mono ?_; rintro e w8 ⟨rfl, hb⟩; have BF := Lib.hid (bl_call H5.out.bel hb); clear hb))
      go_ret
      exact ⟨rfl, BF.out⟩
  · go_enter Tryd.func6, Tryd.ntmps6
    go_wp2_with (go_at_call 18; refine (shown_any _ (HV.out.below B0.out)).mono ?_; rintro e w3 ⟨rfl, hb⟩; have B3 := Lib.hid (bl_call B0.out hb); clear hb)
    go_ret
    exact ⟨rfl, B3.out⟩
end Go.Proofs.YtipcanphkdodaaaDoor
