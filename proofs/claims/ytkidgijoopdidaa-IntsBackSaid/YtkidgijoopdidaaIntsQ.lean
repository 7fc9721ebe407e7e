/- Put of the reference. -/
import Derived.Test.YtkidgijoopdidaaIntsP
import Derived.Test.YtkidgijoopdidaaIntsG
namespace Go.Proofs.Ytkidgijoopdidaa
open Go.RowKit
set_option linter.unusedVariables false

theorem beL_high (n k : Nat) : beL n (k + 1) = ((n / 256 ^ k % 256 : Nat) : Int) :: beL n k := by
  induction k generalizing n with
  | zero => simp [beL]
  | succ k ih =>
    rw [beL, ih, beL, List.cons_append, Nat.pow_succ, Nat.mul_comm, Nat.div_div_eq_div_mul]
/-- The digits as they are written, c of k of them, from the end. -/
def dcells (n k c : Nat) : List Value := List.replicate (k - c) (.int .u8 0) ++ bytesV (beL n c)
theorem dcells_len (n k c : Nat) (h : c ≤ k) : (dcells n k c).length = k := by simp [dcells, bytesV, beL_len]; omega
theorem dcells_get {n k c e : Nat} (h : c < k) (he : e = k - 1 - c) : (dcells n k c)[e]? = some (.int .u8 0) := by
  subst he; unfold dcells
  rw [List.getElem?_append_left (by simp; omega), List.getElem?_replicate, if_pos (by omega)]
theorem dcells_set {n k c e : Nat} (h : c < k) (he : e = k - 1 - c) (x : Int) (hx : x = ((n / 256 ^ c % 256 : Nat) : Int)) : (dcells n k c).set e (.int .u8 x) = dcells n k (c + 1) := by
  subst he hx; unfold dcells
  rw [List.set_append_left _ _ (by simp; omega), show k - c = (k - (c + 1)) + 1 by omega, List.replicate_succ', show k - 1 - c = k - (c + 1) by omega, List.set_append_right _ _ (by simp), beL_high]
  simp [bytesV]
theorem dcells_end (n k : Nat) : dcells n k k = bytesV (beL n k) := by simp [dcells]
theorem made_zero (n : Nat) : (madeCells (Value.int .u8 0).cells (n * 1)).toList = List.replicate n (Value.int .u8 0) := by
  apply List.ext_getElem
  · simp [size_madeCells]
  · intro i h1 h2
    simp [madeCells, Value.cells, Nat.mod_one]
theorem div_pow_step (n c : Nat) : n / 256 ^ c / 256 = n / 256 ^ (c + 1) := by rw [Nat.pow_succ, Nat.div_div_eq_div_mul]
/-- An argument is nil, or has an address. -/
theorem RB.two {w : World} {v : Value} {xs : List Int} (h : RB w v xs) : (v = .slice none 0 0 ∧ xs = []) ∨
    ∃ ad c, v = .slice (some ad) xs.length c ∧ ∀ W, Below w.heap.size w W → ∀ j u, (bytesV xs)[j]? = some u → W.cell? (ad.add j) = some u := by
  rcases h with ⟨A, c, rfl, rfl, hn⟩ | ⟨g, off, c, rfl, hg, h0, h2, h3, h4⟩
  · rcases A with _ | ad
    · obtain rfl := hn rfl; exact .inl ⟨rfl, rfl⟩
    · exact .inr ⟨ad, c, rfl, fun W _ j u hj => by simp [bytesV] at hj⟩
  · exact .inr ⟨_, c, rfl, fun W hb => rb_cells hg h4 hb⟩
theorem keep_cells {W W' : World} {G r : Nat} {l : List Value} (hG : G < W.heap.size) (hr : G ≠ r) (h : ∀ j u, l[j]? = some u → W.cell? ((⟨G, 0, none⟩ : Addr).add j) = some u) (hg : W.grownBy W' (some r)) :
    ∀ j u, l[j]? = some u → W'.cell? ((⟨G, 0, none⟩ : Addr).add j) = some u := by
  intro j u hj
  have := h j u hj
  rw [add_plain] at this ⊢
  rw [← this]
  exact World.cell?_of_block (hg.block G hG (fun e => hr (by injection e)))
theorem alloc_cells {W : World} {G : Nat} {l : List Value} (o : Obj) (hG : G < W.heap.size) (h : ∀ j u, l[j]? = some u → W.cell? ((⟨G, 0, none⟩ : Addr).add j) = some u) :
    ∀ j u, l[j]? = some u → (W.alloc o).cell? ((⟨G, 0, none⟩ : Addr).add j) = some u := by
  intro j u hj
  have := h j u hj
  rw [add_plain] at this ⊢
  rw [← this]
  exact World.cell?_alloc_lt W o _ hG

set_option maxHeartbeats 1000000 in
theorem rput_no (v : Value) (n : Nat) (k : Int) (w : World) (hn : n < 18446744073709551616) (h : putOk n k = false) : Calls Try.prog 14 #[v, .int .u64 n, .int .i64 k] w (No w) := by
  rcases putOk_no h with (h | h) | ⟨j, rfl, h1, h2, h3⟩
  · go_enter Try.func14, Try.ntmps14
    go_wp2_with fail
    go_ret2
    exact ⟨rfl, rfl⟩
  · go_enter Try.func14, Try.ntmps14
    go_wp2_with fail
    go_ret2
    exact ⟨rfl, rfl⟩
  · have HF := Lib.hid h3; clear h3 h
    go_enter Try.func14, Try.ntmps14
    go_wp2_with (go_at_call 44; (with_reducible refine (below3 _ n (8 * j) _ _ rfl hn (by omega) (by omega)).mono ?_); rintro e w' ⟨rfl, rfl⟩; rw [HF.out])
    go_ret2
    exact ⟨rfl, rfl⟩

set_option maxRecDepth 20000 in
set_option maxHeartbeats 2000000 in
theorem rput_nil (n k : Nat) (w : World) (hn : n < 18446744073709551616) (h1 : 1 ≤ k) (h2 : k ≤ 8) (h : fitB n (8 * k) = true) :
    Calls Try.prog 14 #[.slice none 0 0, .int .u64 n, .int .i64 k] w (Put w (beL n k)) := by
  obtain ⟨i0, hi, hz0, hz1, hz2⟩ := info_parts info_u8
  have HF := Lib.hid h; clear h
  have HB := Lib.hid (Below.refl w.heap.size w)
  go_enter Try.func14, Try.ntmps14
  go_wp2_with (first
    | (go_at_call 44; (with_reducible refine (below3 _ n (8 * k) _ _ rfl hn (by omega) (by omega)).mono ?_); rintro e w' ⟨rfl, rfl⟩; rw [HF.out])
    | (refine wpList_make_full _ rfl _ _ 22 rfl w.heap.size 5 i0 (.int .u8 0) 1 Try.underlying22 hi hz0 hz1 .i64 .i64 k k k rfl rfl rfl rfl (by rw [hz2]; omega) (by unfold maxLen; omega) HB.out.size ?_; intro w2 hown hgrow))
  have hrow : w2.ownsRow w.heap.size 5 1 (.slice (some ⟨w.heap.size, 0, none⟩) k k) k (dcells n k 0) := by
    rw [made_zero] at hown; simpa [dcells, beL, bytesV] using hown
  have hbw : Below w.heap.size w w2 := HB.out.grown hgrow (Nat.le_refl _) (fun k e => by cases e)
  have HROW := Lib.hid hrow; have HB2 := Lib.hid hbw
  clear hown hgrow hrow hbw
  go_wp2_with fail
  go_loopw [1, 9] (fun x i wr => ∃ (c y : Nat), c ≤ k ∧ x = .int .u64 y ∧ i = .int .i64 ((k : Int) - c - 1) ∧ y < 18446744073709551616 ∧ Hid (y = n / 256 ^ c) ∧ Hid (Below w.heap.size w wr) ∧ Hid (wr.ownsRow w.heap.size 5 1 (.slice (some ⟨w.heap.size, 0, none⟩) k k) k (dcells n k c))) (fun _ i _ => (intOf i + 1).toNat)
  case atStart => exact ⟨0, n, by omega, rfl, by go_num, hn, Lib.hid (by simp), HB2, HROW⟩
  case round =>
    obtain ⟨c, y, hck, rfl, rfl, hy, HY, HBR, HR⟩ := hrel
    by_cases hlt : c < k
    · obtain ⟨e, he⟩ : ∃ e : Nat, (k : Int) - c - 1 = e := ⟨k - 1 - c, by omega⟩
      have HE : Hid (e = k - 1 - c) := Lib.hid (by omega)
      have hek : e < k := by omega
      have cs := (HR.out.cellAt e (by omega)).trans (dcells_get hlt HE.out)
      have fz := HR.out.frozenAt e
      go_wp2_with fail
      go_roundw
      case rel =>
        refine ⟨c + 1, y / 256, by omega, by go_num, by go_num, by omega, Lib.hid (by rw [HY.out, div_pow_step]), Lib.hid (HBR.out.setCell (p := ⟨w.heap.size, e, none⟩) (Nat.le_refl _) _), Lib.hid ?_⟩
        have := (HR.out.stored e (.int .u8 (y % 256 : Int))).1
        rw [dcells_set hlt HE.out _ (by rw [HY.out]; omega)] at this
        exact this
      case measure => simp [RowKit.intOf]; omega
    · obtain rfl : c = k := by omega
      have hr := HR.out
      rw [dcells_end] at hr
      have hglt : w.heap.size < wr.heap.size := (hr.lt _ rfl).2
      have HD := Lib.hid (hr.cells (g := w.heap.size) rfl)
      clear hr HR hlt
      have HO1 : Hid ((wr.alloc (.cells #[] 5)).ownsRow w.heap.size 5 1 (.slice (some ⟨wr.heap.size, 0, none⟩) 0 0) 0 []) := Lib.hid (World.ownsRow_lit (base := w.heap.size) (e := 5) (size := 1) wr #[] 0 HBR.out.size (by unfold maxLen; omega) rfl)
      have HD2 := Lib.hid (alloc_cells (.cells #[] 5) hglt HD.out)
      replace HBR := Lib.hid (bl_alloc (.cells #[] 5) HBR.out)
      go_wp2_with (first
        | (at_builtin; (refine wpList_append_own _ rfl (.tmp 41) (.tmp 42) 22 rfl w.heap.size 5 i0 (.int .u8 0) 1 1 Try.underlying22 hi hz0 hz1 hz2 rfl (by decide) _ 0 [] rfl HO1.out ⟨w.heap.size, 0, none⟩ c c (bytesV (beL n c)) rfl (by rw [bytesV_len, beL_len]) HD2.out (bytesV_one _) (by unfold maxLen; omega) (by omega) HBR.out.size ?_; intro v6 w6 hown hgrow _; have HO2 := Lib.hid hown; replace HBR := Lib.hid (HBR.out.grown hgrow HBR.out.size (fun k e => (HO1.out.lt k e).1)); clear hown hgrow)))
      go_ret2
      exact ⟨_, rfl, own_end (xs := []) HO2.out (by simp), HBR.out⟩
set_option maxRecDepth 20000 in
set_option maxHeartbeats 2000000 in
theorem rput_some (ad : Addr) (c0 : Nat) (xs : List Int) (n k : Nat) (w : World) (hc : ∀ W, Below w.heap.size w W → ∀ j u, (bytesV xs)[j]? = some u → W.cell? (ad.add j) = some u) (hs : xs.length ≤ 1000) (hn : n < 18446744073709551616) (h1 : 1 ≤ k) (h2 : k ≤ 8) (h : fitB n (8 * k) = true) :
    Calls Try.prog 14 #[.slice (some ad) xs.length c0, .int .u64 n, .int .i64 k] w (Put w (xs ++ beL n k)) := by
  obtain ⟨i0, hi, hz0, hz1, hz2⟩ := info_parts info_u8
  have HF := Lib.hid h; clear h
  have HB := Lib.hid (Below.refl w.heap.size w)
  have HC := Lib.hid hc; clear hc
  go_enter Try.func14, Try.ntmps14
  go_wp2_with (first
    | (go_at_call 44; (with_reducible refine (below3 _ n (8 * k) _ _ rfl hn (by omega) (by omega)).mono ?_); rintro e w' ⟨rfl, rfl⟩; rw [HF.out])
    | (refine wpList_make_full _ rfl _ _ 22 rfl w.heap.size 5 i0 (.int .u8 0) 1 Try.underlying22 hi hz0 hz1 .i64 .i64 k k k rfl rfl rfl rfl (by rw [hz2]; omega) (by unfold maxLen; omega) HB.out.size ?_; intro w2 hown hgrow))
  have hrow : w2.ownsRow w.heap.size 5 1 (.slice (some ⟨w.heap.size, 0, none⟩) k k) k (dcells n k 0) := by
    rw [made_zero] at hown; simpa [dcells, beL, bytesV] using hown
  have hbw : Below w.heap.size w w2 := HB.out.grown hgrow (Nat.le_refl _) (fun k e => by cases e)
  have HROW := Lib.hid hrow; have HB2 := Lib.hid hbw
  clear hown hgrow hrow hbw
  go_wp2_with fail
  go_loopw [1, 9] (fun x i wr => ∃ (c y : Nat), c ≤ k ∧ x = .int .u64 y ∧ i = .int .i64 ((k : Int) - c - 1) ∧ y < 18446744073709551616 ∧ Hid (y = n / 256 ^ c) ∧ Hid (Below w.heap.size w wr) ∧ Hid (wr.ownsRow w.heap.size 5 1 (.slice (some ⟨w.heap.size, 0, none⟩) k k) k (dcells n k c))) (fun _ i _ => (intOf i + 1).toNat)
  case atStart => exact ⟨0, n, by omega, rfl, by go_num, hn, Lib.hid (by simp), HB2, HROW⟩
  case round =>
    obtain ⟨c, y, hck, rfl, rfl, hy, HY, HBR, HR⟩ := hrel
    by_cases hlt : c < k
    · obtain ⟨e, he⟩ : ∃ e : Nat, (k : Int) - c - 1 = e := ⟨k - 1 - c, by omega⟩
      have HE : Hid (e = k - 1 - c) := Lib.hid (by omega)
      have hek : e < k := by omega
      have cs := (HR.out.cellAt e (by omega)).trans (dcells_get hlt HE.out)
      have fz := HR.out.frozenAt e
      go_wp2_with fail
      go_roundw
      case rel =>
        refine ⟨c + 1, y / 256, by omega, by go_num, by go_num, by omega, Lib.hid (by rw [HY.out, div_pow_step]), Lib.hid (HBR.out.setCell (p := ⟨w.heap.size, e, none⟩) (Nat.le_refl _) _), Lib.hid ?_⟩
        have := (HR.out.stored e (.int .u8 (y % 256 : Int))).1
        rw [dcells_set hlt HE.out _ (by rw [HY.out]; omega)] at this
        exact this
      case measure => simp [RowKit.intOf]; omega
    · obtain rfl : c = k := by omega
      have hr := HR.out
      rw [dcells_end] at hr
      have hglt : w.heap.size < wr.heap.size := (hr.lt _ rfl).2
      have HD := Lib.hid (hr.cells (g := w.heap.size) rfl)
      clear hr HR hlt
      go_wp2_with (first
        | (at_builtin; (refine wpList_append_own _ rfl (.tmp 39) (.tmp 40) 22 rfl w.heap.size 5 i0 (.int .u8 0) 1 1 Try.underlying22 hi hz0 hz1 hz2 rfl (by decide) _ 0 [] rfl (World.ownsRow_lit _ #[] 0 HBR.out.size (by unfold maxLen; omega) rfl) ad xs.length c0 (bytesV xs) rfl (bytesV_len xs) (HC.out _ (bl_alloc _ HBR.out)) (bytesV_one xs) (by unfold maxLen; omega) (by omega) (bl_alloc _ HBR.out).size ?_; intro v5 w5 hown hgrow _; have HO1 := Lib.hid hown; have HD2 := Lib.hid (keep_cells (by simp; omega) (Nat.ne_of_lt hglt) (alloc_cells (.cells #[] 5) hglt HD.out) hgrow); replace HBR := Lib.hid ((bl_alloc _ HBR.out).grown hgrow (bl_alloc _ HBR.out).size (fun k e => by cases e; exact HBR.out.size)); clear hown hgrow))
        | (at_builtin; (refine wpList_append_own _ rfl (.tmp 41) (.tmp 42) 22 rfl w.heap.size 5 i0 (.int .u8 0) 1 1 Try.underlying22 hi hz0 hz1 hz2 rfl (by decide) _ (0 + xs.length) ([] ++ bytesV xs) rfl HO1.out ⟨w.heap.size, 0, none⟩ c c (bytesV (beL n c)) rfl (by rw [bytesV_len, beL_len]) HD2.out (bytesV_one _) (by unfold maxLen; omega) (by omega) HBR.out.size ?_; intro v6 w6 hown hgrow _; have HO2 := Lib.hid hown; replace HBR := Lib.hid (HBR.out.grown hgrow HBR.out.size (fun k e => (HO1.out.lt k e).1)); clear hown hgrow)))
      go_ret2
      exact ⟨_, rfl, own_end HO2.out (by simp [bytesV]), HBR.out⟩
theorem rput_yes (v : Value) (xs : List Int) (n k : Nat) (w : World) (hv : RB w v xs) (hs : xs.length ≤ 1000) (hn : n < 18446744073709551616) (h1 : 1 ≤ k) (h2 : k ≤ 8) (h : fitB n (8 * k) = true) :
    Calls Try.prog 14 #[v, .int .u64 n, .int .i64 k] w (Put w (xs ++ beL n k)) := by
  rcases hv.two with ⟨rfl, rfl⟩ | ⟨ad, c0, rfl, hc⟩
  · exact rput_nil n k w hn h1 h2 h
  · exact rput_some ad c0 xs n k w hc hs hn h1 h2 h
end Go.Proofs.Ytkidgijoopdidaa
