/- The contract of the program's padding. -/
import Derived.Test.YtipcanphkdodaaaDoorShaF
namespace Go.Proofs.YtipcanphkdodaaaDoor
open Go.RowKit Go.Lib
set_option linter.unusedVariables false

theorem info_u8 : (Tryd.prog.info? 5).map (fun i => (i.zero, i.size, i.bytes)) = some (some (.int .u8 0), 1, 1) := by kernel_rfl
/-- The slice v holds the bytes xs, in memory from block B on. -/
def ON (w : World) (B : Nat) (v : Value) (xs : List Nat) : Prop := w.ownsRow B 5 1 v xs.length (yL xs)
theorem ON.len {w : World} {B : Nat} {v : Value} {xs : List Nat} (h : ON w B v xs) : ∃ A c, v = .slice A xs.length c := by
  have h' : w.ownsRow B 5 1 v xs.length (yL xs) := h
  rcases h'.2 with ⟨rfl, h0⟩ | ⟨g, c, cur, rfl, _⟩
  · rw [h0]; exact ⟨_, _, rfl⟩
  · exact ⟨_, _, rfl⟩
theorem ON.rn {w : World} {B : Nat} {v : Value} {xs : List Nat} (h : ON w B v xs) : RN w v xs := by
  have h' : w.ownsRow B 5 1 v xs.length (yL xs) := h
  rcases h'.2 with ⟨rfl, h0⟩ | ⟨g, c, cur, rfl, hb, hg, hc, hm, hs, ht⟩
  · obtain rfl : xs = [] := List.eq_nil_of_length_eq_zero h0
    exact RN.nil w
  · rcases Nat.eq_zero_or_pos xs.length with h0 | h0
    · obtain rfl : xs = [] := List.eq_nil_of_length_eq_zero h0
      exact .inl ⟨_, _, rfl, rfl, fun h => by cases h⟩
    · refine .inr ⟨g, 0, c, rfl, (h'.lt g rfl).2, h0, hc, hm, fun i hi => ?_⟩
      rw [Nat.zero_add, h'.cellAt i (by omega), yL, List.getElem?_map, List.getElem?_eq_getElem hi, List.getD_eq_getElem?_getD, List.getElem?_eq_getElem hi]
      rfl
theorem ON.one {w : World} {B : Nat} {v : Value} {xs ys : List Nat} {x : Nat} (h : w.ownsRow B 5 1 v (xs.length + 1) (yL xs ++ [.int .u8 x])) (hy : ys = xs ++ [x]) : ON w B v ys := by
  subst hy
  unfold ON
  rw [yL_app, List.length_append]
  exact h
theorem cells_new (w : World) (t : TypeId) (l : List Value) : ∀ j u, l[j]? = some u → (w.alloc (.cells l.toArray t)).cell? ((⟨w.heap.size, 0, none⟩ : Addr).add j) = some u := by
  intro j u hj
  rw [Addr.add_mid, World.cell?_alloc_at _ _ _ _ rfl]
  simpa using hj
theorem on_new (w : World) (xs : List Nat) (n : Nat) (hn : xs.length = n) (h : n ≤ 1000000) : ON (w.alloc (.cells (yL xs).toArray 5)) w.heap.size (.slice (some ⟨w.heap.size, 0, none⟩) n n) xs := by
  subst hn
  exact World.ownsRow_lit (base := w.heap.size) (e := 5) (size := 1) w (yL xs).toArray xs.length (Nat.le_refl _) (by unfold maxLen; omega) (by simp [yL_len])

/-- The bytes of the padding after i of the last eight. -/
def padI (n i : Nat) : List Nat := 128 :: (List.replicate (zeros n) 0 ++ (be8 (8 * n)).take i)
theorem padI_len (n : Nat) {i : Nat} (h : i ≤ 8) : (padI n i).length = zeros n + 1 + i := by simp [padI, be8]; omega
theorem padI_full (n : Nat) : padI n 8 = padL n := rfl
theorem padI_step (n : Nat) {i : Nat} (h : i < 8) : padI n (i + 1) = padI n i ++ [8 * n / 2 ^ (56 - 8 * i) % 256] := by
  have h8 : i = 0 ∨ i = 1 ∨ i = 2 ∨ i = 3 ∨ i = 4 ∨ i = 5 ∨ i = 6 ∨ i = 7 := by omega
  unfold padI
  rcases h8 with rfl | rfl | rfl | rfl | rfl | rfl | rfl | rfl <;> simp [be8]
theorem zeros_lt (n : Nat) : zeros n < 64 := Nat.mod_lt _ (by decide)
theorem zeros_step {n k : Nat} (h : k ≤ zeros n) : (n + (k + 1) + 8) % 64 = 0 ↔ k = zeros n := by unfold zeros at *; omega
/-- What the function returns: bytes in memory of its own. -/
def Mem (w : World) (xs : List Nat) (e : Ending) (w' : World) : Prop := ∃ v, e = .returned v ∧ ON w' w.heap.size v xs ∧ Below w.heap.size w w'

/-- The same, its length said apart. -/
def OL (w : World) (B : Nat) (v : Value) (k : Nat) (xs : List Nat) : Prop := w.ownsRow B 5 1 v k (yL xs)
theorem OL.of {w : World} {B : Nat} {v : Value} {xs : List Nat} {k : Nat} (h : ON w B v xs) (hk : xs.length = k) : OL w B v k xs := by subst hk; exact h
theorem OL.on {w : World} {B : Nat} {v : Value} {xs : List Nat} {k : Nat} (h : OL w B v k xs) : ON w B v xs := by
  have h' : w.ownsRow B 5 1 v k (yL xs) := h
  have hl := h'.1
  rw [yL_len] at hl
  obtain rfl : k = xs.length := by omega
  exact h
theorem OL.put {w : World} {B : Nat} {v : Value} {xs ys : List Nat} {k x : Nat} (h : w.ownsRow B 5 1 v (k + 1) (yL xs ++ [.int .u8 x])) (hy : ys = xs ++ [x]) : OL w B v (k + 1) ys := by
  subst hy; unfold OL; rw [yL_app]; exact h
theorem OL.puti {w : World} {B : Nat} {v : Value} {xs ys : List Nat} {k x : Nat} {y : Int} (h : w.ownsRow B 5 1 v (k + 1) (yL xs ++ [.int .u8 y])) (hx : y = x) (hy : ys = xs ++ [x]) : OL w B v (k + 1) ys := by
  subst hx; exact OL.put h hy
theorem OL.len {w : World} {B : Nat} {v : Value} {xs : List Nat} {k : Nat} (h : OL w B v k xs) : ∃ A c, v = .slice A k c := by
  have h' : w.ownsRow B 5 1 v k (yL xs) := h
  rcases h'.2 with ⟨rfl, h0⟩ | ⟨g, c, cur, rfl, _⟩
  · rw [h0]; exact ⟨_, _, rfl⟩
  · exact ⟨_, _, rfl⟩

set_option maxRecDepth 20000 in
set_option maxHeartbeats 4000000 in
theorem padding_any (n : Nat) (w : World) (hn : n ≤ 1152921504606846976) : Calls Tryd.prog 43 #[.int .u64 n] w (Mem w (padL n)) := by
  obtain ⟨i0, hi, hz0, hz1, hz2⟩ := info_parts info_u8
  have hz := zeros_lt n
  go_enter Tryd.func43, Tryd.ntmps43
  go_wp2_with fail
  go_loopw [3] (fun v wr => ∃ (k : Nat) (A : Option Addr) (c : Nat), k ≤ zeros n ∧ v = .slice A (k + 1) c ∧ Hid (OL wr w.heap.size (.slice A (k + 1) c) (k + 1) (128 :: List.replicate k 0)) ∧ Hid (Below w.heap.size w wr)) (fun v _ => zeros n + 1 - lenOf v)
  case atStart => exact ⟨0, _, _, by omega, rfl, Lib.hid (OL.of (on_new w [128] 1 rfl (by omega)) rfl), Lib.hid (bl_alloc _ (Below.refl _ _))⟩
  case round =>
    obtain ⟨k, A, c, hk, rfl, HO, HB⟩ := hrel
    have e3 : IntKind.u64.wrap ((k : Int) + 1) = (k : Int) + 1 := by rw [IntKind.wrap_u64]; omega
    by_cases hlt : k < zeros n
    · have hb : (((n : Int) + ((k : Int) + 1) + 8) % 64 != 0) = true := by
        have := zeros_step (n := n) (k := k) (by omega)
        simp; omega
      go_wp2_with (at_builtin; refine wpList_append_own _ rfl _ _ 31 rfl w.heap.size 5 i0 (.int .u8 0) 1 1 Tryd.underlying31 hi hz0 hz1 hz2 rfl (by decide) _ (k + 1) (yL (128 :: List.replicate k 0)) rfl (World.ownsRow.alloc HO.out _) ⟨wr.heap.size, 0, none⟩ 1 1 [.int .u8 0] rfl rfl (cells_new _ _ [_]) (by simp [Value.oneCell']) (by unfold maxLen; omega) (by omega) (by have := HB.out.size; simp; omega) ?_; intro v2 w2 hown hgrow _; have hbw := (bl_alloc _ HB.out).grown hgrow (by have := HB.out.size; simp; omega) (fun k e => (World.ownsRow.lt HO.out k e).1); have HB2 := Lib.hid hbw; have HO2 : Hid (OL w2 w.heap.size v2 (k + 1 + 1) (128 :: List.replicate (k + 1) 0)) := Lib.hid (OL.put (x := 0) hown (by rw [List.replicate_succ']; rfl)); clear hbw hown hgrow; obtain ⟨A2, c2, rfl⟩ := HO2.out.len)
      go_roundw
      case rel => exact ⟨k + 1, A2, c2, by omega, rfl, HO2, HB2⟩
      case measure => show zeros n + 1 - (k + 1 + 1) < zeros n + 1 - (k + 1); omega
    · obtain ⟨z, hzz⟩ : ∃ z, zeros n = z := ⟨_, rfl⟩
      have hkz : k = z := by omega
      have hb : (((n : Int) + ((k : Int) + 1) + 8) % 64 != 0) = false := by
        have := (zeros_step (n := n) (k := k) (by omega)).2 (by omega)
        simp; omega
      have HS : Hid (OL wr w.heap.size (.slice A (k + 1) c) (k + 1) (padI n 0)) := Lib.hid (by have := HO.out; unfold padI; rw [hzz, ← hkz, List.take_zero, List.append_nil]; exact this)
      have HKZ := Lib.hid hkz; have HZZ := Lib.hid hzz
      rw [hzz] at hz
      have hk64 : k < 64 := by omega
      have e8 : IntKind.u64.wrap (8 * (n : Int)) = 8 * (n : Int) := by rw [IntKind.wrap_u64]; omega
      clear hkz hzz HO hk hlt
      go_wp2_with fail
      go_loopw [3, 5] (fun v sh wr => ∃ (i : Nat) (A : Option Addr) (c : Nat) (q : Int), i ≤ 8 ∧ sh = .int .i64 q ∧ q = 56 - 8 * (i : Int) ∧ v = .slice A (k + 1 + i) c ∧ Hid (OL wr w.heap.size (.slice A (k + 1 + i) c) (k + 1 + i) (padI n i)) ∧ Hid (Below w.heap.size w wr)) (fun v _ _ => 100 - lenOf v)
      case atStart => exact ⟨0, A, c, 56, by omega, rfl, by omega, rfl, HS, HB⟩
      case round =>
        obtain ⟨i, A, c, q, hi8, rfl, hq, rfl, HO, HB⟩ := hrel
        by_cases hlt : i < 8
        · obtain ⟨t, ht⟩ : ∃ t : Nat, q = t := ⟨(56 - 8 * i), by omega⟩
          subst ht
          have HQ : Hid (t = 56 - 8 * i) := Lib.hid (by omega)
          have HX : Hid (8 * (n : Int) / 2 ^ t % 256 = ((8 * n / 2 ^ t % 256 : Nat) : Int)) := Lib.hid (by push_cast; rfl)
          have ht56 : t ≤ 56 := by omega
          have hs1 : (t : Int) - 8 = (56 - 8 * ((i + 1 : Nat) : Int)) := by omega
          have HS1 := Lib.hid hs1
          clear hq hs1
          go_wp2_with (at_builtin; refine wpList_append_own _ rfl _ _ 31 rfl w.heap.size 5 i0 (.int .u8 0) 1 1 Tryd.underlying31 hi hz0 hz1 hz2 rfl (by decide) _ (k + 1 + i) (yL (padI n i)) rfl (World.ownsRow.alloc HO.out _) ⟨wr.heap.size, 0, none⟩ 1 1 [_] rfl rfl (cells_new _ _ [_]) (by simp [Value.oneCell']) (by unfold maxLen; omega) (by omega) (by have := HB.out.size; simp; omega) ?_; intro v2 w2 hown hgrow _; have hbw := (bl_alloc _ HB.out).grown hgrow (by have := HB.out.size; simp; omega) (fun k e => (World.ownsRow.lt HO.out k e).1); have HB2 := Lib.hid hbw; have HO2 : Hid (OL w2 w.heap.size v2 (k + 1 + i + 1) (padI n (i + 1))) := Lib.hid (OL.puti hown HX.out (by rw [padI_step n hlt, HQ.out])); clear hbw hown hgrow; obtain ⟨A2, c2, rfl⟩ := HO2.out.len)
          go_roundw
          case rel => exact ⟨i + 1, A2, c2, (t : Int) - 8, by omega, rfl, HS1.out, rfl, HO2, HB2⟩
          case measure => show 100 - (k + 1 + i + 1) < 100 - (k + 1 + i); omega
        · have HI : Hid (i = 8) := Lib.hid (by omega)
          have HF : Hid (ON wr w.heap.size (.slice A (k + 1 + i) c) (padL n)) := Lib.hid (by rw [← padI_full]; have := HO.out.on; rw [HI.out] at this; rw [HI.out]; exact this)
          have hq0 : ¬ (0 ≤ q) := by omega
          go_wp2_with fail
          go_ret
          exact ⟨_, rfl, HF.out, HB.out⟩
end Go.Proofs.YtipcanphkdodaaaDoor
