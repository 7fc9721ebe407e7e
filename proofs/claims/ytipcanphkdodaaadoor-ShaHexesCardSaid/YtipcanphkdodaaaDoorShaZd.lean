/- The reference's primes. -/
import Derived.Test.YtipcanphkdodaaaDoorShaZc
namespace Go.Proofs.YtipcanphkdodaaaDoor
open Go.RowKit
set_option linter.unusedVariables false

def prExt (l : List Nat) (n : Nat) : List Nat := if l.all (fun o => n % o != 0) then l ++ [n] else l
def prA : Nat → List Nat
  | 0 => []
  | k + 1 => prExt (prA k) (k + 2)
theorem prA_mono1 (k : Nat) : (prA k).length ≤ (prA (k + 1)).length := by
  show _ ≤ (prExt _ _).length
  unfold prExt
  split <;> simp
theorem prA_mono {a b : Nat} (h : a ≤ b) : (prA a).length ≤ (prA b).length := by
  induction h with
  | refl => exact Nat.le_refl _
  | step _ ih => exact Nat.le_trans ih (prA_mono1 _)
theorem prA_len : ∀ k, (prA k).length ≤ k
  | 0 => Nat.le_refl _
  | k + 1 => by
    have := prA_len k
    show (prExt _ _).length ≤ _
    unfold prExt
    split
    · rw [List.length_append]; show _ + 1 ≤ _; omega
    · omega
theorem prA_pos : ∀ k, ∀ o ∈ prA k, 2 ≤ o ∧ o < k + 2
  | 0, o, h => by simp [prA] at h
  | k + 1, o, h => by
    have ih := prA_pos k
    have h : o ∈ prExt (prA k) (k + 2) := h
    unfold prExt at h
    split at h
    · rcases List.mem_append.1 h with h | h
      · have := ih o h; omega
      · simp at h; omega
    · have := ih o h; omega
def qL (l : List Nat) : List Value := l.map fun (x : Nat) => Value.int .u64 x
theorem info_u64 : (Tryd.prog.info? 62).map (fun i => (i.zero, i.size, i.bytes)) = some (some (.int .u64 0), 1, 8) := by kernel_rfl
/-- The slice v holds the numbers xs, k of them, in memory from block B on. -/
def QO (w : World) (B : Nat) (v : Value) (k : Nat) (xs : List Nat) : Prop := w.ownsRow B 62 1 v k (qL xs)
theorem QO.k {w : World} {B : Nat} {v : Value} {k : Nat} {xs : List Nat} (h : QO w B v k xs) : xs.length = k := by
  have h' : w.ownsRow B 62 1 v k (qL xs) := h
  have := h'.1
  simp [qL] at this
  omega
theorem QO.len {w : World} {B : Nat} {v : Value} {k : Nat} {xs : List Nat} (h : QO w B v k xs) : ∃ A c, v = .slice A k c := by
  have h' : w.ownsRow B 62 1 v k (qL xs) := h
  rcases h'.2 with ⟨rfl, h0⟩ | ⟨g, c, cur, rfl, _⟩
  · rw [h0]; exact ⟨_, _, rfl⟩
  · exact ⟨_, _, rfl⟩
theorem QO.at {w : World} {B : Nat} {A : Option Addr} {c : Nat} {k : Nat} {xs : List Nat} (h : QO w B (.slice A k c) k xs) {i : Nat} (hi : i < k) : ∃ g, A = some ⟨g, 0, none⟩ ∧ B ≤ g ∧ g < w.heap.size ∧ w.cell? ⟨g, i, none⟩ = some (.int .u64 (xs.getD i 0 : Nat)) := by
  have hk := h.k
  have h' : w.ownsRow B 62 1 (.slice A k c) k (qL xs) := h
  rcases h'.2 with ⟨e, h0⟩ | ⟨g, c2, cur, e, _⟩
  · omega
  · simp only [Value.slice.injEq] at e
    obtain ⟨rfl, _, rfl⟩ := e
    refine ⟨g, rfl, (h'.lt g rfl).1, (h'.lt g rfl).2, ?_⟩
    rw [h'.cellAt i (by omega), qL, List.getElem?_map, List.getElem?_eq_getElem (by omega), List.getD_eq_getElem?_getD, List.getElem?_eq_getElem (by omega)]
    rfl
theorem QO.put {w : World} {B : Nat} {v : Value} {xs : List Nat} {k : Nat} {x : Nat} (h : w.ownsRow B 62 1 v (k + 1) (qL xs ++ [.int .u64 x])) : QO w B v (k + 1) (xs ++ [x]) := by
  unfold QO
  rw [show qL (xs ++ [x]) = qL xs ++ [.int .u64 x] by simp [qL]]
  exact h
/-- The slice v reads as the numbers xs. -/
def QN (w : World) (B : Nat) (v : Value) (xs : List Nat) : Prop := ∃ g c, v = .slice (some ⟨g, 0, none⟩) xs.length c ∧ B ≤ g ∧ g < w.heap.size ∧ ∀ i, i < xs.length → w.cell? ⟨g, i, none⟩ = some (.int .u64 (xs.getD i 0 : Nat))
theorem QN.step {w W : World} {B : Nat} {v : Value} {xs : List Nat} (h : QN w B v xs) (hb : Below w.heap.size w W) : QN W B v xs := by
  obtain ⟨g, c, rfl, hB, hg, h⟩ := h
  exact ⟨g, c, rfl, hB, Nat.lt_of_lt_of_le hg hb.size, fun i hi => (hb.cell (p := ⟨g, i, none⟩) hg).trans (h i hi)⟩
theorem QO.qn {w : World} {B : Nat} {v : Value} {xs : List Nat} {k : Nat} (h : QO w B v k xs) (h0 : 0 < k) : QN w B v xs := by
  obtain ⟨A, c, rfl⟩ := h.len
  obtain ⟨g, rfl, hB, hg, _⟩ := h.at h0
  have hk := h.k
  subst hk
  refine ⟨g, c, rfl, hB, hg, fun i hi => ?_⟩
  obtain ⟨g', e, _, _, hc⟩ := h.at hi
  cases e
  exact hc
theorem take_all (l : List Nat) (n i : Nat) (h : i < l.length) : (l.take (i + 1)).all (fun o => n % o != 0) = ((l.take i).all (fun o => n % o != 0) && (n % l.getD i 0 != 0)) := by
  rw [List.take_add_one, List.all_append, List.getElem?_eq_getElem h, List.getD_eq_getElem?_getD, List.getElem?_eq_getElem h]
  simp
theorem prE (l : List Nat) (n : Nat) (f : Bool) (h : l.all (fun o => n % o != 0) = f) : prExt l n = if f then l ++ [n] else l := by unfold prExt; rw [h]
set_option maxRecDepth 4000 in
set_option maxHeartbeats 2000000 in
theorem primes_any (N K : Nat) (w : World) (hN : N ≤ 64) (hK : K ≤ 310) (h1 : (prA K).length = N) (h2 : (prA (K - 1)).length < N) : Calls Tryd.prog 33 #[.int .i64 N] w fun e w' => ∃ v, e = .returned v ∧ QN w' w.heap.size v (prA K) ∧ Below w.heap.size w w' := by
  obtain ⟨i0, hi, hz0, hz1, hz2⟩ := info_parts info_u64
  have HH1 := Lib.hid h1; have HH2 := Lib.hid h2; clear h1 h2
  go_enter Tryd.func33, Tryd.ntmps33
  go_wp2_with fail
  go_loopw [3, 4] (fun v n wr => ∃ (k L : Nat) (A : Option Addr) (c : Nat), k ≤ K ∧ v = .slice A L c ∧ n = .int .u64 ((k : Int) + 2) ∧ Hid (QO wr w.heap.size (.slice A L c) L (prA k)) ∧ Hid (Below w.heap.size w wr)) (fun _ n _ => 1000 - (intOf n).toNat)
  case atStart => exact ⟨0, 0, none, 0, by omega, rfl, by go_num, Lib.hid (World.ownsRow_nil _ _ _ _), Lib.hid (Below.refl _ _)⟩
  case round =>
    obtain ⟨k, L, A, c, hk, rfl, rfl, HO, HB⟩ := hrel
    have hL := HO.out.k
    have hLk := prA_len k
    by_cases hlt : L < N
    · have hkK : k < K := by
        rcases Nat.lt_or_ge k K with h | h
        · exact h
        · obtain rfl : k = K := by omega
          have := HH1.out; omega
      have HL := Lib.hid hL; have HLK := Lib.hid hLk; clear hLk hL
      have hL6 : L ≤ 310 := by have := HL.out; have := HLK.out; omega
      go_wp2_with fail
      go_loopw [5, 6] (fun f i wi => ∃ (j : Nat), j ≤ L ∧ f = .bool (((prA k).take j).all (fun o => (k + 2) % o != 0)) ∧ i = .int .i64 j ∧ wi = wr) (fun _ i _ => L - (intOf i).toNat)
      case atStart => exact ⟨0, by omega, rfl, by go_num, rfl⟩
      case round =>
        obtain ⟨j, hj, rfl, rfl, rfl⟩ := hrel
        by_cases hjl : j < L
        · obtain ⟨g, rfl, _, hg, hc⟩ := HO.out.at hjl
          have hx2 : 2 ≤ (prA k).getD j 0 := by
            have hjL : j < (prA k).length := by rw [HL.out]; exact hjl
            rw [List.getD_eq_getElem?_getD, List.getElem?_eq_getElem hjL]
            exact (prA_pos k _ (List.getElem_mem hjL)).1
          have hta := take_all (prA k) (k + 2) j (by rw [HL.out]; exact hjl)
          obtain ⟨x, hx⟩ : ∃ x, (prA k).getD j 0 = x := ⟨_, rfl⟩
          rw [hx] at hc hx2 hta
          obtain ⟨f, hf⟩ : ∃ f, ((prA k).take j).all (fun o => (k + 2) % o != 0) = f := ⟨_, rfl⟩
          rw [hf] at hta ⊢
          have er : ((k : Int) + 2) % (x : Int) = (((k + 2) % x : Nat) : Int) := by rw [Int.natCast_emod]; rfl
          by_cases hr : (k + 2) % x = 0
          · have hb : (((k : Int) + 2) % (x : Int) == 0) = true := by rw [er, hr]; rfl
            have HT : Hid (((prA k).take (j + 1)).all (fun o => (k + 2) % o != 0) = false) := Lib.hid (by rw [hta, hr]; simp)
            clear hta hx hf er
            go_wp2_with fail
            go_roundw
            case rel => exact ⟨j + 1, by omega, by rw [HT.out], by go_num, trivial⟩
            case measure => simp [intOf]; omega
          · have hb : (((k : Int) + 2) % (x : Int) == 0) = false := by rw [er]; exact beq_eq_false_iff_ne.2 (by omega)
            have HT : Hid (((prA k).take (j + 1)).all (fun o => (k + 2) % o != 0) = f) := Lib.hid (by rw [hta, bne_iff_ne.2 hr, Bool.and_true])
            clear hta hx hf er
            go_wp2_with fail
            go_roundw
            case rel => exact ⟨j + 1, by omega, by rw [HT.out], by go_num, trivial⟩
            case measure => simp [intOf]; omega
        · obtain ⟨f, hf⟩ : ∃ f, ((prA k).take j).all (fun o => (k + 2) % o != 0) = f := ⟨_, rfl⟩
          rw [hf]
          have hE : prA (k + 1) = if f then prA k ++ [k + 2] else prA k := prE _ _ _ (by rw [← hf, List.take_of_length_le (by rw [HL.out]; omega)])
          clear hf
          have ek : IntKind.u64.wrap ((k : Int) + 2 + 1) = (k : Int) + 2 + 1 := by rw [IntKind.wrap_u64]; omega
          cases f with
          | false =>
            have HE : Hid (prA (k + 1) = prA k) := Lib.hid (by rw [hE]; rfl)
            clear hE
            go_wp2_with fail
            go_roundw
            case rel => exact ⟨k + 1, L, A, c, by omega, rfl, by go_num, Lib.hid (by rw [HE.out]; exact HO.out), HB⟩
            case measure => simp [intOf]; omega
          | true =>
            have HE : Hid (prA (k + 1) = prA k ++ [k + 2]) := Lib.hid (by rw [hE]; rfl)
            clear hE
            go_wp2_with (at_builtin; refine wpList_append_own _ rfl _ _ 60 rfl w.heap.size 62 i0 (.int .u64 0) 1 8 Tryd.underlying60 hi hz0 hz1 hz2 rfl (by decide) _ L (qL (prA k)) rfl (World.ownsRow.alloc HO.out _) ⟨wr.heap.size, 0, none⟩ 1 1 [.int .u64 ((k + 2 : Nat) : Int)] rfl rfl (cells_new _ _ [_]) (by simp [Value.oneCell']) (by unfold maxLen; omega) (by omega) (by have := HB.out.size; simp; omega) ?_; intro v2 w2 hown hgrow _; have hbw := (bl_alloc _ HB.out).grown hgrow (by have := HB.out.size; simp; omega) (fun k e => (World.ownsRow.lt HO.out k e).1); have HB2 := Lib.hid hbw; have HO2 : Hid (QO w2 w.heap.size v2 (L + 1) (prA (k + 1))) := Lib.hid (by rw [HE.out]; exact QO.put hown); clear hbw hown hgrow; obtain ⟨A2, c2, rfl⟩ := HO2.out.len)
            go_roundw
            case rel => exact ⟨k + 1, L + 1, A2, c2, by omega, rfl, by go_num, HO2, HB2⟩
            case measure => simp [intOf]; omega
    · have hkK : k = K := by
        rcases Nat.lt_or_ge k K with h | h
        · have h3 := prA_mono (show k ≤ K - 1 by omega)
          have := HH2.out; omega
        · omega
      subst hkK
      have HQ := Lib.hid (HO.out.qn (by have := HH2.out; omega))
      go_wp2_with fail
      go_ret
      exact ⟨_, rfl, HQ.out, HB.out⟩
end Go.Proofs.YtipcanphkdodaaaDoor
