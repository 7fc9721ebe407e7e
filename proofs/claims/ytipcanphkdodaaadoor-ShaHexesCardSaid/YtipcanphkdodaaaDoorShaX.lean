/- Arguments: slices of bytes, arrays of integers. -/
import Derived.Test.YtipcanphkdodaaaDoorShaLaid
import Derived.ChangeSlices
import Derived.Deep.Slices
namespace Go.Proofs.YtipcanphkdodaaaDoor
open Go.ChangeShapes Go.WideShapes Go.ChangeAt Go.RowKit
set_option linter.unusedVariables false

theorem nat_of_ints {zs : List Int} {M : Nat} (h : ∀ x ∈ zs, 0 ≤ x ∧ x < (M : Int)) : ∃ xs : List Nat, zs = xs.map (fun (x : Nat) => (x : Int)) ∧ ∀ x ∈ xs, x < M := by
  refine ⟨zs.map Int.toNat, ?_, fun x hx => ?_⟩
  · rw [List.map_map]
    conv => lhs; rw [← List.map_id zs]
    exact List.map_congr_left fun x hx => by have := h x hx; simp; omega
  · obtain ⟨y, hy, rfl⟩ := List.mem_map.1 hx
    have := h y hy
    omega
theorem open_bytes {H : Type} {enc : TypeId × Value → H} {W : World} {base : Nat} {v : Value} {d : DataW H} {p : List MemPlace} (hval : Value.okWide Tryd.prog W .any base 31 v)
    (h : DataW.Trod enc Tryd.prog W 0 (fun _ => true) true 31 v d p) : ∃ xs, RN W v xs ∧ BB xs ∧ xs.length ≤ maxLen := by
  obtain ⟨a1, len, cap, rfl⟩ := okWide_slice Tryd.underlying31 hval
  obtain ⟨fuel, hf⟩ := h
  rcases open_ints Tryd.underlying31 Tryd.underlying5 (by kernel_rfl) hf with ⟨hcs, hx⟩ | ⟨a, len', cap', zs, hcs, _, hl, hm, hz, hx, hcell, hwz⟩
  · simp [Value.cells] at hcs
    obtain ⟨rfl, rfl, rfl⟩ := hcs
    exact ⟨[], RN.nil W, BB.nil, Nat.zero_le _⟩
  · simp [Value.cells] at hcs
    obtain ⟨rfl, rfl, rfl⟩ := hcs
    simp only [if_true] at hz
    obtain ⟨xs, rfl, hxs⟩ := nat_of_ints (M := 256) (fun x hx => by
      have := hwz x hx
      simp only [Lit.wf, Bool.and_eq_true, decide_eq_true_eq] at this
      have h1 : 0 ≤ x := this.1
      have h2 : x ≤ 255 := this.2
      exact ⟨h1, by omega⟩)
    rw [List.length_map] at hz hcell
    refine ⟨xs.take len, ?_, BB.take hxs len, by rw [List.length_take]; omega⟩
    have hlen : (xs.take len).length = len := by rw [List.length_take]; omega
    by_cases h0 : len = 0
    · subst h0
      exact .inl ⟨_, _, rfl, by simp, fun h => by cases h⟩
    · obtain ⟨ab, ao, spot⟩ := a
      have hc0 := hcell 0 (by omega)
      have hspot : spot = none := by simpa [Addr.add] using World.cell?_spot hc0
      subst hspot
      refine .inr ⟨ab, ao, cap, by rw [hlen], ?_, by omega, by omega, hm, fun i hi => ?_⟩
      · rw [Addr.add_mid] at hc0
        rcases Nat.lt_or_ge ab W.heap.size with hlt | hge
        · exact hlt
        · simp [World.cell?, Array.getElem?_eq_none hge] at hc0
      · rw [hlen] at hi
        have := hcell i (by omega)
        rw [Addr.add_mid] at this
        rw [this]
        simp [List.getD_eq_getElem?_getD, hi, List.getElem?_eq_getElem (show i < xs.length by omega)]
theorem okWide_row {P : Program} {w : World} {r : Reach} {base n : Nat} {t e : TypeId} {v : Value} (ht : P.underlying t = some (.array n e)) (h : Value.okWide P w r base t v) : ∃ cs, v = .agg cs ∧ cs.size = P.cellsOf t := by
  simp only [Value.okWide, ht] at h
  obtain ⟨cs, h1, h2, _⟩ := h
  exact ⟨cs, h1, h2⟩
theorem open_array {P : Program} {H : Type} {enc : TypeId × Value → H} {W : World} {base n M : Nat} {t e : TypeId} {k : IntKind} {v : Value} {d : DataW H} {p : List MemPlace} (ht : P.underlying t = some (.array n e)) (he : P.underlying e = some (.int k)) (hce : P.cellsOf e = 1) (hct : P.cellsOf t = n)
    (hM : ∀ z : Int, (Lit.int k z).wf = true → 0 ≤ z ∧ z < (M : Int)) (hval : Value.okWide P W .any base t v) (h : DataW.Trod enc P W 0 (fun _ => true) true t v d p) :
    ∃ xs : List Nat, v = .agg (xs.map fun (x : Nat) => Value.int k x).toArray ∧ xs.length = n ∧ ∀ x ∈ xs, x < M := by
  obtain ⟨cs, rfl, hsz⟩ := okWide_row ht hval
  obtain ⟨fuel, hf⟩ := h
  obtain ⟨xs, m, _, _, hl, hxl, hel⟩ := DataW.trod_array ht hf
  rw [hct] at hsz
  obtain ⟨l⟩ := cs
  have hls : l.length = n := by simpa using hsz
  have hcell : ∀ i (h : i < l.length), ∃ z : Nat, l[i] = .int k (z : Int) ∧ z < M := fun i h => by
    have h1 := hel i (by omega)
    rw [hce, Nat.mul_one] at h1
    have hd : (((Value.agg ⟨l⟩).cells.toList.drop i).take 1) = [l[i]] := by
      have e : (Value.agg ⟨l⟩).cells = ⟨l⟩ := rfl
      rw [e]
      show (l.drop i).take 1 = _
      rw [List.drop_eq_getElem_cons h, List.take_succ_cons, List.take_zero]
    rw [hd, List.getElem?_eq_getElem (show i < xs.length by omega)] at h1
    obtain ⟨z, hz, _, hw⟩ := DataW.trod_int he h1
    have hb := hM z hw
    refine ⟨z.toNat, ?_, by omega⟩
    simp only [List.cons.injEq, and_true] at hz
    rw [hz, Int.toNat_of_nonneg hb.1]
  have hall : ∀ (l : List Value), (∀ i (h : i < l.length), ∃ z : Nat, l[i] = .int k (z : Int) ∧ z < M) → ∃ xs : List Nat, l = xs.map (fun (x : Nat) => Value.int k x) ∧ ∀ x ∈ xs, x < M := fun l => by
    induction l with
    | nil => exact fun _ => ⟨[], rfl, fun x hx => by cases hx⟩
    | cons a l ih =>
      intro hc
      obtain ⟨z, hz, hzM⟩ := hc 0 (by simp)
      obtain ⟨ys, hy, hyM⟩ := ih (fun i h => by have := hc (i + 1) (by simpa using h); simpa using this)
      refine ⟨z :: ys, by rw [List.map_cons, ← hy]; simp at hz; rw [hz], fun x hx => ?_⟩
      rcases List.mem_cons.1 hx with rfl | hx
      · exact hzM
      · exact hyM x hx
  obtain ⟨ys, rfl, hM2⟩ := hall l hcell
  exact ⟨ys, rfl, by simpa using hls, hM2⟩
set_option maxRecDepth 20000 in
theorem wf_u32 (z : Int) (h : (Lit.int .u32 z).wf = true) : 0 ≤ z ∧ z < ((4294967296 : Nat) : Int) := by
  simp only [Lit.wf, Bool.and_eq_true, decide_eq_true_eq] at h
  have h1 : 0 ≤ z := h.1
  have h2 : z ≤ 4294967295 := h.2
  omega
theorem wf_u8 (z : Int) (h : (Lit.int .u8 z).wf = true) : 0 ≤ z ∧ z < ((256 : Nat) : Int) := by
  simp only [Lit.wf, Bool.and_eq_true, decide_eq_true_eq] at h
  have h1 : 0 ≤ z := h.1
  have h2 : z ≤ 255 := h.2
  omega
section
variable {H : Type} {enc : TypeId × Value → H} {W : World} {base : Nat} {v : Value} {d : DataW H} {p : List MemPlace}
theorem open_state (hval : Value.okWide Tryd.prog W .any base 23 v) (h : DataW.Trod enc Tryd.prog W 0 (fun _ => true) true 23 v d p) : ∃ xs : List Nat, v = .agg (uV xs) ∧ xs.length = 8 ∧ WW xs :=
  open_array Tryd.underlying23 Tryd.underlying22 (by kernel_rfl) (by kernel_rfl) wf_u32 hval h
theorem open_block (hval : Value.okWide Tryd.prog W .any base 24 v) (h : DataW.Trod enc Tryd.prog W 0 (fun _ => true) true 24 v d p) : ∃ xs : List Nat, v = .agg (yV xs) ∧ xs.length = 64 ∧ BB xs :=
  open_array Tryd.underlying24 Tryd.underlying5 (by kernel_rfl) (by kernel_rfl) wf_u8 hval h
theorem open_digest (hval : Value.okWide Tryd.prog W .any base 32 v) (h : DataW.Trod enc Tryd.prog W 0 (fun _ => true) true 32 v d p) : ∃ xs : List Nat, v = .agg (yV xs) ∧ xs.length = 32 ∧ BB xs :=
  open_array Tryd.underlying32 Tryd.underlying5 (by kernel_rfl) (by kernel_rfl) wf_u8 hval h
end
end Go.Proofs.YtipcanphkdodaaaDoor
