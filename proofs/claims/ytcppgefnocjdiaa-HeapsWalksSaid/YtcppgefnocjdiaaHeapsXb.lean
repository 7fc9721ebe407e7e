/- Bytes as an argument of the laws of heaps. -/
import Derived.Test.YtcppgefnocjdiaaHeapsX
import Derived.Test.YtcppgefnocjdiaaHeapsVb
namespace Go.Proofs.Ytcppgefnocjdiaa
open Go.ChangeShapes Go.WideShapes Go.ChangeAt Go.RowKit Go.Deep
set_option linter.unusedVariables false
theorem nat_of_ints {zs : List Int} {M : Nat} (h : ∀ x ∈ zs, 0 ≤ x ∧ x < (M : Int)) : ∃ xs : List Nat, zs = xs.map (fun (x : Nat) => (x : Int)) ∧ ∀ x ∈ xs, x < M := by
  refine ⟨zs.map Int.toNat, ?_, fun x hx => ?_⟩
  · rw [List.map_map]
    conv => lhs; rw [← List.map_id zs]
    exact List.map_congr_left fun x hx => by have := h x hx; simp; omega
  · obtain ⟨y, hy, rfl⟩ := List.mem_map.1 hx
    have := h y hy
    omega
set_option maxRecDepth 100000 in
theorem open_bytes {H : Type} {enc : TypeId × Value → H} {W : World} {base : Nat} {v : Value} {d : DataW H} {p : List MemPlace} (hval : Value.okWide Try.prog W .any base 66 v)
    (h : DataW.Trod enc Try.prog W 0 (fun _ => true) true 66 v d p) : ∃ xs, RY W v xs := by
  obtain ⟨a1, len, cap, rfl⟩ := okWide_slice Try.underlying66 hval
  obtain ⟨fuel, hf⟩ := h
  rcases open_ints Try.underlying66 Try.underlying5 (by kernel_rfl) hf with ⟨hcs, hx⟩ | ⟨a, len', cap', zs, hcs, _, hl, hm, hz, hx, hcell, hwz⟩
  · simp [Value.cells] at hcs
    obtain ⟨rfl, rfl, rfl⟩ := hcs
    exact ⟨[], .inl ⟨_, _, rfl, rfl⟩⟩
  · simp [Value.cells] at hcs
    obtain ⟨rfl, rfl, rfl⟩ := hcs
    simp only [if_true] at hz
    obtain ⟨xs, rfl, hxs⟩ := nat_of_ints (M := 256) (fun x hx => by
      have := hwz x hx
      simp only [Lit.wf, Bool.and_eq_true, decide_eq_true_eq] at this
      have h1 : 0 ≤ x := this.1
      have h2 : x ≤ 255 := this.2
      exact ⟨h1, by omega⟩)
    rw [List.length_map] at hz hcell
    refine ⟨xs.take len, ?_⟩
    have hlen : (xs.take len).length = len := by rw [List.length_take]; omega
    by_cases h0 : len = 0
    · subst h0
      exact .inl ⟨_, _, rfl, by simp⟩
    · obtain ⟨ab, ao, spot⟩ := a
      have hc0 := hcell 0 (by omega)
      have hspot : spot = none := by simpa [Addr.add] using World.cell?_spot hc0
      subst hspot
      refine .inr ⟨ab, ao, cap, by rw [hlen], ?_, fun i hi => ?_⟩
      · rw [add_plain] at hc0
        rcases Nat.lt_or_ge ab W.heap.size with hlt | hge
        · exact hlt
        · simp [World.cell?, Array.getElem?_eq_none hge] at hc0
      · rw [hlen] at hi
        have := hcell i (by omega)
        rw [add_plain] at this
        rw [this, List.getD_eq_getElem?_getD, List.getD_eq_getElem?_getD, List.getElem?_map, List.getElem?_take, if_pos hi, List.getElem?_eq_getElem (by omega)]
        rfl
end Go.Proofs.Ytcppgefnocjdiaa
