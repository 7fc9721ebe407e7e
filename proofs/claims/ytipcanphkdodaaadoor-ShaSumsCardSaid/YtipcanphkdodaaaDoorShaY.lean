/- Slices of slices of bytes. -/
import Derived.Test.YtipcanphkdodaaaDoorShaX
import Derived.Deep.Matrix
namespace Go.Proofs.YtipcanphkdodaaaDoor
open Go.ChangeShapes Go.WideShapes Go.ChangeAt Go.RowKit
set_option linter.unusedVariables false

/-- The slice v holds slices that read as the bytes ps. -/
def PN (w : World) (v : Value) (ps : List (List Nat)) : Prop :=
  (∃ A c, v = .slice A 0 c ∧ ps = []) ∨
  ∃ g off c, v = .slice (some ⟨g, off, none⟩) ps.length c ∧ g < w.heap.size ∧ 0 < ps.length ∧ ps.length ≤ c ∧ c ≤ maxLen ∧ ∀ i, i < ps.length → ∃ u, w.cell? ⟨g, off + i, none⟩ = some u ∧ RN w u (ps.getD i []) ∧ BB (ps.getD i []) ∧ (ps.getD i []).length ≤ maxLen
theorem PN.len {W : World} {v : Value} {ps : List (List Nat)} (h : PN W v ps) : ∃ A c, v = .slice A ps.length c := by
  rcases h with ⟨A, c, rfl, rfl⟩ | ⟨g, off, c, rfl, _⟩
  · exact ⟨A, c, rfl⟩
  · exact ⟨_, _, rfl⟩
theorem bytes_of {zs : List Int} (h : ∀ n ∈ zs, (Lit.int .u8 n).wf = true) : ∃ xs : List Nat, zs = xs.map (fun (x : Nat) => (x : Int)) ∧ BB xs :=
  nat_of_ints (M := 256) (fun x hx => wf_u8 x (h x hx))
theorem rn_of {W : World} {A : Option Addr} {L C : Nat} {zs : List Int} (hl : L ≤ C) (hm : C ≤ maxLen) (hz : zs.length = C) (hw : ∀ n ∈ zs, (Lit.int .u8 n).wf = true) (hA : A = none → C = 0)
    (hc : ∀ a', A = some a' → ∀ c, c < C → W.cell? (a'.add c) = some (.int .u8 (zs.getD c 0))) : ∃ xs : List Nat, RN W (.slice A L C) xs ∧ BB xs ∧ xs.length = L := by
  obtain ⟨xs, rfl, hb⟩ := bytes_of hw
  rw [List.length_map] at hz
  have hlen : (xs.take L).length = L := by rw [List.length_take]; omega
  refine ⟨xs.take L, ?_, hb.take L, hlen⟩
  by_cases h0 : L = 0
  · subst h0
    exact .inl ⟨_, _, rfl, by simp, hA⟩
  · cases A with
    | none => have := hA rfl; omega
    | some a =>
      obtain ⟨ab, ao, spot⟩ := a
      have hc0 := hc _ rfl 0 (by omega)
      have hspot : spot = none := by simpa [Addr.add] using World.cell?_spot hc0
      subst hspot
      refine .inr ⟨ab, ao, C, by rw [hlen], ?_, by omega, by omega, hm, fun i hi => ?_⟩
      · rw [Addr.add_mid] at hc0
        rcases Nat.lt_or_ge ab W.heap.size with hlt | hge
        · exact hlt
        · simp [World.cell?, Array.getElem?_eq_none hge] at hc0
      · rw [hlen] at hi
        have := hc _ rfl i (by omega)
        rw [Addr.add_mid] at this
        rw [this]
        simp [List.getD_eq_getElem?_getD, hi, List.getElem?_eq_getElem (show i < xs.length by omega)]
theorem choose_list {α : Type} {P : Nat → α → Prop} (z : α) : ∀ n, (∀ i, i < n → ∃ x, P i x) → ∃ l : List α, l.length = n ∧ ∀ i, i < n → P i (l.getD i z)
  | 0, _ => ⟨[], rfl, fun i h => by omega⟩
  | n + 1, h => by
    obtain ⟨l, hl, hp⟩ := choose_list z n (fun i hi => h i (by omega))
    obtain ⟨x, hx⟩ := h n (by omega)
    refine ⟨l ++ [x], by simp [hl], fun i hi => ?_⟩
    by_cases he : i = n
    · subst he
      rw [List.getD_eq_getElem?_getD, List.getElem?_append_right (by omega), hl, Nat.sub_self]
      exact hx
    · rw [List.getD_eq_getElem?_getD, List.getElem?_append_left (by omega), ← List.getD_eq_getElem?_getD]
      exact hp i (by omega)
theorem open_parts {H : Type} {enc : TypeId × Value → H} {W : World} {base : Nat} {v : Value} {d : DataW H} {p : List MemPlace} (hval : Value.okWide Tryd.prog W .any base 43 v)
    (h : DataW.Trod enc Tryd.prog W 0 (fun _ => true) true 43 v d p) : ∃ ps, PN W v ps := by
  obtain ⟨a1, len, cap, rfl⟩ := okWide_slice Tryd.underlying43 hval
  obtain ⟨fuel, hf⟩ := h
  rcases Go.Deep.open_int_rows Tryd.underlying43 Tryd.underlying31 Tryd.underlying5 (by kernel_rfl) (by kernel_rfl) hf with ⟨hcs, hx⟩ | ⟨a, len', cap', A, L, C, Z, hcs, _, hl, hm, hx, hel⟩
  · simp [Value.cells] at hcs
    obtain ⟨rfl, rfl, rfl⟩ := hcs
    exact ⟨[], .inl ⟨_, _, rfl, rfl⟩⟩
  · simp [Value.cells] at hcs
    obtain ⟨rfl, rfl, rfl⟩ := hcs
    by_cases h0 : len = 0
    · subst h0
      exact ⟨[], .inl ⟨_, _, rfl, rfl⟩⟩
    obtain ⟨ab, ao, spot⟩ := a
    have hc0 := (hel 0 (by omega)).1
    have hspot : spot = none := by simpa [Addr.add] using World.cell?_spot hc0
    subst hspot
    obtain ⟨ps, hpl, hps⟩ := choose_list (P := fun i (xs : List Nat) => ∃ u, W.cell? ⟨ab, ao + i, none⟩ = some u ∧ RN W u xs ∧ BB xs ∧ xs.length ≤ maxLen) [] len (fun i hi => by
      obtain ⟨h1, h2, h3, h4, h5, h6, h7⟩ := hel i (by omega)
      obtain ⟨xs, hr, hb, hxl⟩ := rn_of h2 h3 h4 h5 h6 (fun a' ha c hc => (h7 a' ha).2 c hc)
      rw [Addr.add_mid] at h1
      exact ⟨xs, _, h1, hr, hb, by omega⟩)
    refine ⟨ps, .inr ⟨ab, ao, cap, by rw [hpl], ?_, by omega, by omega, hm, fun i hi => hps i (by omega)⟩⟩
    rw [Addr.add_mid] at hc0
    exact World.block_lt_of_cell? W _ hc0
end Go.Proofs.YtipcanphkdodaaaDoor
