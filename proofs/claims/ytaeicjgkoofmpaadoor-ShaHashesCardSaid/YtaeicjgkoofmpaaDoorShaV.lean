/- Slices of acts. -/
import Derived.Test.YtaeicjgkoofmpaaDoorShaY
import Derived.Deep.Slices
import Derived.Deep.Strs
namespace Go.Proofs.YtaeicjgkoofmpaaDoor
open Go.ChangeShapes Go.WideShapes Go.ChangeAt Go.RowKit
set_option linter.unusedVariables false
set_option maxRecDepth 100000

theorem triple_at {H : Type} {enc : TypeId × Value → H} {P : Program} {w : World} {base : Nat} {spare : Nat → Bool} {held : Bool} {e : TypeId} {f0 f1 f2 : Field} {n : Nat} {a : Addr} {cs : List Value} {x : DataW H × List MemPlace}
    (he : P.underlying e = some (.struct #[f0, f1, f2])) (o0 : f0.offset = 0) (o1 : f1.offset = 1) (o2 : f2.offset = 2) (c0 : P.cellsOf f0.type = 1) (c1 : P.cellsOf f1.type = 1) (c2 : P.cellsOf f2.type = 1)
    (h1 : w.cells? base a 3 = some cs) (h2 : DataW.trod enc P w base spare held n e cs = some x) :
    ∃ v0 v1 v2 k y0 y1 y2, w.cell? (a.add 0) = some v0 ∧ w.cell? (a.add 1) = some v1 ∧ w.cell? (a.add 2) = some v2 ∧ DataW.trod enc P w base spare held k f0.type [v0] = some y0 ∧
      DataW.trod enc P w base spare held k f1.type [v1] = some y1 ∧ DataW.trod enc P w base spare held k f2.type [v2] = some y2 := by
  obtain ⟨_, hlen, hcell⟩ := World.cells?_some h1
  obtain ⟨y0, y1, y2, k, _, _, g0, g1, g2⟩ := Go.Deep.trod_struct3 he h2
  match cs, hlen with
  | [v0, v1, v2], _ =>
    simp [o0, o1, o2, c0, c1, c2] at g0 g1 g2
    exact ⟨v0, v1, v2, k, y0, y1, y2, by simpa using hcell 0 (by omega), by simpa using hcell 1 (by omega), by simpa using hcell 2 (by omega), g0, g1, g2⟩
/-- An act: what, whether of the second, its bytes. -/
abbrev ActT := Nat × Bool × List Nat
def ActAt (w : World) (g off : Nat) (x : ActT) : Prop :=
  w.cell? ⟨g, off, none⟩ = some (.int .u8 (x.1 : Nat)) ∧ w.cell? ⟨g, off + 1, none⟩ = some (.bool x.2.1) ∧ x.1 < 256 ∧
    ∃ u, w.cell? ⟨g, off + 2, none⟩ = some u ∧ RN w u x.2.2 ∧ BB x.2.2 ∧ x.2.2.length ≤ maxLen
/-- The slice v holds the acts l. -/
def XN (w : World) (v : Value) (l : List ActT) : Prop :=
  (∃ A c, v = .slice A 0 c ∧ l = []) ∨
  ∃ g off c, v = .slice (some ⟨g, off, none⟩) l.length c ∧ g < w.heap.size ∧ 0 < l.length ∧ l.length ≤ c ∧ c ≤ maxLen ∧ ∀ i, i < l.length → ActAt w g (off + i * 3) (l.getD i (0, false, []))
theorem XN.len {W : World} {v : Value} {l : List ActT} (h : XN W v l) : ∃ A c, v = .slice A l.length c := by
  rcases h with ⟨A, c, rfl, rfl⟩ | ⟨g, off, c, rfl, _⟩
  · exact ⟨A, c, rfl⟩
  · exact ⟨_, _, rfl⟩
theorem trod_bytes {H : Type} {enc : TypeId × Value → H} {W : World} {v : Value} {fuel : Nat} {y : DataW H × List MemPlace} (hf : DataW.trod enc Tryd.prog W 0 (fun _ => true) true fuel 27 [v] = some y) :
    ∃ xs, RN W v xs ∧ BB xs ∧ xs.length ≤ maxLen := by
  rcases open_ints Tryd.underlying27 Tryd.underlying5 (by kernel_rfl) hf with ⟨hcs, hx⟩ | ⟨a, len, cap, zs, hcs, _, hl, hm, hz, hx, hcell, hwz⟩
  · simp only [List.cons.injEq, and_true] at hcs
    subst hcs
    exact ⟨[], RN.nil W, BB.nil, Nat.zero_le _⟩
  · simp only [List.cons.injEq, and_true] at hcs
    subst hcs
    simp only [if_true] at hz
    obtain ⟨xs, rfl, hxs⟩ := nat_of_ints (M := 256) (fun x hx => by
      have := hwz x hx
      simp only [Lit.wf, Bool.and_eq_true, decide_eq_true_eq] at this
      have h1 : 0 ≤ x := this.1
      have h2 : x ≤ 255 := this.2
      exact ⟨h1, by omega⟩)
    rw [List.length_map] at hz hcell
    refine ⟨xs.take len, ?_, BB.take hxs len, by rw [List.length_take]; omega⟩
    have hlen : (xs.take len).length = len := by rw [List.length_take]; omega
    by_cases h0 : len = 0
    · subst h0
      exact .inl ⟨_, _, rfl, by simp, fun h => by cases h⟩
    · obtain ⟨ab, ao, spot⟩ := a
      have hc0 := hcell 0 (by omega)
      have hspot : spot = none := by simpa [Addr.add] using World.cell?_spot hc0
      subst hspot
      refine .inr ⟨ab, ao, cap, by rw [hlen], ?_, by omega, by omega, hm, fun i hi => ?_⟩
      · rw [Addr.add_mid] at hc0
        rcases Nat.lt_or_ge ab W.heap.size with hlt | hge
        · exact hlt
        · simp [World.cell?, Array.getElem?_eq_none hge] at hc0
      · rw [hlen] at hi
        have := hcell i (by omega)
        rw [Addr.add_mid] at this
        rw [this]
        simp [List.getD_eq_getElem?_getD, hi, List.getElem?_eq_getElem (show i < xs.length by omega)]
theorem open_acts {H : Type} {enc : TypeId × Value → H} {W : World} {base : Nat} {v : Value} {d : DataW H} {p : List MemPlace} (hval : Value.okWide Tryd.prog W .any base 22 v)
    (h : DataW.Trod enc Tryd.prog W 0 (fun _ => true) true 22 v d p) : ∃ l, XN W v l := by
  obtain ⟨a1, len, cap, rfl⟩ := okWide_slice Tryd.underlying22 hval
  obtain ⟨fuel, hf⟩ := h
  rcases Go.Deep.open_slice Tryd.underlying22 hf with ⟨hcs, hx⟩ | ⟨a, len', cap', m, n, D, Pl, hcs, _, hl, hm, hmm, hx, hel⟩
  · simp [Value.cells] at hcs
    obtain ⟨rfl, rfl, rfl⟩ := hcs
    exact ⟨[], .inl ⟨_, _, rfl, rfl⟩⟩
  · simp [Value.cells] at hcs
    obtain ⟨rfl, rfl, rfl⟩ := hcs
    simp only [if_true] at hmm
    subst hmm
    by_cases h0 : len = 0
    · subst h0
      exact ⟨[], .inl ⟨_, _, rfl, rfl⟩⟩
    have each : ∀ i, i < len → ∃ x : ActT, ∃ u, W.cell? ((a.add (i * 3)).add 0) = some (.int .u8 (x.1 : Nat)) ∧ W.cell? ((a.add (i * 3)).add 1) = some (.bool x.2.1) ∧ x.1 < 256 ∧ W.cell? ((a.add (i * 3)).add 2) = some u ∧ RN W u x.2.2 ∧ BB x.2.2 ∧ x.2.2.length ≤ maxLen := by
      intro i hi
      obtain ⟨cs', h1, h2⟩ := hel i (by omega)
      rw [show Tryd.prog.cellsOf 30 = 3 by kernel_rfl] at h1
      obtain ⟨v0, v1, v2, k, y0, y1, y2, k0, k1, k2, g0, g1, g2⟩ := triple_at Tryd.underlying30 rfl rfl rfl (by kernel_rfl) (by kernel_rfl) (by kernel_rfl) h1 h2
      obtain ⟨z, e0, _, wz⟩ := DataW.trod_int Tryd.underlying5 g0
      obtain ⟨b, e1, _⟩ := DataW.trod_bool Tryd.underlying4 g1
      obtain ⟨zl, zh⟩ := wf_u8 z wz
      obtain ⟨q, rfl⟩ : ∃ q : Nat, z = q := ⟨z.toNat, by omega⟩
      obtain ⟨xs, r1, r2, r3⟩ : ∃ xs, RN W v2 xs ∧ BB xs ∧ xs.length ≤ maxLen := trod_bytes g2
      simp only [List.cons.injEq, and_true] at e0 e1
      subst e0 e1
      exact ⟨(q, b, xs), v2, k0, k1, by omega, k2, r1, r2, r3⟩
    obtain ⟨ab, ao, spot⟩ := a
    obtain ⟨l, hll, hl2⟩ := choose_list (P := fun i (x : ActT) => ∃ u, W.cell? (((⟨ab, ao, spot⟩ : Addr).add (i * 3)).add 0) = some (.int .u8 (x.1 : Nat)) ∧ W.cell? (((⟨ab, ao, spot⟩ : Addr).add (i * 3)).add 1) = some (.bool x.2.1) ∧ x.1 < 256 ∧ W.cell? (((⟨ab, ao, spot⟩ : Addr).add (i * 3)).add 2) = some u ∧ RN W u x.2.2 ∧ BB x.2.2 ∧ x.2.2.length ≤ maxLen) (0, false, []) len each
    have hsp : spot = none := by
      obtain ⟨u, q0, _⟩ := hl2 0 (by omega)
      cases spot with
      | none => rfl
      | some t => simpa [Addr.add] using World.cell?_spot q0
    subst hsp
    obtain ⟨u, q0, _⟩ := hl2 0 (by omega)
    refine ⟨l, .inr ⟨ab, ao, _, by rw [hll], ?_, by omega, by omega, hm, fun i hi => ?_⟩⟩
    · rw [Addr.add_mid, Addr.add_mid] at q0
      exact World.block_lt_of_cell? W _ q0
    · rw [hll] at hi
      obtain ⟨u, p0, p1, p2, p3, p4, p5, p6⟩ := hl2 i hi
      rw [Addr.add_mid, Addr.add_mid] at p0 p1 p3
      exact ⟨p0, p1, p2, u, p3, p4, p5, p6⟩
end Go.Proofs.YtaeicjgkoofmpaaDoor
