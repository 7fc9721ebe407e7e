/- Lists of fields as arguments: what Join, the reference's Join and far return of them. -/
import Derived.Test.YtdcjnklagklckaaDoorJoinC
import Derived.Test.YtdcjnklagklckaaDoorLaid
import Derived.Deep.SlicePairs
namespace Go.Proofs.YtdcjnklagklckaaDoor
open Go.RowKit Go.Shelf
set_option linter.unusedVariables false

/-- The argument v reads as the fields fs. -/
def FA (w : World) (v : Value) (fs : List FD) : Prop := FSl w v fs ∨ ∃ a c, v = .slice a 0 c ∧ fs = []
theorem FA.later {W W' : World} {v : Value} {fs : List FD} (h : FA W v fs) (hb : Below W.heap.size W W') : FA W' v fs := h.elim (fun h => .inl (h.later hb)) .inr
theorem joinA_any (v : Value) (fs : List FD) (w : World) (h : FA w v fs) (hE : EscAt w) (hg : 0 < w.heap.size) :
    Calls Tryd.prog 27 #[v] w (JoinPost fs w) := by
  rcases h with h | ⟨a, c, rfl, rfl⟩
  · exact join_any v fs w h hE hg
  · exact join_none a c w
theorem rjoinA_any (v : Value) (fs : List FD) (w : World) (h : FA w v fs) : Calls Tryd.prog 28 #[v] w (JoinPost fs w) := by
  rcases h with h | ⟨a, c, rfl, rfl⟩
  · exact rjoin_any v fs w h
  · exact rjoin_none a c w

def FarPost (fs : List FD) (w : World) (e : Ending) (w' : World) : Prop := ∃ b : Bool, e = .returned (.bool b) ∧ (b = false → fs.length ≤ 70 ∧ ∀ i (h : i < fs.length), fs[i].1.size ≤ 2100) ∧ w = w'
set_option maxRecDepth 20000 in
set_option maxHeartbeats 1000000 in
theorem far_zero (a : Option Addr) (ca : Nat) (w : World) : Calls Tryd.prog 26 #[.slice a 0 ca] w (FarPost [] w) := by
  go_enter Tryd.func26, Tryd.ntmps26
  go_wp2_with fail
  refine wp_loop_rounds 1 ?_
  rw [rounds_succ]
  go_wp2_with fail
  go_ret
  exact ⟨_, rfl, fun _ => ⟨by simp, fun i h => absurd h (by simp)⟩, rfl⟩
set_option maxRecDepth 20000 in
set_option maxHeartbeats 1000000 in
theorem far_cells (g off c : Nat) (fs : List FD) (w : World) (hml : fs.length ≤ maxLen)
    (hcell : ∀ i (h : i < fs.length), w.cell? ⟨g, off + i * 2, none⟩ = some (.string fs[i].1) ∧ w.cell? ⟨g, off + i * 2 + 1, none⟩ = some (.bool fs[i].2)) :
    Calls Tryd.prog 26 #[.slice (some ⟨g, off, none⟩) fs.length c] w (FarPost fs w) := by
  have HC := Lib.hid hcell; clear hcell
  unfold maxLen at hml
  by_cases h70 : 70 < fs.length
  · go_enter Tryd.func26, Tryd.ntmps26
    go_wp2_with fail
    go_ret
    exact ⟨true, rfl, fun h => (by cases h), rfl⟩
  go_enter Tryd.func26, Tryd.ntmps26
  go_wp2_with fail
  go_loop [3, 4] (fun n i => ∃ (k m : Nat), k ≤ fs.length ∧ i = .int .i64 k ∧ m ≤ 2100 * k ∧ n = .int .i64 m ∧ Hid (∀ i (h : i < fs.length), i < k → fs[i].1.size ≤ 2100)) (fun _ i => fs.length - (intOf i).toNat)
  case atStart => exact ⟨0, 0, by omega, rfl, by omega, rfl, Lib.hid (fun i _ h => absurd h (by omega))⟩
  case round =>
    obtain ⟨k, m, hk, rfl, hm, rfl, HX⟩ := hrel
    by_cases hlt : k < fs.length
    · have c0 := (HC.out k hlt).1
      by_cases hbig : 2100 < fs[k].1.size
      · go_wp2_with fail
        go_ret
        exact ⟨true, rfl, fun h => (by cases h), rfl⟩
      · have HX2 : Hid (∀ i (h : i < fs.length), i < k + 1 → fs[i].1.size ≤ 2100) := Lib.hid (fun i h hi => by
          by_cases e : i < k
          · exact HX.out i h e
          · obtain rfl : i = k := by omega
            omega)
        go_wp2_with fail
        go_round
        case rel => exact ⟨k + 1, m + fs[k].1.size, by omega, by go_num, by omega, by go_num, HX2⟩
        case measure => simp [intOf]; omega
    · go_wp2_with fail
      go_ret
      exact ⟨_, rfl, fun _ => ⟨by omega, fun i h => HX.out i h (by omega)⟩, rfl⟩
theorem far_any (v : Value) (fs : List FD) (w : World) (h : FA w v fs) : Calls Tryd.prog 26 #[v] w (FarPost fs w) := by
  rcases h with (⟨rfl, rfl⟩ | ⟨g, off, cap, rfl, h1, h2, h3⟩) | ⟨a, c, rfl, rfl⟩
  · exact far_zero none 0 w
  · exact far_cells g off cap fs w h2 h3
  · exact far_zero a c w

/-! ### What an argument reads as -/
theorem field_shape : ∃ f0 f1 : Field, Tryd.prog.underlying 50 = some (.struct #[f0, f1]) ∧ f0.offset = 0 ∧ f1.offset = 1 ∧ f0.type = 9 ∧ f1.type = 4 :=
  ⟨_, _, Tryd.underlying50, rfl, rfl, rfl, rfl⟩
theorem spot_none {W : World} {a : Addr} {v : Value} (h : W.cell? a = some v) : a = ⟨a.block, a.off, none⟩ ∧ a.block < W.heap.size := by
  unfold World.cell? at h
  cases hb : W.heap[a.block]? with
  | none => rw [hb] at h; cases h
  | some o =>
    have hlt := (Array.getElem?_eq_some_iff.1 hb).1
    rw [hb] at h
    cases o <;> try (cases h; done)
    simp only at h
    cases hs : a.spot with
    | none => exact ⟨by rw [← hs], hlt⟩
    | some n => rw [hs] at h; simp at h
theorem add_plain (b o n : Nat) : (⟨b, o, none⟩ : Addr).add n = ⟨b, o + n, none⟩ := by unfold Addr.add; split <;> simp_all
open Go.ChangeShapes Go.WideShapes Go.Deep in
set_option maxRecDepth 100000 in
theorem open_fields {H : Type} {enc : TypeId × Value → H} {W : World} {v : Value} {d : DataW H} {p : List MemPlace} {r : Reach} {b0 : Nat}
    (hv : Value.okWide Tryd.prog W r b0 32 v) (h : DataW.Trod enc Tryd.prog W 0 (fun _ => true) true 32 v d p) : ∃ fs, FA W v fs := by
  obtain ⟨a0, len, cap, rfl⟩ := okWide_slice Tryd.underlying32 hv
  obtain ⟨fuel, hf⟩ := h
  obtain ⟨f0, f1, hs, o0, o1, t0, t1⟩ := field_shape
  have c0 : Tryd.prog.cellsOf f0.type = 1 := by rw [t0]; kernel_rfl
  have c1 : Tryd.prog.cellsOf f1.type = 1 := by rw [t1]; kernel_rfl
  rcases open_slice_pairs Tryd.underlying32 hs (by kernel_rfl) o0 o1 c0 c1 hf with ⟨hcs, hx⟩ | ⟨a, len', cap', m, n, V0, V1, D0, D1, P0, P1, hcs, _, hl, hm, hmm, hx, hcell⟩
  · simp [Value.cells] at hcs
    obtain ⟨rfl, rfl, rfl⟩ := hcs
    exact ⟨[], .inl (.inl ⟨rfl, rfl⟩)⟩
  · simp [Value.cells] at hcs
    obtain ⟨rfl, rfl, rfl⟩ := hcs
    simp only [if_true] at hmm
    by_cases h0 : len = 0
    · subst h0; exact ⟨[], .inr ⟨_, _, rfl, rfl⟩⟩
    · have hs0 := (hcell 0 (by omega)).1
      rw [Nat.zero_mul] at hs0
      have ha : a.add 0 = a := rfl
      rw [ha] at hs0
      obtain ⟨he, hlt⟩ := spot_none hs0
      have hone : ∀ i, i < len → ∃ f : FD, V0 i = .string f.1 ∧ V1 i = .bool f.2 := fun i hi => by
        obtain ⟨_, _, g0, g1⟩ := hcell i (by omega)
        rw [t0] at g0; rw [t1] at g1
        obtain ⟨s, e0, _, _⟩ := DataW.trod_string Tryd.underlying9 g0
        obtain ⟨b, e1, _⟩ := DataW.trod_bool Tryd.underlying4 g1
        exact ⟨(s, b), by simpa using e0, by simpa using e1⟩
      obtain ⟨F, hF⟩ : ∃ F : Nat → FD, ∀ i, i < len → V0 i = .string (F i).1 ∧ V1 i = .bool (F i).2 :=
        ⟨fun i => if h : i < len then Classical.choose (hone i h) else (⟨#[]⟩, false), fun i hi => by simp only [dif_pos hi]; exact Classical.choose_spec (hone i hi)⟩
      refine ⟨(List.range len).map F, .inl (.inr ⟨a.block, a.off, cap, ?_, hlt, by simp; omega, fun i hi => ?_⟩)⟩
      · rw [← he]; simp
      · rw [List.length_map, List.length_range] at hi
        obtain ⟨g0, g1, _, _⟩ := hcell i (by omega)
        rw [he, add_plain] at g0 g1
        obtain ⟨e0, e1⟩ := hF i hi
        rw [e0] at g0; rw [e1] at g1
        simp only [List.getElem_map, List.getElem_range]
        exact ⟨g0, by rw [Nat.add_assoc]; exact g1⟩
end Go.Proofs.YtdcjnklagklckaaDoor
