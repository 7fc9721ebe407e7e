/- Items that are only read; Same of equal lists. -/
import Derived.Test.YtcppgefnocjdiaaHeapsSc
import Derived.Deep.QuietTactic
import Derived.Laws.StructEq
namespace Go.Proofs.Ytcppgefnocjdiaa
open Go.RowKit Go.Lib Go.Sort Go.Shelf
set_option linter.unusedVariables false

/-- A slice of items that is only read. -/
def RH (w : World) (v : Value) (l : List HItem) : Prop :=
  (∃ a c, v = .slice a 0 c ∧ l = []) ∨
  ∃ g off cap, v = .slice (some ⟨g, off, none⟩) l.length cap ∧ g < w.heap.size ∧ ∀ i s, l[i]? = some s → w.cell? ⟨g, off + i * 2, none⟩ = some (.int .i64 s.1) ∧ w.cell? ⟨g, off + i * 2 + 1, none⟩ = some (.int .i64 s.2)
theorem OH.rh {W : World} {B : Nat} {v : Value} {l : List HItem} (h : OH W B v l) : RH W v l := by
  rcases h.shape with ⟨rfl, rfl⟩ | ⟨g, c, rfl, _, hg⟩
  · exact .inl ⟨_, _, rfl, rfl⟩
  · refine .inr ⟨g, 0, c, rfl, hg, fun i s hi => ?_⟩
    obtain ⟨g', c', e, h1, h2, _⟩ := h.item hi
    simp only [Value.slice.injEq, Option.some.injEq, Addr.mk.injEq] at e
    obtain ⟨⟨rfl, _⟩, _⟩ := e
    rw [Nat.zero_add]
    exact ⟨h1, h2⟩
theorem RH.later {W W' : World} {v : Value} {l : List HItem} (h : RH W v l) (hb : Go.RowKit.Below W.heap.size W W') : RH W' v l := by
  rcases h with h | ⟨g, off, cap, h1, h2, h4⟩
  · exact .inl h
  · exact .inr ⟨g, off, cap, h1, Nat.lt_of_lt_of_le h2 hb.size, fun i s hi => ⟨(World.cell?_of_block (a := ⟨g, off + i * 2, none⟩) (hb.block g h2)).trans (h4 i s hi).1, (World.cell?_of_block (a := ⟨g, off + i * 2 + 1, none⟩) (hb.block g h2)).trans (h4 i s hi).2⟩⟩
theorem RH.len {W : World} {v : Value} {l : List HItem} (h : RH W v l) : ∃ A c, v = .slice A l.length c := by
  rcases h with ⟨a, c, rfl, rfl⟩ | ⟨g, off, cap, h1, _⟩
  · exact ⟨a, c, rfl⟩
  · exact ⟨_, _, h1⟩
theorem RH.at {W : World} {A : Option Addr} {n c : Nat} {l : List HItem} (h : RH W (.slice A n c) l) {i : Nat} {s : HItem} (hi : l[i]? = some s) : ∃ g off, A = some ⟨g, off, none⟩ ∧ W.cell? ⟨g, off + i * 2, none⟩ = some (.int .i64 s.1) ∧ W.cell? ⟨g, off + i * 2 + 1, none⟩ = some (.int .i64 s.2) := by
  rcases h with ⟨A', c', e, rfl⟩ | ⟨g, off, c', e, h1, h4⟩
  · simp at hi
  · simp only [Value.slice.injEq] at e
    exact ⟨g, off, e.1, (h4 i s hi).1, (h4 i s hi).2⟩
set_option maxRecDepth 20000 in
theorem neq_item (w : World) (x y : Int) : (binOp .neq 64 (.agg #[.int .i64 x, .int .i64 y]) (.agg #[.int .i64 x, .int .i64 y])).run Try.prog w = .ok (.bool false) w := by
  have u3 := Try.underlying2
  have u4 := Try.underlying3
  have hS : Try.prog.underlying 64 = some (.struct (Try.prog.fieldsOf 64)) := by kernel_rfl
  have hp : Try.prog.stoodInHeld 64 = false := by kernel_rfl
  rw [run_neq_struct, show (10000 : Nat) = 9999 + 1 from rfl, run_equalIn_agg w 9999 64 _ _ hS hp]
  simp only [Program.fieldsOf, Try.underlying64]
  go_simp
set_option maxRecDepth 20000 in
set_option maxHeartbeats 2000000 in
/-- Two slices that read as the same items. -/
theorem same_eq (v u : Value) (l : List HItem) (w : World) (hv : RH w v l) (hu : RH w u l) (hl : l.length ≤ 100000) :
    Calls Try.prog 18 #[v, u] w fun e w' => e = .returned (.bool true) ∧ Grew w w' := by
  have mixed : Try.prog.follows .mixedOrders = true := by kernel_rfl
  obtain ⟨A, c, rfl⟩ := hv.len
  obtain ⟨B, d, rfl⟩ := hu.len
  obtain ⟨n, hn⟩ : ∃ n, l.length = n := ⟨_, rfl⟩
  rw [hn] at hv hu hl ⊢
  have HV := Lib.hid hv; have HU := Lib.hid hu; have HN := Lib.hid hn
  clear hv hu hn
  have hne : ((n : Int) != (n : Int)) = false := by simp
  go_enter Try.func18, Try.ntmps18
  go_wp2_with fail
  go_loopw [5] (fun i wr => ∃ k : Nat, k ≤ n ∧ i = .int .i64 k ∧ Hid (Grew w wr)) (fun i _ => n - (intOf i).toNat)
  case atStart => exact ⟨0, by omega, rfl, Lib.hid (Grew.refl _)⟩
  case round =>
    obtain ⟨k, hk, rfl, HW⟩ := hrel
    by_cases hlt : k < n
    · have hs := getD_some (xs := l) (i := k) (by rw [HN.out]; exact hlt)
      obtain ⟨g, off, rfl, c0, c1⟩ := (HV.out.later HW.out.below).at hs
      obtain ⟨g2, off2, rfl, e0, e1⟩ := (HU.out.later HW.out.below).at hs
      obtain ⟨⟨x, y⟩, hxy⟩ : ∃ s, l.getD k d0 = s := ⟨_, rfl⟩
      rw [hxy] at c0 c1 e0 e1
      clear hs hxy
      simp only at c0 c1 e0 e1
      have hnf := neq_item
      have j1 : (k : Int) < (n : Int) := by omega
      have g0 := grown_cell c0; have g1 := grown_cell c1; have g2 := grown_cell e0; have g3 := grown_cell e1
      have i2 : IntKind.i64.wrap ((k : Int) + 1) = (k : Int) + 1 := IntWalk.i64_in _ (by omega)
      clear c0 c1 e0 e1
      go_wp2_with fail
      go_quiet_grown (fail)
      have HG : Hid (Grew w (grow (wr.drewN nq) osq)) := Lib.hid (HW.out.trans (Grew.of _ _))
      go_wp2_with fail
      go_roundw
      case rel => exact ⟨k + 1, by omega, by go_num, HG⟩
      case measure => simp [intOf]; omega
    · have j1 : ¬ (k : Int) < (n : Int) := by omega
      go_wp2_with fail
      go_ret
      exact ⟨rfl, HW.out⟩
end Go.Proofs.Ytcppgefnocjdiaa
