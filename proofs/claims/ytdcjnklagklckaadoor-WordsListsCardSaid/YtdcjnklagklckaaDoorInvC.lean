/- Lists of numbers as arguments: what List returns of them; lists, Same of equal ones. -/
import Derived.Test.YtdcjnklagklckaaDoorWordsU
import Derived.Test.YtdcjnklagklckaaDoorWordsX
import Derived.Test.YtdcjnklagklckaaDoorJoinD
import Derived.Deep.Slices
import Derived.Lib.SmallJoins
namespace Go.Proofs.YtdcjnklagklckaaDoor
open Go.RowKit Go.Shelf
set_option linter.unusedVariables false

/-- The argument v reads as the numbers ns. -/
def IA (w : World) (v : Value) (ns : List Int) : Prop := ISl w v ns ∨ ∃ a c, v = .slice a 0 c ∧ ns = []
theorem ISl.later {W W' : World} {v : Value} {ns : List Int} (h : ISl W v ns) (hb : Below W.heap.size W W') : ISl W' v ns := by
  rcases h with h | ⟨g, off, cap, rfl, h1, h2, h3⟩
  · exact .inl h
  · exact .inr ⟨g, off, cap, rfl, Nat.lt_of_lt_of_le h1 hb.size, h2, fun i hi => (hb.cell (p := ⟨g, _, none⟩) h1).trans (h3 i hi)⟩
theorem IA.later {W W' : World} {v : Value} {ns : List Int} (h : IA W v ns) (hb : Below W.heap.size W W') : IA W' v ns := h.elim (fun h => .inl (h.later hb)) .inr
theorem IA.len {W : World} {v : Value} {ns : List Int} (h : IA W v ns) : ∃ a c, v = .slice a ns.length c ∧ ns.length ≤ maxLen := by
  rcases h with (⟨rfl, rfl⟩ | ⟨g, off, cap, rfl, _, h, _⟩) | ⟨a, c, rfl, rfl⟩
  · exact ⟨_, _, rfl, by decide⟩
  · exact ⟨_, _, rfl, h⟩
  · exact ⟨_, _, rfl, by decide⟩
theorem FA.len {W : World} {v : Value} {ns : List FD} (h : FA W v ns) : ∃ a c, v = .slice a ns.length c := by
  rcases h with (⟨rfl, rfl⟩ | ⟨g, off, cap, rfl, _, h, _⟩) | ⟨a, c, rfl, rfl⟩
  · exact ⟨_, _, rfl⟩
  · exact ⟨_, _, rfl⟩
  · exact ⟨_, _, rfl⟩
theorem list_nilL : listL [] = ([45], 0) := by kernel_rfl
set_option maxRecDepth 20000 in
set_option maxHeartbeats 400000 in
theorem list_zero (a : Option Addr) (ca : Nat) (w : World) :
    Calls Tryd.prog 30 #[.slice a 0 ca] w fun e w' => e = .returned (.tuple #[.string ⟨#[45]⟩, .int .i64 0]) ∧ Below w.heap.size w w' := by
  go_enter Tryd.func30, Tryd.ntmps30
  go_wp2_with fail
  refine wp_loop_rounds 1 ?_
  rw [rounds_succ]
  go_wp2_with fail
  refine wp_loop_rounds 1 ?_
  rw [rounds_succ]
  go_wp2_with fail
  refine bodyPost_ret (v := .tuple #[.string ⟨#[45]⟩, .int .i64 0]) (by simp [results, Tryd.f30, go_sem]) rfl ⟨rfl, Below.refl _ _⟩
theorem listA_any (v : Value) (ns : List Int) (w : World) (h : IA w v ns) (htab : Lib.TabIs Tryd.prog w "internal/strconv.uint64pow10" .u64 Lib.pow10Tab) :
    Calls Tryd.prog 30 #[v] w fun e w' => e = .returned (.tuple #[.string ⟨(listL ns).1.toArray⟩, .int .i64 (listL ns).2]) ∧ Below w.heap.size w w' := by
  rcases h with h | ⟨a, c, rfl, rfl⟩
  · exact list_any v ns w h htab
  · rw [list_nilL]; exact list_zero a c w

/-! ### lists, Same: of equal ones -/
set_option maxRecDepth 20000 in
set_option maxHeartbeats 400000 in
theorem lists_zero (a b : Option Addr) (c d : Nat) (w : World) :
    Calls Tryd.prog 34 #[.slice a 0 c, .slice b 0 d] w fun e w' => e = .returned (.bool true) ∧ ∃ n, w' = w.drewN n := by
  go_enter Tryd.func34, Tryd.ntmps34
  go_wp2_with fail
  refine wp_loop_rounds 1 ?_
  rw [rounds_succ]
  go_wp2_with fail
  go_ret
  exact ⟨rfl, 0, rfl⟩
set_option maxRecDepth 20000 in
set_option maxHeartbeats 400000 in
theorem lists_both (xs : List Int) (w : World) (ga oa ca gb ob cb : Nat) (hml : xs.length ≤ maxLen)
    (hxc : ∀ i (h : i < xs.length), w.cell? ⟨ga, oa + i, none⟩ = some (.int .i64 xs[i]))
    (hyc : ∀ i (h : i < xs.length), w.cell? ⟨gb, ob + i, none⟩ = some (.int .i64 xs[i])) :
    Calls Tryd.prog 34 #[.slice (some ⟨ga, oa, none⟩) xs.length ca, .slice (some ⟨gb, ob, none⟩) xs.length cb] w fun e w' => e = .returned (.bool true) ∧ ∃ n, w' = w.drewN n := by
  have hne : ((xs.length : Int) != (xs.length : Int)) = false := by rw [bne_eq_false_iff_eq]
  have HXC := Lib.hid hxc; have HYC := Lib.hid hyc; clear hxc hyc
  unfold maxLen at hml
  go_enter Tryd.func34, Tryd.ntmps34
  go_wp2_with fail
  go_loopw [5] (fun i wr => ∃ k : Nat, k ≤ xs.length ∧ i = .int .i64 k ∧ Hid (∃ n, wr = w.drewN n)) (fun i _ => xs.length - (intOf i).toNat)
  case atStart => exact ⟨0, by omega, rfl, Lib.hid ⟨0, rfl⟩⟩
  case round =>
    obtain ⟨k, hk, rfl, HW⟩ := hrel
    by_cases hlt : k < xs.length
    · have a0 : wr.cell? ⟨ga, oa + k, none⟩ = some (.int .i64 xs[k]) := by obtain ⟨n, e⟩ := HW.out; rw [e]; exact HXC.out k hlt
      have b0 : wr.cell? ⟨gb, ob + k, none⟩ = some (.int .i64 xs[k]) := by obtain ⟨n, e⟩ := HW.out; rw [e]; exact HYC.out k hlt
      obtain ⟨x, hx⟩ : ∃ x, xs[k] = x := ⟨_, rfl⟩
      rw [hx] at a0 b0
      clear hx
      have j1 : (k : Int) < (xs.length : Int) := by omega
      have j2 : (x != x) = false := by simp
      go_wp2_with fail
      go_quiet (fail)
      go_wp2_with fail
      go_roundw
      case rel => exact ⟨k + 1, by omega, by go_num, Lib.hid (by obtain ⟨n, e⟩ := HW.out; rw [e]; exact ⟨n + nq, by simp [World.drewN, Nat.add_assoc]⟩)⟩
      case measure => simp [intOf]; omega
    · go_wp2_with fail
      go_ret
      exact ⟨rfl, HW.out⟩
theorem lists_eq (va vb : Value) (xs : List Int) (w : World) (ha : IA w va xs) (hb : IA w vb xs) :
    Calls Tryd.prog 34 #[va, vb] w fun e w' => e = .returned (.bool true) ∧ ∃ n, w' = w.drewN n := by
  by_cases h0 : xs.length = 0
  · obtain ⟨a, c, rfl, _⟩ := ha.len
    obtain ⟨b, d, rfl, _⟩ := hb.len
    rw [h0]; exact lists_zero a b c d w
  · rcases ha with (⟨rfl, rfl⟩ | ⟨ga, oa, ca, rfl, _, hml, hxc⟩) | ⟨a, c, rfl, rfl⟩
    · exact absurd rfl h0
    · rcases hb with (⟨rfl, rfl⟩ | ⟨gb, ob, cb, rfl, _, _, hyc⟩) | ⟨a, c, rfl, rfl⟩
      · exact absurd rfl h0
      · exact lists_both xs w ga oa ca gb ob cb hml hxc hyc
      · exact absurd rfl h0
    · exact absurd rfl h0
theorem same_eq (va vb : Value) (xs : List FD) (w : World) (ha : FA w va xs) (hb : FA w vb xs) :
    Calls Tryd.prog 25 #[va, vb] w fun e w' => e = .returned (.bool true) ∧ ∃ n, w' = w.drewN n := by
  by_cases h0 : xs.length = 0
  · obtain ⟨a, c, rfl⟩ := ha.len
    obtain ⟨b, d, rfl⟩ := hb.len
    rw [h0]; exact same_zero a b c d w
  · have ha' : FSl w va xs := ha.elim id (fun ⟨a, c, _, h⟩ => absurd (by rw [h]; rfl) h0)
    have hb' : FSl w vb xs := hb.elim id (fun ⟨a, c, _, h⟩ => absurd (by rw [h]; rfl) h0)
    have := same_any va vb xs xs w ha' hb'
    rwa [sameB_true rfl] at this

/-! ### What an argument reads as -/
open Go.ChangeShapes Go.WideShapes Go.Deep in
set_option maxRecDepth 100000 in
theorem open_list {H : Type} {enc : TypeId × Value → H} {W : World} {v : Value} {fuel : Nat} {x : DataW H × List MemPlace}
    (hf : DataW.trod enc Tryd.prog W 0 (fun _ => true) true fuel 40 [v] = some x) : ∃ ns, IA W v ns := by
  have c0 : Tryd.prog.cellsOf 3 = 1 := by kernel_rfl
  rcases open_slice1 Tryd.underlying40 c0 hf with ⟨hcs, hx⟩ | ⟨a, len, cap, m, n, V, D, P0, hcs, _, hl, hm, hmm, hx, hcell⟩
  · simp at hcs; subst hcs
    exact ⟨[], .inl (.inl ⟨rfl, rfl⟩)⟩
  · simp at hcs; subst hcs
    simp only [if_true] at hmm
    by_cases h0 : len = 0
    · subst h0; exact ⟨[], .inr ⟨_, _, rfl, rfl⟩⟩
    · have hs0 := (hcell 0 (by omega)).1
      have ha : a.add 0 = a := rfl
      rw [ha] at hs0
      obtain ⟨he, hlt⟩ := spot_none hs0
      have hone : ∀ i, i < len → ∃ n : Int, V i = .int .i64 n := fun i hi => by
        obtain ⟨_, g0⟩ := hcell i (by omega)
        obtain ⟨s, e0, _, _⟩ := DataW.trod_int Tryd.underlying3 g0
        exact ⟨s, by simpa using e0⟩
      obtain ⟨F, hF⟩ : ∃ F : Nat → Int, ∀ i, i < len → V i = .int .i64 (F i) :=
        ⟨fun i => if h : i < len then Classical.choose (hone i h) else 0, fun i hi => by simp only [dif_pos hi]; exact Classical.choose_spec (hone i hi)⟩
      refine ⟨(List.range len).map F, .inl (.inr ⟨a.block, a.off, cap, ?_, hlt, by simp; omega, fun i hi => ?_⟩)⟩
      · rw [← he]; simp
      · rw [List.length_map, List.length_range] at hi
        obtain ⟨g0, _⟩ := hcell i (by omega)
        rw [he, add_plain] at g0
        rw [hF i hi] at g0
        simp only [List.getElem_map, List.getElem_range]
        exact g0
theorem numbers_shape : ∃ f0 f1 : Field, Tryd.prog.underlying 47 = some (.struct #[f0, f1]) ∧ f0.type = 40 ∧ f1.type = 2 ∧ Go.Deep.oneCellFields Tryd.prog #[f0, f1] = true :=
  ⟨_, _, Tryd.underlying47, rfl, rfl, by kernel_rfl⟩
open Go.ChangeShapes Go.WideShapes Go.Deep in
set_option maxRecDepth 100000 in
theorem open_numbers {H : Type} {enc : TypeId × Value → H} {W : World} {v : Value} {d : DataW H} {p : List MemPlace} {r : Reach} {b0 : Nat}
    (hv : Value.okWide Tryd.prog W r b0 47 v) (h : DataW.Trod enc Tryd.prog W 0 (fun _ => true) true 47 v d p) :
    ∃ (l : Value) (ns : List Int) (n : Int), v = .agg #[l, .int .i64 n] ∧ IA W l ns ∧ -9223372036854775808 ≤ n ∧ n ≤ 9223372036854775807 := by
  obtain ⟨f0, f1, hs, t0, t1, hone⟩ := numbers_shape
  obtain ⟨c0, c1, y0, y1, m, rfl, _, _, h0, h1⟩ := Go.Joins.open_agg2 hs hone (by kernel_rfl) hv h
  rw [t0] at h0; rw [t1] at h1
  obtain ⟨ns, hn⟩ := open_list h0
  obtain ⟨n, e1, _, hw⟩ := DataW.trod_int Tryd.underlying2 h1
  simp at e1
  subst e1
  refine ⟨c0, ns, n, rfl, hn, ?_⟩
  simp [Lit.wf] at hw
  first | exact hw | (constructor <;> omega) | (simp [IntKind.inRange, IntKind.min, IntKind.max] at hw; omega)
end Go.Proofs.YtdcjnklagklckaaDoor
