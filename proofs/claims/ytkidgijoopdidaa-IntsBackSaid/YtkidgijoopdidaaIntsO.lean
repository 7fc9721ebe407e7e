/- Slices of bytes: what they read as; slices.Clone; the bytes of a number in a width. -/
import Derived.Test.YtkidgijoopdidaaIntsA
import Derived.Laws.BytesArg
import Derived.Shelf.Bytes.SlSmallAll
import Derived.Laws.AppendOwn
import Derived.Laws.AppendOwnNone
import Derived.Laws.OwnMore
import Derived.ChangeSlices
import Derived.Deep.Slices
namespace Go.Proofs.Ytkidgijoopdidaa
open Go.RowKit Go.Lib
set_option linter.unusedVariables false

/-- Each of the numbers is a byte. -/
def BY (xs : List Int) : Prop := ∀ x ∈ xs, 0 ≤ x ∧ x < 256
theorem BY.get {xs : List Int} (h : BY xs) {i : Nat} (hi : i < xs.length) : 0 ≤ xs.getD i 0 ∧ xs.getD i 0 < 256 := by
  rw [List.getD_eq_getElem?_getD, List.getElem?_eq_getElem hi]; exact h _ (List.getElem_mem hi)
theorem BY.app {xs ys : List Int} (h : BY xs) (k : BY ys) : BY (xs ++ ys) := by
  intro x hx; rcases List.mem_append.1 hx with hx | hx
  · exact h x hx
  · exact k x hx
theorem BY.drop {xs : List Int} (h : BY xs) (k : Nat) : BY (xs.drop k) := fun x hx => h x (List.mem_of_mem_drop hx)
def bytesV (xs : List Int) : List Value := xs.map (Value.int .u8)
/-- The slice v reads as the bytes xs. -/
def RB (w : World) (v : Value) (xs : List Int) : Prop :=
  (∃ A c, v = .slice A 0 c ∧ xs = [] ∧ (A = none → c = 0)) ∨
  ∃ g off c, v = .slice (some ⟨g, off, none⟩) xs.length c ∧ g < w.heap.size ∧ 0 < xs.length ∧ xs.length ≤ c ∧ c ≤ maxLen ∧ ∀ i, i < xs.length → w.cell? ⟨g, off + i, none⟩ = some (.int .u8 (xs.getD i 0))
theorem RB.later {W W' : World} {v : Value} {xs : List Int} (h : RB W v xs) (hb : Below W.heap.size W W') : RB W' v xs := by
  rcases h with h | ⟨g, off, c, rfl, h1, h0, h2, h3, h4⟩
  · exact .inl h
  · exact .inr ⟨g, off, c, rfl, Nat.lt_of_lt_of_le h1 hb.size, h0, h2, h3, fun i hi => (hb.cell (p := ⟨g, _, none⟩) h1).trans (h4 i hi)⟩
theorem RB.nil (w : World) : RB w (.slice none 0 0) [] := .inl ⟨none, 0, rfl, rfl, fun _ => rfl⟩
theorem RB.drewN {W : World} {v : Value} {xs : List Int} (h : RB W v xs) (n : Nat) : RB (W.drewN n) v xs := h
theorem RB.len {W : World} {v : Value} {xs : List Int} (h : RB W v xs) : ∃ A c, v = .slice A xs.length c := by
  rcases h with ⟨A, c, rfl, rfl, _⟩ | ⟨g, off, c, rfl, _⟩
  · exact ⟨A, c, rfl⟩
  · exact ⟨_, _, rfl⟩
theorem conv_rb {W : World} {v : Value} {xs : List Int} (h : RB W v xs) : (convert 22 9 v).run Try.prog W = .ok (.string (strOfNums xs)) W := by
  rcases h with ⟨A, c, rfl, rfl, _⟩ | ⟨g, off, c, rfl, _, h0, h2, h3, h4⟩
  · exact run_convert_bytes_zero W 22 5 Try.underlying22 Try.underlying5 A c 9 Try.underlying9
  · exact run_convert_bytes_arg W 22 5 Try.underlying22 Try.underlying5 g off xs.length c xs rfl h4 9 Try.underlying9
/-- The slice v holds the bytes xs, in memory from block B on. -/
def OB (w : World) (B : Nat) (v : Value) (xs : List Int) : Prop := w.ownsRow B 5 1 v xs.length (bytesV xs)
theorem OB.rb {w : World} {B : Nat} {v : Value} {xs : List Int} (h : OB w B v xs) : RB w v xs := by
  have h' : w.ownsRow B 5 1 v xs.length (bytesV xs) := h
  rcases h'.2 with ⟨rfl, h0⟩ | ⟨g, c, cur, rfl, hb, hg, hc, hm, hs, ht⟩
  · obtain rfl : xs = [] := List.eq_nil_of_length_eq_zero h0
    exact RB.nil w
  · rcases Nat.eq_zero_or_pos xs.length with h0 | h0
    · obtain rfl : xs = [] := List.eq_nil_of_length_eq_zero h0
      exact .inl ⟨_, _, rfl, rfl, fun h => by cases h⟩
    · refine .inr ⟨g, 0, c, rfl, (h'.lt g rfl).2, h0, hc, hm, fun i hi => ?_⟩
      rw [Nat.zero_add, h'.cellAt i (by omega), bytesV, List.getElem?_map, List.getElem?_eq_getElem hi, List.getD_eq_getElem?_getD, List.getElem?_eq_getElem hi]
      rfl
theorem info_u8 : (Try.prog.info? 5).map (fun i => (i.zero, i.size, i.bytes)) = some (some (.int .u8 0), 1, 1) := by kernel_rfl
theorem cells_new (w : World) (t : TypeId) (l : List Value) : ∀ j u, l[j]? = some u → (w.alloc (.cells l.toArray t)).cell? ((⟨w.heap.size, 0, none⟩ : Addr).add j) = some u := by
  intro j u hj
  have hp : (⟨w.heap.size, 0, none⟩ : Addr).add j = ⟨w.heap.size, j, none⟩ := by unfold Addr.add; split <;> simp_all
  rw [hp, World.cell?_alloc_at _ _ _ _ rfl]
  simpa using hj
theorem add_plain (g off i : Nat) : (⟨g, off, none⟩ : Addr).add i = ⟨g, off + i, none⟩ := by unfold Addr.add; split <;> simp_all
theorem rb_cells {w W : World} {g off : Nat} {xs : List Int} (hg : g < w.heap.size) (h : ∀ i, i < xs.length → w.cell? ⟨g, off + i, none⟩ = some (.int .u8 (xs.getD i 0))) (hb : Below w.heap.size w W) :
    ∀ j u, (bytesV xs)[j]? = some u → W.cell? ((⟨g, off, none⟩ : Addr).add j) = some u := by
  intro j u hj
  rw [add_plain, hb.cell (p := ⟨g, off + j, none⟩) hg]
  unfold bytesV at hj
  rw [List.getElem?_map] at hj
  by_cases hjl : j < xs.length
  · rw [List.getElem?_eq_getElem hjl] at hj
    rw [h j hjl, List.getD_eq_getElem?_getD, List.getElem?_eq_getElem hjl]
    simpa using hj
  · rw [List.getElem?_eq_none (by omega)] at hj; simp at hj
theorem bytesV_one (xs : List Int) : ∀ u ∈ bytesV xs, u.oneCell' = true := by
  intro u hu; unfold bytesV at hu; obtain ⟨x, _, rfl⟩ := List.mem_map.1 hu; rfl
theorem bytesV_len (xs : List Int) : (bytesV xs).length = xs.length * 1 := by simp [bytesV]
theorem bl_alloc {w W : World} (o : Obj) (h : Below w.heap.size w W) : Below w.heap.size w (W.alloc o) := h.alloc h.size o
theorem bl_drewN {w W : World} (n : Nat) (h : Below w.heap.size w W) : Below w.heap.size w (W.drewN n) := h.trans ⟨rfl, rfl, rfl, Nat.le_refl _, fun _ _ => rfl⟩
theorem bl_call {w W W' : World} (h : Below w.heap.size w W) (k : Below W.heap.size W W') : Below w.heap.size w W' := h.trans (k.mono h.size)

/-- What slices.Clone makes: the same bytes, in memory of its own. -/
def Made (w : World) (xs : List Int) (e : Ending) (w' : World) : Prop := ∃ v, e = .returned v ∧ OB w' w.heap.size v xs ∧ Below w.heap.size w w'
set_option maxHeartbeats 1000000 in
theorem clone_any (v : Value) (xs : List Int) (w : World) (h : RB w v xs) (hs : xs.length ≤ 1000) : Calls Try.prog 43 #[v] w (Made w xs) := by
  obtain ⟨i0, hi, hz0, hz1, hz2⟩ := info_parts info_u8
  have kn := fun (W : World) (a : Option Addr) (l c : Nat) => Lib.run_eql_slice_nil (P := Try.prog) W 22 5 a l c 0 0 Try.underlying22
  rcases h with ⟨A, c, rfl, rfl, hn⟩ | ⟨g, off, c, rfl, hg, h0, h2, h3, h4⟩
  · rcases A with _ | ad
    · obtain rfl := hn rfl
      go_enter Try.func43, Try.ntmps43
      go_wp2_with fail
      go_ret
      exact ⟨_, rfl, World.ownsRow_nil _ _ _ _, Below.refl _ _⟩
    · go_enter Try.func43, Try.ntmps43
      go_wp2_with (at_builtin; refine wpList_append_own _ rfl _ _ 22 rfl w.heap.size 5 i0 (.int .u8 0) 1 1 Try.underlying22 hi hz0 hz1 hz2 rfl (by decide) _ 0 [] rfl (World.ownsRow_lit _ #[] 0 (Nat.le_refl _) (by unfold maxLen; omega) rfl) ad 0 c [] rfl rfl (fun j u hj => by simp at hj) (by simp) (by unfold maxLen; omega) (by omega) (by simp) ?_; intro v' w2 hown hgrow _; have hbw : Below w.heap.size w w2 := (bl_alloc _ (Below.refl _ _)).grown hgrow (by simp) (fun k e => by cases e; exact Nat.le_refl _); have HB := Lib.hid hbw; have HO := Lib.hid hown; clear hbw hown hgrow)
      go_ret
      exact ⟨_, rfl, HO.out, HB.out⟩
  · have HC := Lib.hid h4; clear h4
    go_enter Try.func43, Try.ntmps43
    go_wp2_with (at_builtin; refine wpList_append_own _ rfl _ _ 22 rfl w.heap.size 5 i0 (.int .u8 0) 1 1 Try.underlying22 hi hz0 hz1 hz2 rfl (by decide) _ 0 [] rfl (World.ownsRow_lit _ #[] 0 (Nat.le_refl _) (by unfold maxLen; omega) rfl) ⟨g, off, none⟩ xs.length c (bytesV xs) rfl (bytesV_len xs) (rb_cells hg HC.out (bl_alloc _ (Below.refl _ _))) (bytesV_one xs) (by unfold maxLen; omega) (by omega) (by simp) ?_; intro v' w2 hown hgrow _; have hbw : Below w.heap.size w w2 := (bl_alloc _ (Below.refl _ _)).grown hgrow (by simp) (fun k e => by cases e; exact Nat.le_refl _); have HB := Lib.hid hbw; have HO := Lib.hid hown; clear hbw hown hgrow)
    go_ret
    exact ⟨_, rfl, by have := HO.out; rw [Nat.zero_add, List.nil_append] at this; exact this, HB.out⟩
end Go.Proofs.Ytkidgijoopdidaa
