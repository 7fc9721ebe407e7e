/- Rows of spans of the call's own; sorting them. -/
import Derived.Test.YtnmgcfpemmejlaaDoorTimesE
import Derived.Test.YtnmgcfpemmejlaaDoorShelf
import Derived.Shelf.SlSortCmp.NoneTotal
import Derived.Laws.OwnMore
import Derived.Lib.SmallJoins
import Derived.OwnWalk
namespace Go.Proofs.YtnmgcfpemmejlaaDoor
open Go.RowKit Go.Lib Go.Sort Go.Shelf
set_option linter.unusedVariables false

def encS (s : Span) : List Value := [.int .i64 s.1, .int .i64 s.2]
/-- The cells of spans. -/
def spC (l : List Span) : List Value := l.flatMap encS
theorem spC_snoc (l : List Span) (s : Span) : spC (l ++ [s]) = spC l ++ encS s := by simp [spC]
theorem spC_len : ∀ l : List Span, (spC l).length = l.length * 2
  | [] => rfl
  | s :: l => by
    have := spC_len l
    simp only [spC, List.flatMap_cons, List.length_append, List.length_cons] at this ⊢
    rw [this]; simp [encS]; omega
theorem spC_at : ∀ (l : List Span) (i : Nat) (s : Span), l[i]? = some s → (spC l)[i * 2]? = some (.int .i64 s.1) ∧ (spC l)[i * 2 + 1]? = some (.int .i64 s.2)
  | [], _, _, h => by simp at h
  | r :: l, 0, s, h => by simp at h; subst h; exact ⟨rfl, rfl⟩
  | r :: l, i + 1, s, h => by
    have := spC_at l i s (by simpa using h)
    simp only [spC, List.flatMap_cons] at this ⊢
    rw [show (i + 1) * 2 = i * 2 + 2 by omega]
    exact this
/-- A row of spans of the call's own. -/
def OS (w : World) (B : Nat) (v : Value) (l : List Span) : Prop := w.ownsRow B 32 2 v l.length (spC l)
theorem OS.nil (w : World) (B : Nat) : OS w B (.slice none 0 0) [] := ⟨rfl, Or.inl ⟨rfl, rfl⟩⟩
theorem OS.rs {B : Nat} {W : World} {v : Value} {l : List Span} (h : OS W B v l) : RS W v l := by
  have h' : W.ownsRow B 32 2 v l.length (spC l) := h
  rcases h'.2 with ⟨rfl, hn⟩ | ⟨g, cap, cur, rfl, hg, hc, hm, h3, h4, h5⟩
  · exact .inl ⟨_, _, rfl, List.eq_nil_of_length_eq_zero hn⟩
  · refine .inr ⟨g, 0, cap, rfl, (Array.getElem?_eq_some_iff.1 hc).1, by omega, fun i s hi => ?_⟩
    have hil := (List.getElem?_eq_some_iff.1 hi).1
    obtain ⟨e0, e1⟩ := spC_at l i s hi
    rw [h'.cellAt _ (by omega), h'.cellAt _ (by omega), Nat.zero_add]
    exact ⟨e0, e1⟩
theorem OS.len {W : World} {B : Nat} {v : Value} {l : List Span} (h : OS W B v l) : ∃ A c, v = .slice A l.length c := h.rs.len
theorem OS.later {W W' : World} {B : Nat} {v : Value} {l : List Span} (h : OS W B v l) (hb : Below W.heap.size W W') : OS W' B v l := by
  refine World.ownsRow.kept h (row := none) ⟨hb.os, hb.tape, hb.output, hb.size, fun k hk _ => hb.block k hk⟩ ?_
  cases v.ownBlock with
  | none => exact .inl rfl
  | some b => exact .inr (by simp)
theorem OS.base {W : World} {B B' : Nat} {v : Value} {l : List Span} (h : OS W B v l) (hb : B' ≤ B) : OS W B' v l := ⟨h.1, h.2.imp id fun ⟨g, cap, cur, e, h1, r⟩ => ⟨g, cap, cur, e, Nat.le_trans hb h1, r⟩⟩
theorem OS.lt {W : World} {B : Nat} {v : Value} {l : List Span} (h : OS W B v l) : ∀ k, v.ownBlock = some k → B ≤ k ∧ k < W.heap.size := World.ownsRow.lt h
theorem OS.shape {W : World} {B : Nat} {v : Value} {l : List Span} (h : OS W B v l) : (v = .slice none 0 0 ∧ l = []) ∨ ∃ g c, v = .slice (some ⟨g, 0, none⟩) l.length c ∧ B ≤ g ∧ g < W.heap.size := by
  have h' : W.ownsRow B 32 2 v l.length (spC l) := h
  rcases h'.2 with ⟨rfl, hn⟩ | ⟨g, cap, cur, rfl, hg, hc, hm, h3, h4, h5⟩
  · exact .inl ⟨rfl, List.eq_nil_of_length_eq_zero hn⟩
  · exact .inr ⟨g, cap, rfl, hg, (Array.getElem?_eq_some_iff.1 hc).1⟩
/-- Rows that lie below another's base. -/
theorem OS.below {W W' : World} {B B' : Nat} {v : Value} {l : List Span} (h : OS W B v l) (hlt : ∀ k, v.ownBlock = some k → k < B') (hb : Below B' W W') : OS W' B v l := by
  have h' : W.ownsRow B 32 2 v l.length (spC l) := h
  refine ⟨h'.1, ?_⟩
  rcases h'.2 with h0 | ⟨g, cap, cur, rfl, hg, hc, hm⟩
  · exact .inl h0
  · exact .inr ⟨g, cap, cur, rfl, hg, (hb.block g (hlt g rfl)).trans hc, hm⟩

/-! ### Sorting -/
theorem flat_spC (l : List Span) : (flatK encS 2 l.toArray).toList = spC l := by
  apply List.ext_getElem?
  intro j
  by_cases hj : j < l.length * 2
  · have h1 : j < (flatK encS 2 l.toArray).size := by rw [size_flatK]; simpa using hj
    obtain ⟨q, hq⟩ : ∃ q, j = q * 2 ∨ j = q * 2 + 1 := ⟨j / 2, by omega⟩
    have h2 : q < l.length := by omega
    obtain ⟨s, hs⟩ : ∃ s, l[q]? = some s := ⟨_, List.getElem?_eq_getElem h2⟩
    have hs2 : l.toArray[q]! = s := by
      rw [getElem!_pos l.toArray q (by simpa using h2)]; exact (List.getElem?_eq_some_iff.1 hs).2
    obtain ⟨e0, e1⟩ := spC_at l q _ hs
    have e := get_flatK encS 2 l.toArray j (by simpa using hj)
    rw [Array.getElem?_toList, Array.getElem?_eq_getElem h1, ← getElem!_pos _ j h1, e]
    rcases hq with rfl | rfl
    · rw [e0, show q * 2 / 2 = q by omega, show q * 2 % 2 = 0 by omega, hs2]; rfl
    · rw [e1, show (q * 2 + 1) / 2 = q by omega, show (q * 2 + 1) % 2 = 1 by omega, hs2]; rfl
  · rw [List.getElem?_eq_none (by rw [Array.length_toList, size_flatK]; simpa using hj), List.getElem?_eq_none (by rw [spC_len]; omega)]
theorem holds_of_os {w : World} {B g cap : Nat} {l : List Span} (h : OS w B (.slice (some ⟨g, 0, none⟩) l.length cap) l) : HoldsK encS 2 w g 0 l.toArray := by
  have h' : w.ownsRow B 32 2 (.slice (some ⟨g, 0, none⟩) l.length cap) l.length (spC l) := h
  intro j hj
  rw [size_flatK] at hj
  have hj' : j < l.length * 2 := by simpa using hj
  rw [Nat.zero_add]
  refine ⟨?_, h'.frozenAt j⟩
  rw [h'.cellAt j hj', ← flat_spC, Array.getElem?_toList, Array.getElem?_eq_getElem (by rw [size_flatK]; exact hj), ← getElem!_pos _ j (by rw [size_flatK]; exact hj)]
  rfl
theorem os_putRowK {w : World} {B g cap q : Nat} {l d : List Span} {os : Array Obj} (h : OS w B (.slice (some ⟨g, 0, none⟩) l.length cap) l) (hd : d.length = l.length) :
    OS (grow (putRowK encS 2 (Sort.ahead w q) g 0 d.toArray) os) B (.slice (some ⟨g, 0, none⟩) l.length cap) d ∧ Go.RowKit.Below B w (grow (putRowK encS 2 (Sort.ahead w q) g 0 d.toArray) os) := by
  have h' : w.ownsRow B 32 2 (.slice (some ⟨g, 0, none⟩) l.length cap) l.length (spC l) := h
  have hB : B ≤ g ∧ g < w.heap.size := h'.lt g rfl
  rcases h'.2 with ⟨e0, _⟩ | ⟨g', cap', cur, e0, hb, hg, hn, hm, hs, ht⟩
  · cases e0
  · injection e0 with e1 _ e3
    injection e1 with e1
    injection e1 with e1
    subst e1; subst e3
    have hblk : ∀ k, k < w.heap.size → (grow (putRowK encS 2 (Sort.ahead w q) g 0 d.toArray) os).heap[k]? = (putRowK encS 2 (Sort.ahead w q) g 0 d.toArray).heap[k]? := fun k hk =>
      heap_grow_old _ os (by simpa [putRowK, putRow, mapBlock, Sort.ahead] using hk)
    constructor
    · refine ⟨spC_len _, .inr ⟨g, cap, putCells id 0 (flatK encS 2 d.toArray) cur, by rw [hd], hb, ?_, by omega, hm, by simpa [putCells] using hs, ?_⟩⟩
      · rw [hblk g hB.2]; simp [putRowK, putRow, mapBlock, Sort.ahead, Array.getElem?_modify, hg, onCells]
      · rw [← flat_spC]
        apply List.ext_getElem?
        intro j
        rw [List.getElem?_take, Array.getElem?_toList, Array.getElem?_toList]
        by_cases hj : j < d.length * 2
        · have hjc : j < cur.size := by omega
          have hjf : j < (flatK encS 2 d.toArray).size := by rw [size_flatK]; simpa using hj
          simp only [if_pos hj, putCells, Array.getElem?_mapIdx, Array.getElem?_eq_getElem hjc, Option.map_some]
          rw [if_pos (by omega), Array.getElem?_eq_getElem hjf, Nat.sub_zero, getElem!_pos _ j hjf]; rfl
        · rw [if_neg hj, Array.getElem?_eq_none (by rw [size_flatK]; simpa using hj)]
    · refine ⟨rfl, rfl, rfl, ?_, fun k hk => ?_⟩
      · simp [grow, putRowK, putRow, mapBlock, Sort.ahead]
      · rw [hblk k (by omega)]
        simp [putRowK, putRow, mapBlock, Sort.ahead, Array.getElem?_modify, show g ≠ k by omega]

def cmpF (x y : Span) : Int := Lib.compareInt x.1 y.1
theorem ltF (x y : Span) : ltOf cmpF x y = decide (x.1 < y.1) := by
  unfold ltOf cmpF Lib.compareInt
  by_cases h1 : x.1 < y.1
  · simp [h1]
  · by_cases h2 : y.1 < x.1 <;> simp [h1, h2]
theorem swoF : SWO (ltOf cmpF) where
  irrefl x := by rw [ltF]; simp
  trans x y z h1 h2 := by rw [ltF] at *; simp at *; omega
  ntrans x y z h1 h2 := by rw [ltF] at *; simp at *; omega
set_option maxHeartbeats 1000000 in
theorem closure_any (x y : Span) (W : World) : Calls Tryd.prog 52 #[.agg #[.int .i64 x.1, .int .i64 x.2], .agg #[.int .i64 y.1, .int .i64 y.2]] W fun e w' => e = .returned (.int .i64 (cmpF x y)) ∧ ∃ q os', w' = grow (W.drewN q) os' := by
  have hcon := fun W' => Tryd.cmp_Compare_int x.1 y.1 W'
  unfold cmpF
  generalize Lib.compareInt x.1 y.1 = r at hcon ⊢
  go_enter Tryd.func52, Tryd.ntmps52
  go_wp2_with (go_at_call 53; refine (hcon _).mono ?_; rintro e w' ⟨rfl, rfl⟩)
  go_ret
  exact ⟨rfl, 0, _, by rw [alloc_eq_grow, alloc_eq_grow, grow_grow]; rfl⟩
theorem cmpLaysF (blk off size : Nat) (w : World) : CmpLays Tryd.prog 52 #[] encS 2 cmpF blk off size w :=
  fun _ _ _ _ x y => closure_any x y _
theorem sorted_list {l : List Span} {d : Array Span} (hp : PermIn 0 l.toArray.size l.toArray d) (hs : SortedIn (ltOf cmpF) 0 l.toArray.size d) : d.toList.Perm l ∧ d.toList.Pairwise fun s r => s.1 ≤ r.1 := by
  obtain ⟨hsz, _, hperm⟩ := hp
  constructor
  · have e1 : d.extract 0 l.toArray.size = d := by rw [← hsz]; exact Array.extract_size
    rw [e1, Array.extract_size] at hperm
    exact hperm
  · rw [List.pairwise_iff_getElem]
    intro i j hi hj hij
    have hi' : i < d.size := by simpa using hi
    have hj' : j < d.size := by simpa using hj
    have := hs i j (Nat.zero_le _) hij (by omega)
    rw [ltF, getElem!_pos d j hj', getElem!_pos d i hi'] at this
    simpa using this
/-- What the sort leaves: the spans by their beginnings. -/
def SortR (w : World) (B : Nat) (v : Value) (l : List Span) (e : Ending) (w' : World) : Prop := e = .returned (.tuple #[]) ∧ ∃ d, d.Perm l ∧ (d.Pairwise fun s r : Span => s.1 ≤ r.1) ∧ OS w' B v d ∧ Go.RowKit.Below B w w'
theorem sort_any (v : Value) (l : List Span) (B : Nat) (w : World) (h : OS w B v l) (hl : l.length ≤ 100000) :
    Calls Tryd.prog 51 #[v, .func (.func 52) #[] #[]] w (SortR w B v l) := by
  rcases h.shape with ⟨rfl, rfl⟩ | ⟨g, c, rfl, hg, hlt⟩
  · have hcon := AnyF.slices_SortFunc_none { Tryd.sortSp with } none 0 (.func (.func 52) #[] #[]) w
    exact (show Calls Tryd.prog 51 _ _ _ from hcon).mono fun e w' ⟨he, hw⟩ => ⟨he, [], List.Perm.refl _, List.Pairwise.nil, by rw [hw]; exact h, by rw [hw]; exact Go.RowKit.Below.refl _ _⟩
  · have eg : ∀ args w, (callFunc 52 args).run Tryd.prog w = .ok (.enter 52 args) w := enters_of Tryd.func52 (by kernel_rfl) rfl
    have hcon := AnyQ.slices_SortFunc Tryd.sortSp 2 Tryd.isAgg32 Tryd.sizeOf32 encS (fun _ => rfl) (fun x v hv => by simp [encS] at hv; rcases hv with rfl | rfl <;> rfl) cmpF swoF 52 #[] g 0 c l.toArray w eg (cmpLaysF g 0 l.toArray.size w) (holds_of_os h) hlt (by simp; omega)
    refine (show Calls Tryd.prog 51 #[.slice (some ⟨g, 0, none⟩) l.length c, .func (.func 52) #[] #[]] w _ from hcon).mono ?_
    rintro e w' ⟨he, d', n, os, hp, hs, hw⟩
    obtain ⟨h1, h2⟩ := sorted_list hp hs
    obtain ⟨h3, h4⟩ := os_putRowK (q := n) (os := os) h (d := d'.toList) h1.length_eq
    refine ⟨he, d'.toList, h1, h2, ?_, ?_⟩
    · rw [hw]; exact h3
    · rw [hw]; exact h4
end Go.Proofs.YtnmgcfpemmejlaaDoor
