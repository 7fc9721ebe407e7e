/- A queue and blocks beside it; an item appended; values taken out and put back. -/
import Derived.Test.YtcppgefnocjdiaaHeapsSd
import Derived.Test.YtcppgefnocjdiaaHeapsSl
import Derived.Test.YtcppgefnocjdiaaHeapsZ
namespace Go.Proofs.Ytcppgefnocjdiaa
open Go.RowKit Go.Lib Go.Sort Go.Shelf
set_option linter.unusedVariables false

section
variable {α : Type}
theorem putL_at {l : List α} {k : Nat} (x : α) (hk : k ≤ l.length) : (putL l k x)[k]? = some x := by
  unfold putL
  rw [List.getElem?_append_right (by rw [List.length_take]; exact Nat.min_le_left _ _), List.length_take, Nat.min_eq_left hk]; simp
theorem putL_cut {l : List α} {k : Nat} (x : α) (hk : k ≤ l.length) : (putL l k x).eraseIdx k = l := by
  unfold putL
  rw [List.eraseIdx_append_of_length_le (by rw [List.length_take]; exact Nat.min_le_left _ _), List.length_take, Nat.min_eq_left hk, Nat.sub_self, List.eraseIdx_cons_zero, List.take_append_drop]
theorem cut_putL {l : List α} {k : Nat} {x : α} (h : l[k]? = some x) : putL (l.eraseIdx k) k x = l := by
  obtain ⟨hk, e⟩ := List.getElem?_eq_some_iff.1 h
  have h1 : (l.eraseIdx k).take k = l.take k := by rw [List.eraseIdx_eq_take_drop_succ, List.take_append_of_le_length (by rw [List.length_take]; omega), List.take_take, Nat.min_self]
  have h2 : (l.eraseIdx k).drop k = l.drop (k + 1) := by rw [List.eraseIdx_eq_take_drop_succ, List.drop_append, List.drop_of_length_le (by rw [List.length_take]; omega), List.length_take, Nat.min_eq_left (by omega), Nat.sub_self, List.drop_zero, List.nil_append]
  unfold putL
  rw [h1, h2, ← e, ← List.drop_eq_getElem_cons hk, List.take_append_drop]
end
theorem place_same {lt : Int → Int → Bool} (hw : WeakB lt) {S : List HItem} {k : Nat} {x : HItem} (hs : S.Pairwise (befI lt)) (h : S[k]? = some x) : PlaceP (befI lt) (S.eraseIdx k) k x := by
  obtain ⟨hk, e⟩ := List.getElem?_eq_some_iff.1 h
  have hp := List.pairwise_iff_getElem.1 hs
  have hl : (S.eraseIdx k).length = S.length - 1 := by rw [List.length_eraseIdx, if_pos hk]
  refine ⟨⟨by omega, fun y hy => ?_⟩, fun z hz hb => ?_⟩
  · obtain ⟨i, hi⟩ := List.mem_iff_getElem?.1 hy
    have hik : i < k := by have := (List.getElem?_eq_some_iff.1 hi).1; simp at this; omega
    rw [List.getElem?_take_of_lt hik, List.getElem?_eraseIdx_of_lt hik] at hi
    obtain ⟨h1, h2⟩ := List.getElem?_eq_some_iff.1 hi
    rw [← h2, ← e]; exact hp i k h1 hk hik
  · rw [List.getElem?_eraseIdx_of_ge (Nat.le_refl _)] at hz
    obtain ⟨h1, h2⟩ := List.getElem?_eq_some_iff.1 hz
    have := hp k (k + 1) hk h1 (by omega)
    rw [e, h2] at this
    exact (befI_weak hw).asymm this hb
/-- The values but the one with a handle. -/
def butH (h : Int) (l : List HItem) : List HItem := l.filter fun x => x.1 != h
theorem butH_all {h : Int} {l : List HItem} (hl : ∀ x ∈ l, x.1 ≠ h) : butH h l = l := List.filter_eq_self.2 fun x hx => by simp [hl x hx]
theorem butH_put {h : Int} {l : List HItem} (k : Nat) (u : Int) (hl : ∀ x ∈ l, x.1 ≠ h) : butH h (putL l k (h, u)) = l := by
  unfold butH putL
  rw [List.filter_append, List.filter_cons]
  simp only [bne_self_eq_false, Bool.false_eq_true, if_false]
  rw [← List.filter_append, List.take_append_drop]
  exact butH_all hl
theorem cut_but {S : List HItem} {k : Nat} {x : HItem} (hd : (S.map (·.1)).Nodup) (h : S[k]? = some x) : ∀ y ∈ S.eraseIdx k, y.1 ≠ x.1 := by
  have hp := cut_perm h
  have := (hp.map (fun y : HItem => y.1)).nodup_iff.1 hd
  rw [List.map_cons, List.nodup_cons] at this
  intro y hy e
  exact this.1 (List.mem_map.2 ⟨y, hy, e⟩)
theorem butH_take {h : Int} {l : List HItem} {i : Nat} {x : HItem} (hx : l[i]? = some x) : butH h (l.take (i + 1)) = if x.1 = h then butH h (l.take i) else butH h (l.take i) ++ [x] := by
  obtain ⟨hi, e⟩ := List.getElem?_eq_some_iff.1 hx
  unfold butH
  rw [List.take_succ_eq_append_getElem hi, List.filter_append, e, List.filter_cons, List.filter_nil]
  by_cases c : x.1 = h
  · simp [c]
  · simp [c]

/-- A queue with the list S, and blocks beside it. -/
def HdR (W w0 : World) (qb mb : Nat) (odd : Bool) (bs : List Nat) (nx : Int) (S : List HItem) (wr : World) : Prop :=
  ∃ v, QS wr W.heap.size qb mb (ordF odd) v (ordL odd) nx S ∧ Go.RowKit.Below W.heap.size W wr ∧ ∀ b ∈ bs, Off b qb mb v wr ∧ wr.heap[b]? = w0.heap[b]?
theorem HdR.rem {W w0 : World} {qb mb : Nat} {odd : Bool} {bs : List Nat} {nx ny : Int} {S T : List HItem} {wr w' : World} {v : Value} (h1 : QS wr W.heap.size qb mb (ordF odd) v (ordL odd) nx S) (h2 : Go.RowKit.Below W.heap.size W wr) (h3 : ∀ b ∈ bs, Off b qb mb v wr ∧ wr.heap[b]? = w0.heap[b]?) (k : RemR W.heap.size qb mb (ordF odd) v (ordL odd) ny T wr w') : HdR W w0 qb mb odd bs ny T w' := by
  obtain ⟨v', g1, g2⟩ := k
  obtain ⟨xs, hq, _⟩ := h1.mem
  refine ⟨v', g1, h2.trans (g2.below hq), fun b hb => ?_⟩
  obtain ⟨o1, o2⟩ := h3 b hb
  obtain ⟨p1, p2⟩ := o1.onl g2
  exact ⟨p1, p2.trans o2⟩
theorem HdR.later {W w0 : World} {qb mb : Nat} {odd : Bool} {bs : List Nat} {nx : Int} {S : List HItem} {wr w' : World} (h : HdR W w0 qb mb odd bs nx S wr) (hb : Go.RowKit.Below wr.heap.size wr w') : HdR W w0 qb mb odd bs nx S w' := by
  obtain ⟨v, h1, h2, h3⟩ := h
  exact ⟨v, h1.later hb, h2.trans (hb.mono h2.size), fun b hb' => ⟨⟨Nat.lt_of_lt_of_le (h3 b hb').1.lt hb.size, (h3 b hb').1.q, (h3 b hb').1.m, (h3 b hb').1.r⟩, (hb.block b (h3 b hb').1.lt).trans (h3 b hb').2⟩⟩
theorem HdR.lo {W w0 : World} {qb mb : Nat} {odd : Bool} {bs : List Nat} {nx : Int} {S : List HItem} {wr : World} (h : HdR W w0 qb mb odd bs nx S wr) : Go.RowKit.Below W.heap.size W wr := by
  obtain ⟨v, _, h2, _⟩ := h
  exact h2
theorem HdR.cell {W w0 : World} {qb mb : Nat} {odd : Bool} {bs : List Nat} {nx : Int} {S : List HItem} {wr : World} (h : HdR W w0 qb mb odd bs nx S wr) {b j : Nat} {u : Value} (hb : b ∈ bs) (hc : w0.cell? ⟨b, j, none⟩ = some u) : wr.cell? ⟨b, j, none⟩ = some u := by
  obtain ⟨v, _, _, h3⟩ := h
  exact (World.cell?_of_block (a := ⟨b, j, none⟩) (h3 b hb).2).trans hc
theorem HdR.asc {W w0 : World} {qb mb : Nat} {odd : Bool} {bs : List Nat} {nx : Int} {S : List HItem} {wr : World} (h : HdR W w0 qb mb odd bs nx S wr) : S.Pairwise (befI (ordL odd)) ∧ (S.map (·.1)).Nodup := by
  obtain ⟨v, h1, _⟩ := h
  obtain ⟨xs, _, h2⟩ := h1.mem
  exact ⟨h2.asc, h2.one⟩
theorem HdR.push {W w0 : World} {qb mb : Nat} {odd : Bool} {bs : List Nat} {nx : Int} {S : List HItem} {wr : World} (h : HdR W w0 qb mb odd bs nx S wr) (u : Int) (hl : S.length < 5000) (hn : nx < 1000000000000000) :
    ∃ k, k ≤ S.length ∧ Calls Try.prog 20 #[.pointer (some ⟨qb, 0, none⟩), .int .i64 u] wr fun e w' => e = .returned (.tuple #[.int .i64 nx, .int .i64 0]) ∧ Hid (HdR W w0 qb mb odd bs (nx + 1) (putL S k (nx, u)) w') := by
  obtain ⟨v, h1, h2, h3⟩ := h
  obtain ⟨k, hk⟩ := place_ex (befI (ordL odd)) S (nx, u)
  exact ⟨k, hk.up.le, (push_some _ qb mb _ v _ nx S k u wr h1 hk hl hn).mono fun e w' ⟨he, hr⟩ => ⟨he, Lib.hid (.rem h1 h2 h3 hr)⟩⟩
theorem HdR.remove {W w0 : World} {qb mb : Nat} {odd : Bool} {bs : List Nat} {nx : Int} {S : List HItem} {wr : World} (h : HdR W w0 qb mb odd bs nx S wr) {k : Nat} {x : HItem} (hx : S[k]? = some x) :
    Calls Try.prog 24 #[.pointer (some ⟨qb, 0, none⟩), .int .i64 x.1] wr fun e w' => e = .returned (.tuple #[.int .i64 x.2, .int .i64 0]) ∧ Hid (HdR W w0 qb mb odd bs nx (S.eraseIdx k) w') := by
  obtain ⟨v, h1, h2, h3⟩ := h
  exact (remove_some _ qb mb _ v _ nx S k x wr h1 hx).mono fun e w' ⟨he, hr⟩ => ⟨he, Lib.hid (.rem h1 h2 h3 hr)⟩
theorem HdR.get {W w0 : World} {qb mb : Nat} {odd : Bool} {bs : List Nat} {nx : Int} {S : List HItem} {wr : World} (h : HdR W w0 qb mb odd bs nx S wr) {x : HItem} (hx : x ∈ S) :
    Calls Try.prog 23 #[.pointer (some ⟨qb, 0, none⟩), .int .i64 x.1] wr fun e w' => e = .returned (.tuple #[.int .i64 x.2, .int .i64 0]) ∧ w' = wr := by
  obtain ⟨v, h1, h2, h3⟩ := h
  exact get_some _ qb mb _ v _ nx S x wr h1 hx
theorem HdR.set {W w0 : World} {qb mb : Nat} {odd : Bool} {bs : List Nat} {nx : Int} {S : List HItem} {wr : World} (h : HdR W w0 qb mb odd bs nx S wr) {k : Nat} {x : HItem} (hx : S[k]? = some x) (u : Int) (k' : Nat) (hp : PlaceP (befI (ordL odd)) (S.eraseIdx k) k' (x.1, u)) :
    Calls Try.prog 25 #[.pointer (some ⟨qb, 0, none⟩), .int .i64 x.1, .int .i64 u] wr fun e w' => e = .returned (.int .i64 0) ∧ Hid (HdR W w0 qb mb odd bs nx (putL (S.eraseIdx k) k' (x.1, u)) w') := by
  obtain ⟨v, h1, h2, h3⟩ := h
  exact (set_some _ qb mb _ v _ nx S k k' x u wr h1 hx hp).mono fun e w' ⟨he, hr⟩ => ⟨he, Lib.hid (.rem h1 h2 h3 hr)⟩
theorem HdR.save {W w0 : World} {qb mb : Nat} {odd : Bool} {bs : List Nat} {nx : Int} {S : List HItem} {wr : World} (h : HdR W w0 qb mb odd bs nx S wr) (hl : S.length ≤ 5000) :
    Calls Try.prog 17 #[.pointer (some ⟨qb, 0, none⟩)] wr fun e w' => ∃ A c, e = .returned (.agg #[.int .i64 nx, .slice A S.length c]) ∧ Hid (HdR W w0 qb mb odd bs nx S w' ∧ RH w' (.slice A S.length c) S ∧ OH w' wr.heap.size (.slice A S.length c) S ∧ Go.RowKit.Below wr.heap.size wr w') := by
  have h' := h
  obtain ⟨v, h1, h2, h3⟩ := h
  refine (save_any _ qb mb _ v _ nx S wr h1 (sortC_all (by omega))).mono ?_
  rintro e w' ⟨v', he, H⟩
  obtain ⟨A, c, rfl⟩ := H.out.1.len
  exact ⟨A, c, he, Lib.hid ⟨h'.later H.out.2, H.out.1.rh, H.out.1, H.out.2⟩⟩
theorem HdR.walked {W w0 : World} {qb mb : Nat} {odd : Bool} {bs : List Nat} {nx : Int} {S : List HItem} {wr : World} (h : HdR W w0 qb mb odd bs nx S wr) (hl : S.length ≤ 5000) :
    Calls Try.prog 19 #[.pointer (some ⟨qb, 0, none⟩)] wr fun e w' => ∃ A c, e = .returned (.slice A S.length c) ∧ Hid (HdR W w0 qb mb odd bs nx S w' ∧ OH w' wr.heap.size (.slice A S.length c) S ∧ Go.RowKit.Below wr.heap.size wr w') := by
  have h' := h
  obtain ⟨v, h1, h2, h3⟩ := h
  refine (walked_any (some ⟨qb, 0, none⟩) nx S wr hl (saves_any _ qb mb _ v _ nx S wr h1 (sortC_all (by omega)))).mono ?_
  rintro e w' ⟨v', he, g1, g2⟩
  obtain ⟨A, c, rfl⟩ := g1.len
  exact ⟨A, c, he, Lib.hid ⟨h'.later g2, g1, g2⟩⟩
end Go.Proofs.Ytcppgefnocjdiaa
