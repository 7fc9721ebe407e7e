/- Two queues, and blocks beside them: what holds while one is changed and values are popped off the other. -/
import Derived.Test.YtcppgefnocjdiaaHeapsTa
namespace Go.Proofs.Ytcppgefnocjdiaa
open Go.RowKit Go.Lib Go.Sort Go.Shelf
set_option linter.unusedVariables false

theorem asc_same {lt : Int → Int → Bool} (hw : WeakB lt) {S T : List HItem} (hs : S.Pairwise (befI lt)) (ht : T.Pairwise (befI lt)) (hp : S.Perm T) : S = T :=
  hp.eq_of_pairwise (fun a b _ _ h1 h2 => absurd h2 ((befI_weak hw).asymm h1)) hs ht

/-- Where the two queues lie: below M, apart, and off the boxes. -/
structure WkA (M qb mb qp mp : Nat) (bs : List Nat) : Prop where
  d1 : qb ≠ qp
  d2 : qb ≠ mp
  d3 : mb ≠ qp
  d4 : mb ≠ mp
  d5 : ∀ b ∈ bs, b ≠ qb ∧ b ≠ mb ∧ b ≠ qp ∧ b ≠ mp ∧ b < M
  d6 : qb < M ∧ mb < M ∧ qp < M ∧ mp < M
theorem WkA.swap {M qb mb qp mp : Nat} {bs : List Nat} (h : WkA M qb mb qp mp bs) : WkA M qp mp qb mb bs :=
  ⟨h.d1.symm, h.d3.symm, h.d2.symm, h.d4.symm, fun b hb => have := h.d5 b hb; ⟨this.2.2.1, this.2.2.2.1, this.1, this.2.1, this.2.2.2.2⟩, ⟨h.d6.2.2.1, h.d6.2.2.2, h.d6.1, h.d6.2.1⟩⟩
/-- The row of a queue lies below M or from hi on, and off the boxes and the other queue. -/
def RowOk (M hi : Nat) (bs : List Nat) (v : Value) (qp mp : Nat) : Prop := ∀ g, v.ownBlock = some g → (g < M ∨ hi ≤ g) ∧ g ∉ bs ∧ g ≠ qp ∧ g ≠ mp
/-- Two queues. -/
def TwQ (N M hi : Nat) (bs : List Nat) (F : Value) (lt : Int → Int → Bool) (qb mb : Nat) (nq : Int) (S : List HItem) (qp mp : Nat) (np : Int) (T : List HItem) (W : World) : Prop :=
  ∃ vq vp, QS W N qb mb F vq lt nq S ∧ QS W N qp mp F vp lt np T ∧ RowOk M hi bs vq qp mp ∧ RowOk M hi bs vp qb mb ∧ ∀ g, vq.ownBlock = some g → vp.ownBlock ≠ some g
theorem TwQ.swap {N M hi : Nat} {bs : List Nat} {F : Value} {lt : Int → Int → Bool} {qb mb qp mp : Nat} {nq np : Int} {S T : List HItem} {W : World} (h : TwQ N M hi bs F lt qb mb nq S qp mp np T W) : TwQ N M hi bs F lt qp mp np T qb mb nq S W := by
  obtain ⟨vq, vp, h1, h2, h3, h4, h5⟩ := h
  exact ⟨vp, vq, h2, h1, h4, h3, fun g e k => h5 g k e⟩
/-- What a step keeps. -/
structure WkK (N M hi : Nat) (W W' : World) : Prop where
  kf : KeepsFrom M W W'
  kr : KpR N (M + 2) hi W W'
theorem WkK.trans {N M hi : Nat} {a b c : World} (h : WkK N M hi a b) (k : WkK N M hi b c) : WkK N M hi a c := ⟨h.kf.trans k.kf, h.kr.trans k.kr⟩
theorem WkK.refl (N M hi : Nat) (a : World) : WkK N M hi a a := ⟨KeepsFrom.refl _ _, KpR.refl _ _ _ _⟩
theorem row_isCells {W : World} {B qb mb : Nat} {F v : Value} {lt : Int → Int → Bool} {nx : Int} {S : List HItem} (h : QS W B qb mb F v lt nx S) {g : Nat} (hg : v.ownBlock = some g) : g < W.heap.size ∧ B ≤ g ∧ ∀ o, W.heap[g]? = some o → o.isCells = true := by
  obtain ⟨xs, hq, _⟩ := h.mem
  exact ⟨(hq.row.lt g hg).2, (hq.row.lt g hg).1, fun o ho => row_cells hq.row g o hg ho⟩
/-- A queue's step keeps what it must. -/
theorem wkk_onl {N M hi qb mb qp mp : Nat} {F v v' : Value} {lt : Int → Int → Bool} {nx : Int} {S : List HItem} {W W' : World} {bs : List Nat} (h : QS W N qb mb F v lt nx S) (ho : Onl qb mb W v W' v') (hq : qb < M) (hm : mb < M) (hr : RowOk M hi bs v qp mp) (hi2 : hi ≤ W.heap.size) : WkK N M hi W W' := by
  obtain ⟨xs, hQ, _⟩ := h.mem
  refine ⟨⟨ho.size, fun k o hk hko hc => ?_⟩, ⟨ho.below hQ, fun k h1 h2 => ?_⟩⟩
  · have hlt := (Array.getElem?_eq_some_iff.1 hko).1
    refine (ho.block k hlt (by omega) (by omega) fun e => ?_).trans hko
    have := (row_isCells h e).2.2 o hko
    rw [this] at hc; cases hc
  · exact ho.block k (by omega) (by omega) (by omega) fun e => by have := (hr k e).1; omega
/-- A step of the first queue. -/
theorem TwQ.step {N M hi : Nat} {bs : List Nat} {F : Value} {lt : Int → Int → Bool} {qb mb qp mp : Nat} {nq nq' np : Int} {S S' T : List HItem} {W W' : World} {vq vp : Value} (hA : WkA M qb mb qp mp bs)
    (h1 : QS W N qb mb F vq lt nq S) (h2 : QS W N qp mp F vp lt np T) (h3 : RowOk M hi bs vq qp mp) (h4 : RowOk M hi bs vp qb mb) (h5 : ∀ g, vq.ownBlock = some g → vp.ownBlock ≠ some g) (hM : M ≤ W.heap.size) (hhi : hi ≤ W.heap.size) (k : RemR N qb mb F vq lt nq' S' W W') :
    TwQ N M hi bs F lt qb mb nq' S' qp mp np T W' ∧ WkK N M hi W W' ∧ ∀ b ∈ bs, W'.heap[b]? = W.heap[b]? := by
  obtain ⟨v', g1, g2⟩ := k
  refine ⟨⟨v', vp, g1, h2.same fun g hg => ?_, fun g hg => ?_, h4, fun g hg e => ?_⟩, wkk_onl h1 g2 hA.d6.1 hA.d6.2.1 h3 hhi, fun b hb => ?_⟩
  · rcases hg with rfl | rfl | hg
    · exact g2.block _ (by have := hA.d6; omega) hA.d1.symm hA.d3.symm fun e => (h3 _ e).2.2.1 rfl
    · exact g2.block _ (by have := hA.d6; omega) hA.d2.symm hA.d4.symm fun e => (h3 _ e).2.2.2 rfl
    · exact g2.block _ (row_isCells h2 hg).1 (h4 _ hg).2.2.1 (h4 _ hg).2.2.2 fun e => h5 _ e hg
  · rcases g2.new g hg with e | e
    · exact h3 g e
    · refine ⟨.inr (by omega), fun hb => ?_, ?_, ?_⟩
      · have := (hA.d5 g hb).2.2.2.2; omega
      · have := hA.d6; omega
      · have := hA.d6; omega
  · rcases g2.new g hg with e' | e'
    · exact h5 g e' e
    · have := (row_isCells h2 e).1; omega
  · have := hA.d5 b hb
    exact g2.block b (by omega) this.1 this.2.1 fun e => (h3 b e).2.1 hb
/-- The two queues stay where nothing of theirs is turned. -/
theorem TwQ.same {N M hi : Nat} {bs : List Nat} {F : Value} {lt : Int → Int → Bool} {qb mb qp mp : Nat} {nq np : Int} {S T : List HItem} {W W' : World} (h : TwQ N M hi bs F lt qb mb nq S qp mp np T W) (hA : WkA M qb mb qp mp bs) (h1 : ∀ g, g < M → g ∉ bs → W'.heap[g]? = W.heap[g]?) (h2 : ∀ g, g < W.heap.size → g ∉ bs → (∀ o, W.heap[g]? = some o → o.isCells = true) → W'.heap[g]? = W.heap[g]?) : TwQ N M hi bs F lt qb mb nq S qp mp np T W' := by
  obtain ⟨vq, vp, k1, k2, k3, k4, k5⟩ := h
  have d6 := hA.d6
  have nb : ∀ b ∈ bs, b ≠ qb ∧ b ≠ mb ∧ b ≠ qp ∧ b ≠ mp := fun b hb => have := hA.d5 b hb; ⟨this.1, this.2.1, this.2.2.1, this.2.2.2.1⟩
  refine ⟨vq, vp, k1.same fun g hg => ?_, k2.same fun g hg => ?_, k3, k4, k5⟩
  · rcases hg with rfl | rfl | hg
    · exact h1 _ (by omega) fun hb => (nb _ hb).1 rfl
    · exact h1 _ (by omega) fun hb => (nb _ hb).2.1 rfl
    · exact h2 _ (row_isCells k1 hg).1 (k3 _ hg).2.1 (row_isCells k1 hg).2.2
  · rcases hg with rfl | rfl | hg
    · exact h1 _ (by omega) fun hb => (nb _ hb).2.2.1 rfl
    · exact h1 _ (by omega) fun hb => (nb _ hb).2.2.2 rfl
    · exact h2 _ (row_isCells k2 hg).1 (k4 _ hg).2.1 (row_isCells k2 hg).2.2

/-- A round's world: a queue with at most n values; a queue with the list T; boxes as in w0, but for the one that counts. -/
structure WkS (N M qb mb qp mp ib : Nat) (bs : List Nat) (F : Value) (lt : Int → Int → Bool) (np : Int) (w0 : World) (hi n i : Nat) (T : List HItem) (W : World) : Prop where
  ex : ∃ nq S, TwQ N M hi bs F lt qb mb nq S qp mp np T W ∧ S.length ≤ n ∧ nq ≤ 1000 + n
  box : ∀ b ∈ bs, b ≠ ib → W.heap[b]? = w0.heap[b]?
  ic : W.heap[ib]? = some (.cells #[.int .i64 i] 3 (0, 0))
  bel : Go.RowKit.Below N w0 W
  sz : M ≤ W.heap.size
section steps
variable {N M qb mb qp mp ib : Nat} {bs : List Nat} {F : Value} {lt : Int → Int → Bool} {np : Int} {w0 : World} {hi n i : Nat} {T : List HItem} {W : World}
theorem WkS.of {n' : Nat} {T' : List HItem} {W' : World} (h : WkS N M qb mb qp mp ib bs F lt np w0 hi n i T W) (hib : ib ∈ bs) {nq : Int} {S : List HItem} (k : TwQ N M hi bs F lt qb mb nq S qp mp np T' W') (hS : S.length ≤ n') (hn : nq ≤ 1000 + n') (hk : WkK N M hi W W') (hb : ∀ b ∈ bs, W'.heap[b]? = W.heap[b]?) : WkS N M qb mb qp mp ib bs F lt np w0 hi n' i T' W' :=
  ⟨⟨nq, S, k, hS, hn⟩, fun b h1 h2 => (hb b h1).trans (h.box b h1 h2), (hb ib hib).trans h.ic, h.bel.trans hk.kr.1, Nat.le_trans h.sz hk.kf.size⟩
theorem WkS.up {n' : Nat} (h : WkS N M qb mb qp mp ib bs F lt np w0 hi n i T W) (hn : n ≤ n') : WkS N M qb mb qp mp ib bs F lt np w0 hi n' i T W := by
  obtain ⟨nq, S, h1, h2, h3⟩ := h.ex
  exact ⟨⟨nq, S, h1, by omega, by omega⟩, h.box, h.ic, h.bel, h.sz⟩
theorem WkS.pop {y : HItem} (hA : WkA M qb mb qp mp bs) (hib : ib ∈ bs) (h : WkS N M qb mb qp mp ib bs F lt np w0 hi n i (y :: T) W) (hhi : hi ≤ W.heap.size) :
    Calls Try.prog 21 #[.pointer (some ⟨qp, 0, none⟩)] W fun e w' => e = .returned (.tuple #[.int .i64 y.1, .int .i64 y.2, .int .i64 0]) ∧ Hid (WkS N M qb mb qp mp ib bs F lt np w0 hi n i T w' ∧ WkK N M hi W w') := by
  obtain ⟨nq, S, ⟨vq, vp, h1, h2, h3, h4, h5⟩, hS, hn⟩ := h.ex
  refine (pop_some N qp mp F vp lt np y T W h2).mono ?_
  rintro e w' ⟨he, k⟩
  obtain ⟨g1, g2, g3⟩ := TwQ.step hA.swap h2 h1 h4 h3 (fun g e k => h5 g k e) h.sz hhi k
  exact ⟨he, Lib.hid ⟨h.of hib g1.swap hS hn g2 g3, g2⟩⟩
theorem WkS.remove (hA : WkA M qb mb qp mp bs) (hib : ib ∈ bs) (h : WkS N M qb mb qp mp ib bs F lt np w0 hi n i T W) (hhi : hi ≤ W.heap.size) (hd : Int) :
    Calls Try.prog 24 #[.pointer (some ⟨qb, 0, none⟩), .int .i64 hd] W fun e w' => ∃ a b, e = .returned (.tuple #[a, b]) ∧ Hid (WkS N M qb mb qp mp ib bs F lt np w0 hi (n + 1) i T w' ∧ WkK N M hi W w') := by
  obtain ⟨nq, S, ⟨vq, vp, h1, h2, h3, h4, h5⟩, hS, hn⟩ := h.ex
  by_cases hx : ∀ y ∈ S, y.1 ≠ hd
  · refine (remove_none N qb mb F vq lt nq S hd W h1 hx).mono ?_
    rintro e w' ⟨he, rfl⟩
    exact ⟨_, _, he, Lib.hid ⟨h.of hib ⟨vq, vp, h1, h2, h3, h4, h5⟩ (by omega) (by omega) (.refl _ _ _ _) fun _ _ => rfl, .refl _ _ _ _⟩⟩
  · obtain ⟨y, hy, rfl⟩ : ∃ y, y ∈ S ∧ y.1 = hd := by
      apply Classical.byContradiction
      intro hc
      exact hx fun y hy e => hc ⟨y, hy, e⟩
    obtain ⟨k, hk⟩ := List.mem_iff_getElem?.1 hy
    refine (remove_some N qb mb F vq lt nq S k y W h1 hk).mono ?_
    rintro e w' ⟨he, r⟩
    obtain ⟨g1, g2, g3⟩ := TwQ.step hA h1 h2 h3 h4 h5 h.sz hhi r
    exact ⟨_, _, he, Lib.hid ⟨h.of hib g1 (by have := List.length_eraseIdx_le S k; omega) (by omega) g2 g3, g2⟩⟩
theorem WkS.push (hA : WkA M qb mb qp mp bs) (hib : ib ∈ bs) (h : WkS N M qb mb qp mp ib bs F lt np w0 hi n i T W) (hhi : hi ≤ W.heap.size) (hn4 : n ≤ 4000) (u : Int) :
    Calls Try.prog 20 #[.pointer (some ⟨qb, 0, none⟩), .int .i64 u] W fun e w' => ∃ a b, e = .returned (.tuple #[a, b]) ∧ Hid (WkS N M qb mb qp mp ib bs F lt np w0 hi (n + 1) i T w' ∧ WkK N M hi W w') := by
  obtain ⟨nq, S, ⟨vq, vp, h1, h2, h3, h4, h5⟩, hS, hn⟩ := h.ex
  obtain ⟨k, hk⟩ := place_ex (befI lt) S (nq, u)
  refine (push_some N qb mb F vq lt nq S k u W h1 hk (by omega) (by omega)).mono ?_
  rintro e w' ⟨he, r⟩
  obtain ⟨g1, g2, g3⟩ := TwQ.step hA h1 h2 h3 h4 h5 h.sz hhi r
  exact ⟨_, _, he, Lib.hid ⟨h.of hib g1 (by rw [(putL_perm S k _).length_eq]; simp; omega) (by omega) g2 g3, g2⟩⟩
theorem WkS.set (hA : WkA M qb mb qp mp bs) (hib : ib ∈ bs) (h : WkS N M qb mb qp mp ib bs F lt np w0 hi n i T W) (hhi : hi ≤ W.heap.size) (hd u : Int) :
    Calls Try.prog 25 #[.pointer (some ⟨qb, 0, none⟩), .int .i64 hd, .int .i64 u] W fun e w' => ∃ x, e = .returned (.int .i64 x) ∧ Hid (WkS N M qb mb qp mp ib bs F lt np w0 hi (n + 1) i T w' ∧ WkK N M hi W w') := by
  obtain ⟨nq, S, ⟨vq, vp, h1, h2, h3, h4, h5⟩, hS, hn⟩ := h.ex
  by_cases hx : ∀ y ∈ S, y.1 ≠ hd
  · refine (set_none N qb mb F vq lt nq S hd u W h1 hx).mono ?_
    rintro e w' ⟨he, rfl⟩
    exact ⟨_, he, Lib.hid ⟨h.of hib ⟨vq, vp, h1, h2, h3, h4, h5⟩ (by omega) (by omega) (.refl _ _ _ _) fun _ _ => rfl, .refl _ _ _ _⟩⟩
  · obtain ⟨y, hy, rfl⟩ : ∃ y, y ∈ S ∧ y.1 = hd := by
      apply Classical.byContradiction
      intro hc
      exact hx fun y hy e => hc ⟨y, hy, e⟩
    obtain ⟨k, hk⟩ := List.mem_iff_getElem?.1 hy
    obtain ⟨k', hp⟩ := place_ex (befI lt) (S.eraseIdx k) (y.1, u)
    refine (set_some N qb mb F vq lt nq S k k' y u W h1 hk hp).mono ?_
    rintro e w' ⟨he, r⟩
    obtain ⟨g1, g2, g3⟩ := TwQ.step hA h1 h2 h3 h4 h5 h.sz hhi r
    have hkl := (List.getElem?_eq_some_iff.1 hk).1
    exact ⟨_, he, Lib.hid ⟨h.of hib g1 (by rw [(putL_perm _ k' _).length_eq, List.length_cons, List.length_eraseIdx_of_lt hkl]; omega) (by omega) g2 g3, g2⟩⟩
/-- The count is turned. -/
theorem WkS.count (hA : WkA M qb mb qp mp bs) (hib : ib ∈ bs) (hNi : N ≤ ib) (h : WkS N M qb mb qp mp ib bs F lt np w0 hi n i T W) (hhi : M + 2 ≤ hi) (u : Int) (j : Nat) (hu : u = j) : WkS N M qb mb qp mp ib bs F lt np w0 hi n j T (W.setCell ⟨ib, 0, none⟩ (.int .i64 u)) ∧ WkK N M hi W (W.setCell ⟨ib, 0, none⟩ (.int .i64 u)) := by
  subst hu
  have ho : ∀ g, g ≠ ib → (W.setCell ⟨ib, 0, none⟩ (.int .i64 (j : Int))).heap[g]? = W.heap[g]? := fun g hg => Go.RowKit.Below.heap_setCell _ _ _ _ hg
  have hb : Go.RowKit.Below N W (W.setCell ⟨ib, 0, none⟩ (.int .i64 (j : Int))) := (Go.RowKit.Below.refl N W).setCell (p := ⟨ib, 0, none⟩) hNi _
  obtain ⟨nq, S, h1, h2, h3⟩ := h.ex
  refine ⟨⟨⟨nq, S, h1.same hA (fun g _ hg => ho g fun e => hg (e ▸ hib)) (fun g _ hg _ => ho g fun e => hg (e ▸ hib)), h2, h3⟩, fun b h1 h2 => (ho b h2).trans (h.box b h1 h2), ?_, h.bel.trans hb, by simpa using h.sz⟩, ⟨(KeepsOthers.setCell _ _ _).from _, hb, fun k h1 h2 => ho k ?_⟩⟩
  · exact heap_set1 h.ic _
  · have := (hA.d5 ib hib).2.2.2.2; omega
/-- The round's world stays where the loop's books are turned. -/
theorem WkS.own (hA : WkA M qb mb qp mp bs) (hib : ib ∈ bs) (hNM : N ≤ M) (h : WkS N M qb mb qp mp ib bs F lt np w0 hi n i T W) {W' : World} {row : Option Nat} (hg : W.grownBy W' row) (hr : ∀ r, row = some r → M ≤ r ∧ ∃ o : Obj, W.heap[r]? = some o ∧ o.isCells = false) : WkS N M qb mb qp mp ib bs F lt np w0 hi n i T W' := by
  have hlow : ∀ g, g < M → W'.heap[g]? = W.heap[g]? := fun g hg' => hg.block g (by have := h.sz; omega) fun e => by have := (hr g e.symm).1; omega
  have hlb : ∀ b ∈ bs, b < M := fun b hb => (hA.d5 b hb).2.2.2.2
  obtain ⟨nq, S, h1, h2, h3⟩ := h.ex
  refine ⟨⟨nq, S, h1.same hA (fun g h _ => hlow g h) (fun g hlt _ hc => hg.block g hlt fun e => ?_), h2, h3⟩, fun b h1 h2 => (hlow b (hlb b h1)).trans (h.box b h1 h2), (hlow ib (hlb ib hib)).trans h.ic, h.bel.grown hg (by have := h.sz; omega) (fun k e => by have := (hr k e).1; omega), Nat.le_trans h.sz hg.size⟩
  obtain ⟨_, o, ho, hcc⟩ := hr g e.symm
  rw [hc o ho] at hcc
  cases hcc
end steps
end Go.Proofs.Ytcppgefnocjdiaa
