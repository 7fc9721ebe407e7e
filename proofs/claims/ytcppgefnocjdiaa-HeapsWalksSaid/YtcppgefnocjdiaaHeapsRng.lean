/- A range over a function whose iterator lays blocks of its own before its first round, and only reads them then: the rounds leave them. -/
import Derived.Test.YtcppgefnocjdiaaChecked
import Derived.RangeFuncNested
import Derived.RangeFuncBound
import Derived.RangeFuncCalls
import Derived.RangeFuncLeaves
import Derived.Shelf.Abstract
import Derived.Shelf.RegionOpen
import Derived.WalkKit
import Derived.OwnWalkIn
import Derived.TacticsInMore
import Derived.LoopNIn
import Derived.LoopIn
namespace Go.Proofs.Ytcppgefnocjdiaa
open Go.RowKit
set_option linter.unusedVariables false

/-- J stays where blocks are added. -/
def StayUp {β : Type} (J : β → World → Prop) : Prop := ∀ s A C, J s A → A.grownBy C none → J s C

/-- What lies below n₀ lies as it lay, and the blocks from lo to hi too. -/
def KpR (n₀ lo hi : Nat) (W W' : World) : Prop := Below n₀ W W' ∧ ∀ k, lo ≤ k → k < hi → W'.heap[k]? = W.heap[k]?
theorem KpR.refl (n₀ lo hi : Nat) (W : World) : KpR n₀ lo hi W W := ⟨Below.refl _ _, fun _ _ _ => rfl⟩
theorem KpR.trans {n₀ lo hi : Nat} {a b c : World} (h : KpR n₀ lo hi a b) (k : KpR n₀ lo hi b c) : KpR n₀ lo hi a c := ⟨h.1.trans k.1, fun j h1 h2 => (k.2 j h1 h2).trans (h.2 j h1 h2)⟩

/-- The contract of an iterator that lays blocks before its first round, and writes none; rounds keep what lies below n₀, and the iterator's blocks. -/
def SeqRng {α : Type} (F : Fence) (n : Nat) (P : Program) (g : Nat) (lb : Array Value) (encs : α → Array Value) (n₀ : Nat) (S Sp : List α → Prop) (N : Nat) (w : World) : Prop :=
  ∀ (l : Nat) (J Jx : Nat → List α → World → Prop) (W : World), Below w.heap.size w W → (∀ hi, StayUp (J hi)) → (∀ hi, StayUp (Jx hi)) →
    (∀ hi pre x W1, J hi pre W1 → pre.length < N → W.heap.size ≤ hi → hi ≤ W1.heap.size → YieldAt F (n - 1) P l (encs x) W1 fun e W' =>
      (e = .returned (.bool true) ∧ J hi (pre ++ [x]) W' ∧ KpR n₀ W.heap.size hi W1 W' ∧ W1.heap.size ≤ W'.heap.size) ∨ (e = .returned (.bool false) ∧ Jx hi (pre ++ [x]) W')) →
    (∀ hi, J hi [] W) →
    CallsIn F n P g (#[.func (.yield l) #[] #[]] ++ lb) W fun e W' => (∃ v, e = .returned v) ∧ ((∃ hi xs, S xs ∧ J hi xs W') ∨ (∃ hi pre, Sp pre ∧ Jx hi pre W'))

/-- What the loop's two blocks of book-keeping hold. -/
def Books (B : Nat) (r : Loop) (W : World) : Prop := W.heap[B + 1]? = some (.loop r) ∧ W.heap[B]? = some (.deferred (some []))

theorem Books.stay {B : Nat} {r : Loop} {A C : World} {row : Option Nat} (h : Books B r A) (hg : A.grownBy C row) (hr : ∀ k, row = some k → k = B + 2) : Books B r C :=
  ⟨(hg.block (B + 1) (Array.getElem?_eq_some_iff.1 h.1).1 (fun e => by have := hr _ e.symm; omega)).trans h.1, (hg.block B (Array.getElem?_eq_some_iff.1 h.2).1 (fun e => by have := hr _ e.symm; omega)).trans h.2⟩
theorem Books.turn {B : Nat} {r r' : Loop} {W : World} (h : Books B r W) : Books B r' (W.putObj (B + 1) (.loop r')) :=
  ⟨World.putObj_heap_same (Array.getElem?_eq_some_iff.1 h.1).1, (World.putObj_heap_other (by omega)).trans h.2⟩
theorem Books.kept {B : Nat} {r : Loop} {W W' : World} (h : Books B r W) (hk : KeepsFrom B W W') : Books B r W' :=
  ⟨hk.same _ _ (by omega) h.1 rfl, hk.same _ _ (Nat.le_refl _) h.2 rfl⟩

theorem kpr_putObj {n₀ lo hi : Nat} {a W : World} {l : Nat} (o : Obj) (h : KpR n₀ lo hi a W) (hl : n₀ ≤ l) (hB : l < lo) : KpR n₀ lo hi a (W.putObj l o) :=
  h.trans ⟨⟨rfl, rfl, rfl, by simp, fun k hk => World.putObj_heap_other (by omega)⟩, fun k h1 h2 => World.putObj_heap_other (by omega)⟩

set_option maxHeartbeats 1000000 in
theorem wpIn_rangeFunc_rng {F : Fence} {n : Nat} {P : Program} {α : Type} {g : Operand} {ps : Array Tmp} {assign body : Code} {Q : Exit → Act → World → Prop} {a : Act} {w : World}
    (hro : F.round = none) (h1 : 1 ≤ n) {gf : Nat} {lb : Array Value} (hg : a.eval g = .func (.func gf) #[] lb) (hFg : F.fn gf) (eg : ∀ args w, (callFunc gf args).run P w = .ok (.enter gf args) w)
    {encs : α → Array Value} {n₀ : Nat} {S Sp : List α → Prop} {N : Nat} {w0 : World} (hseq : SeqRng F (n - 1) P gf lb encs n₀ S Sp N w0) (hn₀ : n₀ ≤ w.heap.size) (hb0 : Below w0.heap.size w0 w) (hps : ∀ x, (encs x).size = ps.size)
    (I : Nat → List α → World → Prop) (Ix : Nat → Code → List α → World → Prop) (hI : ∀ hi, OwnFrom w.heap.size (I hi)) (hIx : ∀ hi c, OwnFrom w.heap.size (Ix hi c)) (h0 : ∀ hi, I hi [] w)
    (Ax : α → Act → World → Prop) (hAx : ∀ x a', OwnFrom w.heap.size (fun (_ : Unit) W => Ax x a' W))
    (hassign : ∀ (hi l : Nat) (pre : List α) (x : α) (W : World) (K : Act → World → Prop), w.heap.size + 2 ≤ hi → hi ≤ W.heap.size → I hi pre W → (∀ a' W', KeepsFrom w.heap.size W W' → KpR n₀ (w.heap.size + 2) hi W W' → I hi pre W' → Ax x a' W' → K a' W') →
      assign.wpIn (F.inRound l) (n - 1 - 1) P (Exit.then K (fun _ _ _ => False)) { tmps := (ps.zip (encs x)).foldl (fun t (p, v) => t.setIfInBounds p v) a.tmps, defers := [] } W)
    (hbody : ∀ (hi l : Nat) (pre : List α) (x : α) (a' : Act) (W : World), w.heap.size + 2 ≤ hi → hi ≤ W.heap.size → I hi pre W → Ax x a' W → pre.length < N → body.wpIn (F.inRound l) (n - 1 - 1) P (ownPostG w.heap.size (KpR n₀ (w.heap.size + 2) hi) (I hi) (Ix hi) (pre ++ [x]) W) a' W)
    (hdone : ∀ (hi : Nat) (xs : List α) (W : World), S xs → I hi xs W → W.heap[w.heap.size]? = some (.deferred (some [])) → Q .normal { a with defers := { target := .collected w.heap.size, args := #[] } :: a.defers } W)
    (hstop : ∀ (hi : Nat) (c : Code) (pre : List α) (W : World), Sp pre → Ix hi c pre W → W.heap[w.heap.size]? = some (.deferred (some [])) → c.wpIn F n P Q { a with defers := { target := .collected w.heap.size, args := #[] } :: a.defers } W) :
    (Code.rangeFunc g ps assign body).wpIn F n P Q a w := by
  refine wpIn_rangeFunc fun fn hfn => ?_
  rw [hro]
  obtain ⟨rec, hrec⟩ : ∃ rec : LoopState → Option Code → Loop, rec = fun st pe => { state := st, pending := pe, fn, tmps := a.tmps, params := ps, assign, body, defers := w.heap.size } := ⟨_, rfl⟩
  obtain ⟨W1, hW1⟩ : ∃ W1, (w.alloc (.deferred (some []))).alloc (.loop (rec .ready none)) = W1 := ⟨_, rfl⟩
  have hsz : W1.heap.size = w.heap.size + 2 := by rw [← hW1]; simp
  have hB1 : Books w.heap.size (rec .ready none) W1 := by
    rw [← hW1]
    refine ⟨?_, (Below.heap_alloc _ _ _ (by simp)).trans (World.alloc_heap_new w _)⟩
    have := World.alloc_heap_new (w.alloc (.deferred (some []))) (.loop (rec .ready none)); rwa [World.size_alloc] at this
  have hbel : Below w0.heap.size w0 W1 := by
    rw [← hW1]; exact hb0.trans ((((Below.refl _ w).alloc (Nat.le_refl _) _).alloc (by simp) _).mono hb0.size)
  have hnc : ∀ r : Loop, (Obj.loop r).isCells = false := fun _ => rfl
  refine ⟨w.heap.size + 1, [{ target := .collected w.heap.size, args := #[] }], W1, { target := .fn (.func gf) lb, args := #[.func (.yield (w.heap.size + 1)) #[] #[]] }, W1, gf,
    #[.func (.yield (w.heap.size + 1)) #[] #[]] ++ lb, W1, by rw [← hW1, hrec]; exact run_enterLoop_outer _ _ _ _ _, ?_, ?_, ?_, fun _ => h1, ?_⟩
  · simp only [resolve, hg]; simp [go_sem]
  · intro f' hf'; simp [Target.leads] at hf'; subst hf'; exact hFg
  · simp [invoke, go_sem, eg]
  refine (hseq (w.heap.size + 1) (fun hi pre W => I hi pre W ∧ Books w.heap.size (rec .ready none) W) (fun hi pre W => ∃ c, Ix hi c pre W ∧ Books w.heap.size (rec .done (some c)) W) W1 hbel ?_ ?_ ?_ ?_).mono ?_
  · intro hi s A C hs hgr
    exact ⟨hI hi s A C none hs.1 hgr (fun r e => by cases e), hs.2.stay hgr (fun k e => by cases e)⟩
  · rintro hi s A C ⟨c, hc, hbk⟩ hgr
    exact ⟨c, hIx hi c s A C none hc hgr (fun r e => by cases e), hbk.stay hgr (fun k e => by cases e)⟩
  · rintro hi pre x W ⟨hii, hbk⟩ hlen hlo hle
    rw [hsz] at hlo
    have hy := run_yield (P := P) (args := encs x) hbk.1 (by rw [hrec]; exact hps x)
    rw [hrec] at hy
    refine ⟨fn, _, assign, body, hy, roundIn_of_wpIn hfn (hassign hi _ pre x W _ hlo hle hii ?_)⟩
    intro a' Wa hka hba hia hax
    have hbk2 := hbk.kept hka
    have hle2 : hi ≤ Wa.heap.size := Nat.le_trans hle hka.size
    refine ⟨_, run_beginRound hbk2.1 (by rw [hrec]), ?_⟩
    have hbk3 : Books w.heap.size { rec .ready none with state := .busy } (Wa.putObj (w.heap.size + 1) (.loop { rec .ready none with state := .busy })) := hbk2.turn
    refine wpIn_mono (hbody hi _ pre x a' _ hlo (by simpa using hle2) ((hI hi).putObj _ hia (by omega) hbk2.1 rfl) ((hAx x a').putObj (s := ()) _ hax (by omega) hbk2.1 rfl) hlen) ?_
    have hb3 : KpR n₀ (w.heap.size + 2) hi W (Wa.putObj (w.heap.size + 1) (.loop { rec .ready none with state := .busy })) := kpr_putObj _ hba (by omega) (by omega)
    have fin : ∀ (jump : Option Code) (W3 : World), KeepsFrom w.heap.size (Wa.putObj (w.heap.size + 1) (.loop { rec .ready none with state := .busy })) W3 →
        Books w.heap.size { rec .ready none with state := .busy } W3 ∧
        (Instr.endRound (w.heap.size + 1) jump).run P W3 = .ok (.bool jump.isNone) (W3.putObj (w.heap.size + 1) (.loop (rec (if jump.isNone then .ready else .done) jump))) ∧
        Books w.heap.size (rec (if jump.isNone then .ready else .done) jump) (W3.putObj (w.heap.size + 1) (.loop (rec (if jump.isNone then .ready else .done) jump))) := fun jump W3 hk3 => by
      have hb := hbk3.kept hk3
      have he := run_endRound (P := P) jump hb.1
      rw [hrec] at he ⊢
      exact ⟨by rw [hrec] at hb; exact hb, he, by rw [hrec] at hb; exact hb.turn⟩
    have leave : ∀ (c : Code) (a3 : Act) (W3 : World), KeepsFrom w.heap.size (Wa.putObj (w.heap.size + 1) (.loop { rec .ready none with state := .busy })) W3 → Ix hi c (pre ++ [x]) W3 →
        ∃ v W4, (Instr.endRound (w.heap.size + 1) (some c)).run P W3 = .ok v W4 ∧ v = .bool false ∧ ∃ c', Ix hi c' (pre ++ [x]) W4 ∧ Books w.heap.size (rec .done (some c')) W4 := fun c a3 W3 hk3 hi3 => by
      obtain ⟨hb, he, hb4⟩ := fin (some c) W3 hk3
      exact ⟨_, _, he, rfl, c, (hIx hi c).putObj _ hi3 (by omega) hb.1 rfl, hb4⟩
    rintro e a3 W3 hp
    cases e with
    | normal =>
      obtain ⟨hk3, hkp3, hi3⟩ := hp
      obtain ⟨hb, he, hb4⟩ := fin none W3 hk3
      have hs3 : W.heap.size ≤ W3.heap.size := Nat.le_trans hka.size (by have := hk3.size; simpa using this)
      exact ⟨_, _, he, .inl ⟨rfl, ⟨(hI hi).putObj _ hi3 (by omega) hb.1 rfl, hb4⟩, by rw [hsz]; exact kpr_putObj _ (hb3.trans hkp3) (by omega) (by omega), by simpa using hs3⟩⟩
    | ret => obtain ⟨v, W4, he, rfl, hx⟩ := leave .ret a3 W3 hp.1 hp.2; exact ⟨_, _, he, .inr ⟨rfl, hx⟩⟩
    | exit id => obtain ⟨v, W4, he, rfl, hx⟩ := leave (.exit id) a3 W3 hp.1 hp.2; exact ⟨_, _, he, .inr ⟨rfl, hx⟩⟩
    | goto t => obtain ⟨v, W4, he, rfl, hx⟩ := leave (.goto t) a3 W3 hp.1 hp.2; exact ⟨_, _, he, .inr ⟨rfl, hx⟩⟩
    | panic ch => exact hp.elim
    | outgrown => exact hp.elim
  · intro hi
    refine ⟨?_, hB1⟩
    rw [← hW1]
    exact hI hi _ _ _ none (hI hi _ _ _ none (h0 hi) (World.grownBy_alloc _ _ none) (fun r e => by cases e)) (World.grownBy_alloc _ _ none) (fun r e => by cases e)
  · rintro e W2 ⟨⟨v, rfl⟩, (⟨hi, xs, hS, hii, hbk⟩ | ⟨hi, pre, hSp, c, hii, hbk⟩)⟩
    · exact ⟨none, _, by have := run_endLoop (P := P) hbk.1 (by rw [hrec]; simp); rw [hrec] at this; exact this, hdone hi xs _ hS ((hI hi).putObj _ hii (by omega) hbk.1 rfl) ((World.putObj_heap_other (by omega)).trans hbk.2)⟩
    · exact ⟨some c, _, by have := run_endLoop (P := P) hbk.1 (by rw [hrec]; simp); rw [hrec] at this; exact this, hstop hi c pre _ hSp ((hIx hi c).putObj _ hii (by omega) hbk.1 rfl) ((World.putObj_heap_other (by omega)).trans hbk.2)⟩
end Go.Proofs.Ytcppgefnocjdiaa
