/- A range over a function whose iterator writes one block that was laid before the loop: that of a variable that it has captured. -/
import Derived.Test.YtlmemkcfikdhgaaChecked
import Derived.RangeFuncNested
import Derived.RangeFuncBound
import Derived.RangeFuncCalls
import Derived.RangeFuncLeaves
import Derived.Shelf.Abstract
import Derived.Shelf.RegionOpen
import Derived.WalkKit
import Derived.OwnWalkIn
import Derived.TacticsInMore
import Derived.LoopNIn
import Derived.LoopIn
namespace Go.Proofs.Ytlmemkcfikdhgaa
open Go.RowKit
set_option linter.unusedVariables false

/-- J stays where blocks are added, or block B turns. -/
def StayBut {β : Type} (B : Nat) (J : β → World → Prop) : Prop := ∀ s A C row, J s A → A.grownBy C row → (∀ r, row = some r → r = B) → J s C

/-- What lies below n₀ lies as it lay, and block B too. -/
def KpB (n₀ B : Nat) (W W' : World) : Prop := Below n₀ W W' ∧ W'.heap[B]? = W.heap[B]?
theorem KpB.refl (n₀ B : Nat) (W : World) : KpB n₀ B W W := ⟨Below.refl _ _, rfl⟩
theorem KpB.trans {n₀ B : Nat} {a b c : World} (h : KpB n₀ B a b) (k : KpB n₀ B b c) : KpB n₀ B a c := ⟨h.1.trans k.1, k.2.trans h.2⟩

/-- The contract of an iterator that writes block bf alone; rounds keep what lies below n₀, and that block. -/
def SeqAt {α : Type} (F : Fence) (n : Nat) (P : Program) (g : Nat) (lb : Array Value) (encs : α → Array Value) (n₀ bf : Nat) (S Sp : List α → Prop) (N : Nat) (w : World) : Prop :=
  ∀ (l : Nat) (J Jx : List α → World → Prop) (W : World), Below w.heap.size w W → StayBut bf J → StayBut bf Jx →
    (∀ pre x W1, J pre W1 → pre.length < N → W.heap.size ≤ W1.heap.size → YieldAt F (n - 1) P l (encs x) W1 fun e W' =>
      (e = .returned (.bool true) ∧ J (pre ++ [x]) W' ∧ KpB n₀ bf W1 W') ∨ (e = .returned (.bool false) ∧ Jx (pre ++ [x]) W')) →
    J [] W →
    CallsIn F n P g (#[.func (.yield l) #[] #[]] ++ lb) W fun e W' => (∃ v, e = .returned v) ∧ ((∃ xs, S xs ∧ J xs W') ∨ (∃ pre, Sp pre ∧ Jx pre W'))

/-- What the loop's two blocks of book-keeping hold. -/
def Books (B : Nat) (r : Loop) (W : World) : Prop := W.heap[B + 1]? = some (.loop r) ∧ W.heap[B]? = some (.deferred (some []))

theorem Books.stay {B : Nat} {r : Loop} {A C : World} {row : Option Nat} (h : Books B r A) (hg : A.grownBy C row) (hr : ∀ k, row = some k → k < B) : Books B r C :=
  ⟨(hg.block (B + 1) (Array.getElem?_eq_some_iff.1 h.1).1 (fun e => by have := hr _ e.symm; omega)).trans h.1, (hg.block B (Array.getElem?_eq_some_iff.1 h.2).1 (fun e => by have := hr _ e.symm; omega)).trans h.2⟩
theorem Books.turn {B : Nat} {r r' : Loop} {W : World} (h : Books B r W) : Books B r' (W.putObj (B + 1) (.loop r')) :=
  ⟨World.putObj_heap_same (Array.getElem?_eq_some_iff.1 h.1).1, (World.putObj_heap_other (by omega)).trans h.2⟩
theorem Books.kept {B : Nat} {r : Loop} {W W' : World} (h : Books B r W) (hk : KeepsFrom B W W') : Books B r W' :=
  ⟨hk.same _ _ (by omega) h.1 rfl, hk.same _ _ (Nat.le_refl _) h.2 rfl⟩

theorem kpb_putObj {n₀ B : Nat} {a W : World} {l : Nat} (o : Obj) (h : KpB n₀ B a W) (hl : n₀ ≤ l) (hB : l ≠ B) : KpB n₀ B a (W.putObj l o) :=
  h.trans ⟨⟨rfl, rfl, rfl, by simp, fun k hk => World.putObj_heap_other (by omega)⟩, World.putObj_heap_other (by omega)⟩

set_option maxHeartbeats 1000000 in
theorem wpIn_rangeFunc_at {F : Fence} {n : Nat} {P : Program} {α : Type} {g : Operand} {ps : Array Tmp} {assign body : Code} {Q : Exit → Act → World → Prop} {a : Act} {w : World}
    (hro : F.round = none) (h1 : 1 ≤ n) {gf : Nat} {lb : Array Value} (hg : a.eval g = .func (.func gf) #[] lb) (hFg : F.fn gf) (eg : ∀ args w, (callFunc gf args).run P w = .ok (.enter gf args) w)
    {encs : α → Array Value} {n₀ bf : Nat} {S Sp : List α → Prop} {N : Nat} {w0 : World} (hseq : SeqAt F (n - 1) P gf lb encs n₀ bf S Sp N w0) (hn₀ : n₀ ≤ w.heap.size) (hbf : bf < w.heap.size) (hb0 : Below w0.heap.size w0 w) (hps : ∀ x, (encs x).size = ps.size)
    (I : List α → World → Prop) (Ix : Code → List α → World → Prop) (hI : OwnFrom w.heap.size I) (hIx : ∀ c, OwnFrom w.heap.size (Ix c)) (hIb : StayBut bf I) (hIxb : ∀ c, StayBut bf (Ix c)) (h0 : I [] w)
    (Ax : α → Act → World → Prop) (hAx : ∀ x a', OwnFrom w.heap.size (fun (_ : Unit) W => Ax x a' W))
    (hassign : ∀ (l : Nat) (pre : List α) (x : α) (W : World) (K : Act → World → Prop), w.heap.size + 2 ≤ W.heap.size → I pre W → (∀ a' W', KeepsFrom w.heap.size W W' → KpB n₀ bf W W' → I pre W' → Ax x a' W' → K a' W') →
      assign.wpIn (F.inRound l) (n - 1 - 1) P (Exit.then K (fun _ _ _ => False)) { tmps := (ps.zip (encs x)).foldl (fun t (p, v) => t.setIfInBounds p v) a.tmps, defers := [] } W)
    (hbody : ∀ (l : Nat) (pre : List α) (x : α) (a' : Act) (W : World), w.heap.size + 2 ≤ W.heap.size → I pre W → Ax x a' W → pre.length < N → body.wpIn (F.inRound l) (n - 1 - 1) P (ownPostG w.heap.size (KpB n₀ bf) I Ix (pre ++ [x]) W) a' W)
    (hdone : ∀ (xs : List α) (W : World), S xs → I xs W → W.heap[w.heap.size]? = some (.deferred (some [])) → Q .normal { a with defers := { target := .collected w.heap.size, args := #[] } :: a.defers } W)
    (hstop : ∀ (c : Code) (pre : List α) (W : World), Sp pre → Ix c pre W → W.heap[w.heap.size]? = some (.deferred (some [])) → c.wpIn F n P Q { a with defers := { target := .collected w.heap.size, args := #[] } :: a.defers } W) :
    (Code.rangeFunc g ps assign body).wpIn F n P Q a w := by
  refine wpIn_rangeFunc fun fn hfn => ?_
  rw [hro]
  obtain ⟨rec, hrec⟩ : ∃ rec : LoopState → Option Code → Loop, rec = fun st pe => { state := st, pending := pe, fn, tmps := a.tmps, params := ps, assign, body, defers := w.heap.size } := ⟨_, rfl⟩
  obtain ⟨W1, hW1⟩ : ∃ W1, (w.alloc (.deferred (some []))).alloc (.loop (rec .ready none)) = W1 := ⟨_, rfl⟩
  have hsz : W1.heap.size = w.heap.size + 2 := by rw [← hW1]; simp
  have hB1 : Books w.heap.size (rec .ready none) W1 := by
    rw [← hW1]
    refine ⟨?_, (Below.heap_alloc _ _ _ (by simp)).trans (World.alloc_heap_new w _)⟩
    have := World.alloc_heap_new (w.alloc (.deferred (some []))) (.loop (rec .ready none)); rwa [World.size_alloc] at this
  have hbel : Below w0.heap.size w0 W1 := by
    rw [← hW1]; exact hb0.trans ((((Below.refl _ w).alloc (Nat.le_refl _) _).alloc (by simp) _).mono hb0.size)
  have hnc : ∀ r : Loop, (Obj.loop r).isCells = false := fun _ => rfl
  refine ⟨w.heap.size + 1, [{ target := .collected w.heap.size, args := #[] }], W1, { target := .fn (.func gf) lb, args := #[.func (.yield (w.heap.size + 1)) #[] #[]] }, W1, gf,
    #[.func (.yield (w.heap.size + 1)) #[] #[]] ++ lb, W1, by rw [← hW1, hrec]; exact run_enterLoop_outer _ _ _ _ _, ?_, ?_, ?_, fun _ => h1, ?_⟩
  · simp only [resolve, hg]; simp [go_sem]
  · intro f' hf'; simp [Target.leads] at hf'; subst hf'; exact hFg
  · simp [invoke, go_sem, eg]
  refine (hseq (w.heap.size + 1) (fun pre W => (I pre W ∧ w.heap.size + 2 ≤ W.heap.size) ∧ Books w.heap.size (rec .ready none) W) (fun pre W => ∃ c, Ix c pre W ∧ Books w.heap.size (rec .done (some c)) W) W1 hbel ?_ ?_ ?_ ?_).mono ?_
  · intro s A C row hs hgr hr
    exact ⟨⟨hIb s A C row hs.1.1 hgr hr, Nat.le_trans hs.1.2 hgr.size⟩, hs.2.stay hgr (fun k e => by rw [hr k e]; exact hbf)⟩
  · rintro s A C row ⟨c, hc, hbk⟩ hgr hr
    exact ⟨c, hIxb c s A C row hc hgr hr, hbk.stay hgr (fun k e => by rw [hr k e]; exact hbf)⟩
  · rintro pre x W ⟨⟨hi, _⟩, hbk⟩ hlen hle
    rw [hsz] at hle
    replace hle : w.heap.size + 2 ≤ W.heap.size := hle
    have hy := run_yield (P := P) (args := encs x) hbk.1 (by rw [hrec]; exact hps x)
    rw [hrec] at hy
    refine ⟨fn, _, assign, body, hy, roundIn_of_wpIn hfn (hassign _ pre x W _ hle hi ?_)⟩
    intro a' Wa hka hba hia hax
    have hbk2 := hbk.kept hka
    have hle2 : w.heap.size + 2 ≤ Wa.heap.size := Nat.le_trans hle hba.1.size
    refine ⟨_, run_beginRound hbk2.1 (by rw [hrec]), ?_⟩
    have hbk3 : Books w.heap.size { rec .ready none with state := .busy } (Wa.putObj (w.heap.size + 1) (.loop { rec .ready none with state := .busy })) := hbk2.turn
    refine wpIn_mono (hbody _ pre x a' _ (by simpa using hle2) (hI.putObj _ hia (by omega) hbk2.1 rfl) ((hAx x a').putObj (s := ()) _ hax (by omega) hbk2.1 rfl) hlen) ?_
    have hb3 : KpB n₀ bf W (Wa.putObj (w.heap.size + 1) (.loop { rec .ready none with state := .busy })) := kpb_putObj _ hba (by omega) (by omega)
    have fin : ∀ (jump : Option Code) (W3 : World), KeepsFrom w.heap.size (Wa.putObj (w.heap.size + 1) (.loop { rec .ready none with state := .busy })) W3 →
        Books w.heap.size { rec .ready none with state := .busy } W3 ∧
        (Instr.endRound (w.heap.size + 1) jump).run P W3 = .ok (.bool jump.isNone) (W3.putObj (w.heap.size + 1) (.loop (rec (if jump.isNone then .ready else .done) jump))) ∧
        Books w.heap.size (rec (if jump.isNone then .ready else .done) jump) (W3.putObj (w.heap.size + 1) (.loop (rec (if jump.isNone then .ready else .done) jump))) := fun jump W3 hk3 => by
      have hb := hbk3.kept hk3
      have he := run_endRound (P := P) jump hb.1
      rw [hrec] at he ⊢
      exact ⟨by rw [hrec] at hb; exact hb, he, by rw [hrec] at hb; exact hb.turn⟩
    have leave : ∀ (c : Code) (a3 : Act) (W3 : World), KeepsFrom w.heap.size (Wa.putObj (w.heap.size + 1) (.loop { rec .ready none with state := .busy })) W3 → Ix c (pre ++ [x]) W3 →
        ∃ v W4, (Instr.endRound (w.heap.size + 1) (some c)).run P W3 = .ok v W4 ∧ v = .bool false ∧ ∃ c', Ix c' (pre ++ [x]) W4 ∧ Books w.heap.size (rec .done (some c')) W4 := fun c a3 W3 hk3 hi3 => by
      obtain ⟨hb, he, hb4⟩ := fin (some c) W3 hk3
      exact ⟨_, _, he, rfl, c, (hIx c).putObj _ hi3 (by omega) hb.1 rfl, hb4⟩
    rintro e a3 W3 hp
    cases e with
    | normal =>
      obtain ⟨hk3, hkp3, hi3⟩ := hp
      obtain ⟨hb, he, hb4⟩ := fin none W3 hk3
      have hle3 : w.heap.size + 2 ≤ W3.heap.size := Nat.le_trans (by simp; omega) hkp3.1.size
      exact ⟨_, _, he, .inl ⟨rfl, ⟨⟨hI.putObj _ hi3 (by omega) hb.1 rfl, by simpa using hle3⟩, hb4⟩, by exact kpb_putObj _ (hb3.trans hkp3) (by omega) (by omega)⟩⟩
    | ret => obtain ⟨v, W4, he, rfl, hx⟩ := leave .ret a3 W3 hp.1 hp.2; exact ⟨_, _, he, .inr ⟨rfl, hx⟩⟩
    | exit id => obtain ⟨v, W4, he, rfl, hx⟩ := leave (.exit id) a3 W3 hp.1 hp.2; exact ⟨_, _, he, .inr ⟨rfl, hx⟩⟩
    | goto t => obtain ⟨v, W4, he, rfl, hx⟩ := leave (.goto t) a3 W3 hp.1 hp.2; exact ⟨_, _, he, .inr ⟨rfl, hx⟩⟩
    | panic ch => exact hp.elim
    | outgrown => exact hp.elim
  · refine ⟨⟨?_, by omega⟩, hB1⟩
    rw [← hW1]; exact hI.alloc _ (hI.alloc _ h0)
  · rintro e W2 ⟨⟨v, rfl⟩, (⟨xs, hS, ⟨hi, _⟩, hbk⟩ | ⟨pre, hSp, c, hi, hbk⟩)⟩
    · exact ⟨none, _, by have := run_endLoop (P := P) hbk.1 (by rw [hrec]; simp); rw [hrec] at this; exact this, hdone xs _ hS (hI.putObj _ hi (by omega) hbk.1 rfl) ((World.putObj_heap_other (by omega)).trans hbk.2)⟩
    · exact ⟨some c, _, by have := run_endLoop (P := P) hbk.1 (by rw [hrec]; simp); rw [hrec] at this; exact this, hstop c pre _ hSp ((hIx c).putObj _ hi (by omega) hbk.1 rfl) ((World.putObj_heap_other (by omega)).trans hbk.2)⟩
end Go.Proofs.Ytlmemkcfikdhgaa
