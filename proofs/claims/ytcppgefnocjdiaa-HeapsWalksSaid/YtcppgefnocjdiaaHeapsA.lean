/- What less says, of both values; which of two items comes first. -/
import Derived.Test.YtcppgefnocjdiaaChecked
import Derived.Test.YtcppgefnocjdiaaShelf
import Derived.Test.YtcppgefnocjdiaaHeapsP
import Derived.WalkKit
import Derived.WalkSpells
import Derived.WalkLawsBesides
import Derived.Outline
import Derived.Lib.Hide
import Derived.IntWalk
import Derived.Defers
import Derived.Recover
import Derived.BigQuiet
import Derived.Deep.DeepCutAuto
import Derived.Deep.RegionHeld3
import Derived.Shelf.SlSortCmp.InsertionK
import Derived.Shelf.SlSortCmp.QuietGrown
namespace Go.Proofs.Ytcppgefnocjdiaa
open Go.RowKit Go.Lib Go.Sort Go.Shelf
set_option linter.unusedVariables false

/-- Draws and new blocks, nothing else. -/
def Grew (w w' : World) : Prop := ∃ q os, w' = grow (w.drewN q) os
theorem Grew.refl (w : World) : Grew w w := ⟨0, #[], by rw [grow_empty]; rfl⟩
theorem Grew.trans {w w' w'' : World} (h : Grew w w') (k : Grew w' w'') : Grew w w'' := by
  obtain ⟨q, os, rfl⟩ := h
  obtain ⟨r, os2, rfl⟩ := k
  exact ⟨q + r, os ++ os2, by show grow (grow ((w.drewN q).drewN r) os) os2 = _; rw [grow_grow, World.drewN_drewN]⟩
theorem Grew.alloc {w w' : World} (h : Grew w w') (o : Obj) : Grew w (w'.alloc o) := h.trans ⟨0, #[o], by rw [alloc_eq_grow]; rfl⟩
theorem Grew.drew {w w' : World} (h : Grew w w') : Grew w w'.drew := h.trans ⟨1, #[], by rw [grow_empty]; rfl⟩
theorem Grew.of {w : World} (n : Nat) (os : Array Obj) : Grew w (grow (w.drewN n) os) := ⟨n, os, rfl⟩
theorem Grew.below {w w' : World} (h : Grew w w') : Go.RowKit.Below w.heap.size w w' := by
  obtain ⟨q, os, rfl⟩ := h
  exact ⟨rfl, rfl, rfl, by rw [size_grow]; exact Nat.le_add_right _ _, fun k hk => heap_grow_old (w.drewN q) os hk⟩

/-- A function value that says whether one int is less than another. -/
def LessC (F : Value) (lt : Int → Int → Bool) : Prop :=
  ∃ g cb, F = .func (.func g) #[] cb ∧ (∀ args w, (callFunc g args).run Try.prog w = .ok (.enter g args) w) ∧
    ∀ x y W, Calls Try.prog g (#[.int .i64 x, .int .i64 y] ++ cb) W fun e w' => e = .returned (.bool (lt x y)) ∧ Grew W w'

theorem idle_any (w : World) : CallsD Try.prog 74 #[] .returning w fun e u' w' => e = .returned (.tuple #[]) ∧ u' = .returning ∧ w' = w := by
  refine callsD_of_wpS Try.func74 rfl fun c₀ cs hu => ?_
  apply wpS_region
  cases c₀
  simp_all [wpOpsS, go_sem, recoverD, Try.ntmps74, bodyPostS, results, Try.results74]
theorem says_any (F : Value) (lt : Int → Int → Bool) (hF : LessC F lt) (x y : Int) (w : World) :
    Calls Try.prog 70 #[F, .int .i64 x, .int .i64 y] w fun e w' => e = .returned (.bool (lt x y)) ∧ Grew w w' := by
  obtain ⟨g, cb, rfl, eg, hcon⟩ := hF
  have hcon' := hcon x y w
  generalize lt x y = b at hcon' ⊢
  clear hcon
  go_enter_defers Try.func70, Try.ntmps70
  go_wp2_with (go_at_fn g; refine hcon'.mono ?_; rintro e w' ⟨rfl, hG⟩)
  refine leaves_cons (f := 74) (args := #[]) (by simp) (by simp [go_sem]) ?_
  refine (idle_any _).mono ?_
  rintro e u' w'' ⟨rfl, rfl, rfl⟩
  exact ⟨_, results_tmp rfl _ _ _, rfl, hG⟩

/-- Which of two items comes first. -/
def cmpI (lt : Int → Int → Bool) (a b : HItem) : Int := if lt a.2 b.2 then -1 else if lt b.2 a.2 then 1 else Lib.compareInt a.1 b.1
theorem cmpI_neg {lt : Int → Int → Bool} {a b : HItem} : cmpI lt a b < 0 ↔ befI lt a b := by
  unfold cmpI befI Lib.compareInt
  by_cases h1 : lt a.2 b.2 = true
  · simp [h1]
  · by_cases h2 : lt b.2 a.2 = true
    · simp [h1, h2]
    · simp only [h1, h2, Bool.false_eq_true, if_false, false_or]
      by_cases h3 : a.1 < b.1
      · simp [h3]
      · by_cases h4 : b.1 < a.1 <;> simp [h3, h4]
def encH (x : HItem) : List Value := [.int .i64 x.1, .int .i64 x.2]
theorem box2 (w : World) (a b : Value) (T : TypeId) (g : Nat) (hg : g = w.heap.size) : (w.alloc (.cells #[a, b] T)).cell? ⟨g, 0, none⟩ = some a ∧ (w.alloc (.cells #[a, b] T)).cell? ⟨g, 1, none⟩ = some b := by
  subst hg
  constructor <;> simp [go_sem]
theorem says_grown (F : Value) (lt : Int → Int → Bool) (hF : LessC F lt) (x y : Int) (b : Bool) (hb : lt x y = b) (w : World) (n : Nat) (os : Array Obj) :
    Calls Try.prog 70 #[F, .int .i64 x, .int .i64 y] (grow (w.drewN n) os) fun e w'' => e = .returned (.bool b) ∧ ∃ p : GrownBy, w'' = grow (w.drewN p.n) p.os := by
  subst hb
  exact Calls.grown_of (says_any F lt hF x y _)
set_option maxHeartbeats 2000000 in
theorem compare_any (tb tp : Nat) (F : Value) (lt : Int → Int → Bool) (hF : LessC F lt) (a b : HItem) (w : World) (hc : w.cell? ⟨tb, tp, none⟩ = some F) :
    Calls Try.prog 60 #[.pointer (some ⟨tb, tp, none⟩), .agg #[.int .i64 a.1, .int .i64 a.2], .agg #[.int .i64 b.1, .int .i64 b.2]] w fun e w' => e = .returned (.int .i64 (cmpI lt a b)) ∧ Grew w w' := by
  have mixed : Try.prog.follows .mixedOrders = true := by kernel_rfl
  obtain ⟨ah, av⟩ := a
  obtain ⟨bh, bv⟩ := b
  have hlt : tb < w.heap.size := World.block_lt_of_cell? w _ hc
  have h1 := says_grown F lt hF av bv _ rfl
  have h2 := says_grown F lt hF bv av _ rfl
  have h3 := fun W => Try.cmp_Compare_int ah bh W
  have HE : Hid (cmpI lt (ah, av) (bh, bv) = if lt av bv then -1 else if lt bv av then 1 else Lib.compareInt ah bh) := Lib.hid rfl
  generalize cmpI lt (ah, av) (bh, bv) = r at HE ⊢
  generalize lt av bv = b1 at h1 HE
  generalize lt bv av = b2 at h2 HE
  generalize Lib.compareInt ah bh = b3 at h3 HE
  generalize hvF : F = vF at hc h1 h2
  clear hvF hF
  go_enter Try.func60, Try.ntmps60
  go_wp2_with fail
  have hG : Grew w ((w.alloc (.cells #[.int .i64 ah, .int .i64 av] 64)).alloc (.cells #[.int .i64 bh, .int .i64 bv] 64)) := ((Grew.refl w).alloc _).alloc _
  have hsz : ((w.alloc (.cells #[.int .i64 ah, .int .i64 av] 64)).alloc (.cells #[.int .i64 bh, .int .i64 bv] 64)).heap.size = w.heap.size + 2 := by simp
  have c0 : ∀ n os, (grow ((((w.alloc (.cells #[.int .i64 ah, .int .i64 av] 64)).alloc (.cells #[.int .i64 bh, .int .i64 bv] 64))).drewN n) os).cell? ⟨tb, tp, none⟩ = some vF :=
    cell_grown (by rw [hsz]; exact (show tb < w.heap.size + 2 by omega)) (Lib.cell?_alloc_some _ (Lib.cell?_alloc_some _ hc))
  have c1 : ∀ n os, (grow ((((w.alloc (.cells #[.int .i64 ah, .int .i64 av] 64)).alloc (.cells #[.int .i64 bh, .int .i64 bv] 64))).drewN n) os).cell? ⟨w.heap.size, 1, none⟩ = some (.int .i64 av) :=
    cell_grown (by rw [hsz]; exact (show w.heap.size < w.heap.size + 2 by omega)) (Lib.cell?_alloc_some _ (by simp [go_sem]))
  have c2 : ∀ n os, (grow ((((w.alloc (.cells #[.int .i64 ah, .int .i64 av] 64)).alloc (.cells #[.int .i64 bh, .int .i64 bv] 64))).drewN n) os).cell? ⟨w.heap.size + 1, 1, none⟩ = some (.int .i64 bv) :=
    cell_grown (by rw [hsz]; exact (show w.heap.size + 1 < w.heap.size + 2 by omega)) (box2 _ _ _ _ _ (by simp)).2
  have c3 : ∀ n os, (grow ((((w.alloc (.cells #[.int .i64 ah, .int .i64 av] 64)).alloc (.cells #[.int .i64 bh, .int .i64 bv] 64))).drewN n) os).cell? ⟨w.heap.size, 0, none⟩ = some (.int .i64 ah) :=
    cell_grown (by rw [hsz]; exact (show w.heap.size < w.heap.size + 2 by omega)) (Lib.cell?_alloc_some _ (by simp [go_sem]))
  have c4 : ∀ n os, (grow ((((w.alloc (.cells #[.int .i64 ah, .int .i64 av] 64)).alloc (.cells #[.int .i64 bh, .int .i64 bv] 64))).drewN n) os).cell? ⟨w.heap.size + 1, 0, none⟩ = some (.int .i64 bh) :=
    cell_grown (by rw [hsz]; exact (show w.heap.size + 1 < w.heap.size + 2 by omega)) (box2 _ _ _ _ _ (by simp)).1
  generalize (w.alloc (.cells #[.int .i64 ah, .int .i64 av] 64)).alloc (.cells #[.int .i64 bh, .int .i64 bv] 64) = wq at c0 c1 c2 c3 c4 hG hsz ⊢
  obtain ⟨pp, hpp⟩ : ∃ pp, w.heap.size + 1 = pp := ⟨_, rfl⟩
  rw [hpp] at c2 c4 ⊢
  generalize w.heap.size = pz at c1 c3 ⊢
  clear hsz hc hlt hpp
  have h1' := fun n os => h1 wq n os
  go_quiet_grown (first | (go_at_call 70; exact h1' _ _))
  have again : ∀ {W : World} {a : Addr} {v : Value}, (∀ n os, (grow (W.drewN n) os).cell? a = some v) → ∀ nq osq n os, (grow ((grow (W.drewN nq) osq).drewN n) os).cell? a = some v :=
    fun h nq osq => cell_grown (World.block_lt_of_cell? _ _ (h nq osq)) (h nq osq)
  have d0 := again c0 nq osq
  have d1 := again c1 nq osq
  have d2 := again c2 nq osq
  have d3 := again c3 nq osq
  have d4 := again c4 nq osq
  have hGa : Grew w (grow (wq.drewN nq) osq) := hG.trans (Grew.of _ _)
  clear c0 c1 c2 c3 c4 hG h1' h1 again
  generalize grow (wq.drewN nq) osq = wa at d0 d1 d2 d3 d4 hGa ⊢
  cases b1 with
  | true =>
    have HR : Hid (r = -1) := Lib.hid (by rw [HE.out]; simp)
    clear HE
    go_wp2_with fail
    go_ret
    exact ⟨by rw [HR.out]; rfl, hGa⟩
  | false =>
    go_wp2_with fail
    have h2' := fun n os => h2 wa n os
    go_quiet_grown (first | (go_at_call 70; exact h2' _ _))
    have hGb : Grew w (grow (wa.drewN nq) osq) := hGa.trans (Grew.of _ _)
    have e3 := d3 nq osq
    have e4 := d4 nq osq
    clear d0 d1 d2 d3 d4 hGa h2' h2
    generalize grow (wa.drewN nq) osq = wb at e3 e4 hGb ⊢
    cases b2 with
    | true =>
      have HR : Hid (r = 1) := Lib.hid (by rw [HE.out]; simp)
      clear HE
      go_wp2_with fail
      go_ret
      exact ⟨by rw [HR.out]; rfl, hGb⟩
    | false =>
      have HR : Hid (r = b3) := Lib.hid (by rw [HE.out]; simp)
      clear HE
      go_wp2_with (first | (go_at_call 71; refine (h3 _).mono ?_; rintro e w' ⟨rfl, rfl⟩))
      go_ret
      exact ⟨by rw [HR.out]; rfl, hGb⟩
end Go.Proofs.Ytcppgefnocjdiaa
