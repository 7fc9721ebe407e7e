/- slices.SortFunc by a method value, of at most 12 items; a copy of items; ascending; Save. -/
import Derived.Test.YtcppgefnocjdiaaHeapsSa
import Derived.Test.YtcppgefnocjdiaaHeapsY
import Derived.Test.YtcppgefnocjdiaaShelf
namespace Go.Proofs.Ytcppgefnocjdiaa
open Go.RowKit Go.Lib Go.Sort Go.Shelf
set_option linter.unusedVariables false

set_option maxRecDepth 100000 in
set_option maxHeartbeats 2000000 in
theorem pdq_small (v fv : Value) (n : Nat) (lim : Int) (W : World) (P : World → Prop) (hn : n ≤ 12) (hI : Calls Try.prog 76 #[v, .int .i64 0, .int .i64 n, fv] W fun e w' => e = .returned (.tuple #[]) ∧ Hid (P w')) :
    Calls Try.prog 72 #[v, .int .i64 0, .int .i64 n, .int .i64 lim, fv] W fun e w' => e = .returned (.tuple #[]) ∧ Hid (P w') := by
  have i1 : IntKind.i64.wrap ((n : Int) - 0) = (n : Int) := by rw [IntWalk.i64_in _ (by omega)]; omega
  have i2 : IntKind.i64.wrap (n : Int) = (n : Int) := IntWalk.i64_in _ (by omega)
  have i3 : (n : Int) ≤ 12 := by omega
  go_enter Try.func72, Try.ntmps72
  go_wp2_with fail
  refine wp_loop_rounds 1 ?_
  rw [rounds_succ]
  go_wp2_with (first | (go_at_call 76; refine hI.mono ?_; rintro e w' ⟨rfl, hP⟩))
  refine bodyPost_ret (results_none rfl _ _ _) rfl ?_
  exact ⟨rfl, hP⟩
set_option maxRecDepth 100000 in
set_option maxHeartbeats 2000000 in
theorem sort_small (A : Option Addr) (n c : Nat) (fv : Value) (W : World) (P : World → Prop) (hn : n ≤ 12) (hI : Calls Try.prog 76 #[.slice A n c, .int .i64 0, .int .i64 n, fv] W fun e w' => e = .returned (.tuple #[]) ∧ Hid (P w')) :
    Calls Try.prog 66 #[.slice A n c, fv] W fun e w' => e = .returned (.tuple #[]) ∧ Hid (P w') := by
  have kp := fun lim => pdq_small (.slice A n c) fv n lim W P hn hI
  have kb := fun W => Try.bits_Len (n : Int) W (by omega) (by omega)
  have i1 : IntKind.u64.wrap (n : Int) = (n : Int) := by simp [IntKind.wrap, IntKind.bits, IntKind.signed]; omega
  clear hI
  go_enter Try.func66, Try.ntmps66
  go_wp2_with (first | (go_at_call 73; refine (kb _).mono ?_; rintro e w' ⟨rfl, hw⟩; subst hw) | (go_at_call 72; refine (kp _).mono ?_; rintro e w' ⟨rfl, hP⟩))
  go_end0
  exact ⟨rfl, hP⟩
/-- slices.SortFunc, at n items. -/
def SortC (n : Nat) : Prop := ∀ (B g c qb : Nat) (F : Value) (lt : Int → Int → Bool) (d : List HItem) (W : World), SE W qb g F lt → SM W B g n c d W → DH d →
  Calls Try.prog 66 #[.slice (some ⟨g, 0, none⟩) n c, cmpF qb] W fun e w' => e = .returned (.tuple #[]) ∧ Hid (∃ d', PR 0 n d d' ∧ Srt lt 0 n d' ∧ SM W B g n c d' w')
theorem sortC_small {n : Nat} (hn : n ≤ 12) : SortC n := fun B g c qb F lt d W h hm hd =>
  sort_small _ n c _ W _ hn ((insertion_any B g n c qb F lt d 0 n W h hm hd (Nat.zero_le _) (Nat.le_refl _) (by omega)).mono fun e w' ⟨he, h⟩ => ⟨he, Lib.hid h⟩)
set_option maxRecDepth 100000 in
theorem insertion_none (A : Option Addr) (c : Nat) (fv : Value) (W : World) :
    Calls Try.prog 76 #[.slice A 0 c, .int .i64 0, .int .i64 (0 : Nat), fv] W fun e w' => e = .returned (.tuple #[]) ∧ Hid (w' = W) := by
  go_enter Try.func76, Try.ntmps76
  go_wp2_with fail
  refine wp_loop_rounds 1 ?_
  rw [rounds_succ]
  go_wp2_with fail
  go_end0
  exact ⟨rfl, Lib.hid rfl⟩
theorem sort_none (A : Option Addr) (c : Nat) (fv : Value) (W : World) :
    Calls Try.prog 66 #[.slice A 0 c, fv] W fun e w' => e = .returned (.tuple #[]) ∧ Hid (w' = W) := sort_small A 0 c fv W _ (by omega) (insertion_none A c fv W)

/-! ### Clone -/
theorem hC_one (l : List HItem) : ∀ u ∈ hC l, u.oneCell' = true := by
  intro u hu
  obtain ⟨s, _, h⟩ := List.mem_flatMap.1 hu
  simp [encH] at h
  rcases h with rfl | rfl <;> rfl
def CloneR (w : World) (l : List HItem) (e : Ending) (w' : World) : Prop := ∃ v', e = .returned v' ∧ OH w' w.heap.size v' l ∧ Go.RowKit.Below w.heap.size w w'
set_option maxHeartbeats 2000000 in
set_option maxRecDepth 100000 in
theorem clone_some (ad : Addr) (c : Nat) (l : List HItem) (w : World) (hl : l.length ≤ 100000) (hc : ∀ j u, (hC l)[j]? = some u → w.cell? (ad.add j) = some u) :
    Calls Try.prog 65 #[.slice (some ad) l.length c] w (CloneR w l) := by
  obtain ⟨i0, hi, hz0, hz1, hz2⟩ := info_parts info_item
  have q22 : ∀ (w : World) (a : Option Addr) (n c n' c' : Nat), (binOp .eql 22 (.slice a n c) (.slice none n' c')).run Try.prog w = .ok (.bool a.isNone) w := fun w a n c n' c' => Lib.run_eql_slice_nil w _ _ a n c n' c' Try.underlying22
  have HC := Lib.hid hc; clear hc
  obtain ⟨n, hn⟩ : ∃ n, l.length = n := ⟨_, rfl⟩
  rw [hn] at hl ⊢
  have HN := Lib.hid hn; clear hn
  go_enter Try.func65, Try.ntmps65
  go_wp2_with (at_builtin; refine wpList_append_own _ rfl _ _ 22 rfl w.heap.size 64 i0 (.agg #[.int .i64 0, .int .i64 0]) 2 16 Try.underlying22 hi hz0 hz1 hz2 rfl (by decide) _ _ _ rfl (World.ownsRow_made w #[] 0 (Nat.le_refl _) (Nat.zero_le _) (by simp)) ad n c (hC l) rfl ?qc1 ?qc2 ?qc3 ?qc4 ?qc5 ?qc6 ?_)
  case qc1 => rw [hC_len, HN.out]
  case qc2 => exact fun j u hj => Lib.cell?_alloc_some _ (HC.out j u hj)
  case qc3 => exact hC_one l
  case qc4 => unfold maxLen; omega
  case qc5 => omega
  case qc6 => simp
  intro v' w1 hown hgrow _
  have HO := Lib.hid hown; have HG := Lib.hid hgrow
  clear hown hgrow
  go_wp2_with fail
  go_ret
  refine ⟨v', rfl, ?_, ((Go.RowKit.Below.refl _ w).alloc (Nat.le_refl _) _).grown HG.out (by simp) (by intro k hk; simp [Value.ownBlock] at hk; omega)⟩
  have := HO.out
  unfold OH
  rw [HN.out]
  exact this
set_option maxHeartbeats 1000000 in
theorem clone_none (n c : Nat) (w : World) : Calls Try.prog 65 #[.slice none n c] w (CloneR w []) := by
  have q22 : ∀ (w : World) (a : Option Addr) (n c n' c' : Nat), (binOp .eql 22 (.slice a n c) (.slice none n' c')).run Try.prog w = .ok (.bool a.isNone) w := fun w a n c n' c' => Lib.run_eql_slice_nil w _ _ a n c n' c' Try.underlying22
  go_enter Try.func65, Try.ntmps65
  go_wp2_with fail
  go_ret
  exact ⟨_, rfl, OH.nil _ _, Go.RowKit.Below.refl _ _⟩
theorem clone_any (v : Value) (B : Nat) (l : List HItem) (w : World) (hv : OH w B v l) (hl : l.length ≤ 100000) : Calls Try.prog 65 #[v] w (CloneR w l) := by
  rcases hv.shape with ⟨rfl, rfl⟩ | ⟨g, c, rfl, _⟩
  · exact clone_none 0 0 w
  · refine clone_some ⟨g, 0, none⟩ c l w hl (fun j u h => ?_)
    have h' : w.ownsRow B 64 2 (.slice (some ⟨g, 0, none⟩) l.length c) l.length (hC l) := hv
    exact h'.cells (g := g) rfl j u h
/-- The items of a queue, in order. -/
def AscR (W : World) (xs : List HItem) (lt : Int → Int → Bool) (e : Ending) (w' : World) : Prop := ∃ v L, e = .returned v ∧ L.Perm xs ∧ L.Pairwise (befI lt) ∧ OH w' W.heap.size v L ∧ Go.RowKit.Below W.heap.size W w'
theorem srt_pairwise {lt : Int → Int → Bool} {d : List HItem} (h : Srt lt 0 d.length d) : d.Pairwise (befI lt) := by
  rw [List.pairwise_iff_getElem]
  intro i j hi hj hij
  have := h i j (Nat.zero_le _) hij hj
  rw [List.getD_eq_getElem?_getD, List.getD_eq_getElem?_getD, List.getElem?_eq_getElem hi, List.getElem?_eq_getElem hj] at this
  exact this
set_option maxRecDepth 100000 in
set_option maxHeartbeats 1000000 in
theorem ascending_any (B qb mb : Nat) (F v : Value) (nx : Int) (xs : List HItem) (lt : Int → Int → Bool) (hF : LessC F lt) (hw : WeakB lt) (W : World) (h : QM W B qb mb F v nx xs) (hd : DH xs) (hs : SortC xs.length) :
    Calls Try.prog 48 #[.pointer (some ⟨qb, 2, none⟩)] W (AscR W xs lt) := by
  have k1 := (clone_any v B xs W h.row h.len).mono (R' := fun e w' => ∃ v', e = .returned v' ∧ Hid (OH w' W.heap.size v' xs ∧ Go.RowKit.Below W.heap.size W w')) fun e w' ⟨v', he, r⟩ => ⟨v', he, Lib.hid r⟩
  have hq := h.lt
  have k2 : ∀ w1 v', Hid (OH w1 W.heap.size v' xs ∧ Go.RowKit.Below W.heap.size W w1) → Calls Try.prog 66 #[v', cmpF qb] w1 fun e w' => e = .returned (.tuple #[]) ∧ Hid (AscR W xs lt (.returned v') w') := fun w1 v' H => by
    obtain ⟨h1, h2⟩ := H.out
    rcases h1.shape with ⟨rfl, hx⟩ | ⟨g, c, rfl, hg, _⟩
    · refine (sort_none none 0 (cmpF qb) w1).mono ?_
      rintro e w' ⟨he, hw'⟩
      rw [hw'.out]
      exact ⟨he, Lib.hid ⟨_, xs, rfl, List.Perm.refl _, by rw [hx]; exact List.Pairwise.nil, h1, h2⟩⟩
    · have hc2 : w1.cell? ⟨qb, 2, none⟩ = some F := (World.cell?_of_block (a := ⟨qb, 2, none⟩) (h2.block qb hq.1)).trans h.c2
      refine (hs W.heap.size g c qb F lt xs w1 ⟨hc2, by omega, hF, hw⟩ ⟨h1, rfl, ⟨rfl, rfl, rfl, Nat.le_refl _, fun _ _ _ => rfl⟩⟩ hd).mono ?_
      rintro e w' ⟨he, ⟨d', p1, p2, p3⟩⟩
      refine ⟨he, Lib.hid ⟨_, d', rfl, p1.perm, srt_pairwise (by rw [p1.len]; exact p2), ?_, h2.grown p3.gb h2.size (fun k e => by cases e; exact hg)⟩⟩
      exact p3.row
  unfold cmpF at k2
  have hmf : ∀ (fn : Fn) (first cap : Array Value) (w : World), (Instr.makeFunc fn first cap).run Try.prog w = .ok (.func fn first cap) w := fun _ _ _ _ => rfl
  have c3 := h.c3
  clear h hd hs hF hw
  go_enter Try.func48, Try.ntmps48
  go_wp2_with (first
    | (go_at_call 65; refine k1.mono ?_; rintro e w1 ⟨v', rfl, H⟩; have k3 := k2 w1 v' H; clear k2)
    | (go_at_call 66; refine k3.mono ?_; rintro e w2 ⟨rfl, HA⟩))
  go_ret
  exact HA.out
end Go.Proofs.Ytcppgefnocjdiaa
