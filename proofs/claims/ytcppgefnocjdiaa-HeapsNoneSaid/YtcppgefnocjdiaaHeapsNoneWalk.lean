/- HeapsNone: the walk. -/
import Derived.Test.YtcppgefnocjdiaaHeapsZ
namespace Go.Proofs.Ytcppgefnocjdiaa
open Go.RowKit Go.Lib Go.Sort Go.Shelf
set_option linter.unusedVariables false

theorem NoQ.later {W W' : World} {q : Value} (h : NoQ W q) (hb : Go.RowKit.Below W.heap.size W W') : NoQ W' q := by
  rcases h with h | ⟨b, h1, h2⟩
  · exact .inl h
  · exact .inr ⟨b, h1, (World.cell?_of_block (a := ⟨b, 0, none⟩) (hb.block b (World.block_lt_of_cell? W _ h2))).trans h2⟩
set_option maxRecDepth 100000 in
theorem load_nil (s : Value) (n : Int) (A : Option Addr) (m c : Nat) (hs : s = .agg #[.int .i64 n, .slice A m c]) (W : World) : Calls Try.prog 14 #[.nilFunc, s] W fun e w' => e = .returned (.tuple #[.pointer none, .int .i64 1]) ∧ Go.RowKit.Below W.heap.size W w' := by
  subst hs
  have e1 := fun_none
  go_enter Try.func14, Try.ntmps14
  go_wp2_with fail
  refine bodyPost_ret (v := .tuple #[.pointer none, .int .i64 1]) (by simp [results, Try.results14, go_sem]) rfl ?_
  exact ⟨rfl, (Go.RowKit.Below.refl _ W).alloc (Nat.le_refl _) _⟩
/-- Two queues that are none. -/
structure NoR (w : World) (lb : Nat) (q0 q1 : Option Addr) (wr : World) : Prop where
  bel : Go.RowKit.Below w.heap.size w wr
  c0 : wr.cell? ⟨lb, 0, none⟩ = some (.pointer q0)
  c1 : wr.cell? ⟨lb, 1, none⟩ = some (.pointer q1)
  n0 : NoQ wr (.pointer q0)
  n1 : NoQ wr (.pointer q1)
  lo : w.heap.size ≤ wr.heap.size
theorem NoR.later {w wr w' : World} {lb : Nat} {q0 q1 : Option Addr} (h : NoR w lb q0 q1 wr) (hb : Go.RowKit.Below wr.heap.size wr w') : NoR w lb q0 q1 w' :=
  ⟨h.bel.trans (hb.mono h.lo), (World.cell?_of_block (a := ⟨lb, 0, none⟩) (hb.block lb (World.block_lt_of_cell? wr _ h.c0))).trans h.c0, (World.cell?_of_block (a := ⟨lb, 1, none⟩) (hb.block lb (World.block_lt_of_cell? wr _ h.c0))).trans h.c1, h.n0.later hb, h.n1.later hb, Nat.le_trans h.lo hb.size⟩
theorem NoR.get {w wr : World} {lb : Nat} {q0 q1 : Option Addr} (h : NoR w lb q0 q1 wr) {i : Nat} (hi : i < 2) : wr.cell? ⟨lb, i, none⟩ = some (.pointer (if i = 0 then q0 else q1)) ∧ NoQ wr (.pointer (if i = 0 then q0 else q1)) := by
  rcases (by omega : i = 0 ∨ i = 1) with rfl | rfl
  · exact ⟨h.c0, h.n0⟩
  · exact ⟨h.c1, h.n1⟩
set_option maxRecDepth 100000 in
set_option maxHeartbeats 4000000 in
theorem none_any (h v : Int) (W : World) :
    Calls Try.prog 4 #[.int .i64 h, .int .i64 v] W fun e w' => e = .returned (.bool true) ∧ Go.RowKit.Below W.heap.size W w' := by
  go_enter Try.func4, Try.ntmps4
  go_wp2_with fail
  have HS : Hid (NoR W (W.heap.size + 1) none (some ⟨W.heap.size, 0, none⟩) ((W.alloc (.cells #[.pointer none, .int .i64 0, .nilFunc, .slice none 0 0, .map none] 47)).alloc (.cells #[.pointer none, .pointer (some ⟨W.heap.size, 0, none⟩)] 48))) := Lib.hid (by
    have hg : W.heap.size + 1 = (W.alloc (.cells #[.pointer none, .int .i64 0, .nilFunc, .slice none 0 0, .map none] 47)).heap.size := by simp
    obtain ⟨b0, b1⟩ := box2 (W.alloc (.cells #[.pointer none, .int .i64 0, .nilFunc, .slice none 0 0, .map none] 47)) (.pointer none) (.pointer (some ⟨W.heap.size, 0, none⟩)) 48 _ hg
    exact ⟨((Go.RowKit.Below.refl _ W).alloc (Nat.le_refl _) _).alloc (by simp) _, b0, b1, .inl rfl, .inr ⟨_, rfl, Lib.cell?_alloc_some _ (row_new W #[.pointer none, .int .i64 0, .nilFunc, .slice none 0 0, .map none] _ _ 0 rfl).1⟩, by simp; omega⟩)
  generalize (W.alloc (.cells #[.pointer none, .int .i64 0, .nilFunc, .slice none 0 0, .map none] 47)).alloc (.cells #[.pointer none, .pointer (some ⟨W.heap.size, 0, none⟩)] 48) = w1 at HS ⊢
  generalize W.heap.size + 1 = lb at HS ⊢
  generalize hzb : (some ⟨W.heap.size, 0, none⟩ : Option Addr) = zb at HS ⊢
  clear hzb
  go_loopw [7] (fun vi wr => ∃ i : Nat, vi = .int .i64 i ∧ i ≤ 2 ∧ Hid (NoR W lb none zb wr)) (fun vi _ => 2 - (intOf vi).toNat)
  case atStart => exact ⟨0, rfl, by omega, HS⟩
  case round =>
    obtain ⟨i, rfl, hi, HR⟩ := hrel
    by_cases hlt : i < 2
    · obtain ⟨c0, hn⟩ := HR.out.get hlt
      generalize (if i = 0 then none else zb) = q at c0 hn
      have HQ : Hid (∀ W', Go.RowKit.Below wr.heap.size wr W' → W'.cell? ⟨lb, i, none⟩ = some (.pointer q) ∧ Hid (NoR W lb none zb W') ∧ NoQ W' (.pointer q)) := Lib.hid fun W' hb =>
        ⟨(World.cell?_of_block (a := ⟨lb, i, none⟩) (hb.block lb (World.block_lt_of_cell? wr _ c0))).trans c0, Lib.hid (HR.out.later hb), hn.later hb⟩
      have k1 := push_no (.pointer q) v wr hn
      have k2 := pop_no (.pointer q) wr hn
      have k3 := peek_no (.pointer q) wr hn
      have k4 := get_no (.pointer q) h wr hn
      have k5 := remove_no (.pointer q) h wr hn
      have k6 := set_no (.pointer q) h v wr hn
      have k7 := len_no (.pointer q) wr hn
      have k8 := walked_any q 0 [] wr (by simp) (fun W' hb => save_no _ W' (hn.later hb))
      have i1 : (i : Int) < 2 := by omega
      have i2 : IntKind.i64.wrap ((i : Int) + 1) = (i : Int) + 1 := IntWalk.i64_in _ (by omega)
      have hfd : ∀ (x : Int) (A : Option Addr) (m c : Nat) (w : World), (Instr.field 24 (.agg #[.int .i64 x, .slice A m c]) 1).run Try.prog w = .ok (.slice A m c) w := fun _ _ _ _ _ => by kernel_rfl
      clear hn
      go_wp2_with (first
        | (go_at_call 20; refine k1.mono ?_; rintro e w' ⟨rfl, hw⟩; subst hw; clear k1)
        | (go_at_call 21; refine k2.mono ?_; rintro e w' ⟨rfl, hw⟩; subst hw; clear k2)
        | (go_at_call 22; refine k3.mono ?_; rintro e w' ⟨rfl, hw⟩; subst hw; clear k3)
        | (go_at_call 23; refine k4.mono ?_; rintro e w' ⟨rfl, hw⟩; subst hw; clear k4)
        | (go_at_call 24; refine k5.mono ?_; rintro e w' ⟨rfl, hw⟩; subst hw; clear k5)
        | (go_at_call 25; refine k6.mono ?_; rintro e w' ⟨rfl, hw⟩; subst hw; clear k6)
        | (go_at_call 26; refine k7.mono ?_; rintro e w' ⟨rfl, hw⟩; subst hw; clear k7)
        | (go_at_call 19; refine k8.mono ?_; rintro e w2 ⟨vv, rfl, hO, hb2⟩; clear k8; obtain ⟨A2, c2, hv2⟩ := hO.len; subst hv2; obtain ⟨c5, H2, hn2⟩ := HQ.out w2 hb2; have k9 := save_no _ w2 hn2; unfold SaveC at k9; clear hO hb2 hn2)
        | (go_at_call 17; refine k9.mono ?_; rintro e w3 ⟨vs, rfl, HSv⟩; clear k9; obtain ⟨A3, c3, hv3⟩ := HSv.out.1.len; subst hv3))
      go_roundw
      case rel => exact ⟨i + 1, by go_num, by omega, Lib.hid (H2.out.later HSv.out.2)⟩
      case measure => simp [intOf]; omega
    · obtain rfl : i = 2 := by omega
      have HB := Lib.hid HR.out.bel
      have hlo := HR.out.lo
      have k1 := load_nil (.agg #[.int .i64 1, .slice none 0 0]) 1 none 0 0 rfl
      have k2 := new_none
      go_wp2_with (first
        | (go_at_call 14; refine (k1 _).mono ?_; rintro e w2 ⟨rfl, hb⟩; have HB2 := Lib.hid (HB.out.trans (hb.mono hlo)); have hlo2 : W.heap.size ≤ w2.heap.size := Nat.le_trans hlo hb.size; clear hb)
        | (go_at_call 11; refine (k2 _).mono ?_; rintro e w3 ⟨rfl, hw⟩; subst hw)
        | (go_at_call 10; refine (awake_any _).mono ?_; rintro e w4 ⟨rfl, hb4⟩))
      go_ret
      exact ⟨rfl, HB2.out.trans (hb4.mono hlo2)⟩
end Go.Proofs.Ytcppgefnocjdiaa
