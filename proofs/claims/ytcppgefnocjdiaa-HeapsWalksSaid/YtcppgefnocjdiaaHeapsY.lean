/- All, as an iterator over what Save says. -/
import Derived.Test.YtcppgefnocjdiaaHeapsU
import Derived.Test.YtcppgefnocjdiaaHeapsRng
namespace Go.Proofs.Ytcppgefnocjdiaa
open Go.RowKit Go.Lib Go.Sort Go.Shelf
set_option linter.unusedVariables false
attribute [local go_sem] Oper.semAt_some

abbrev encY (x : HItem) : Array Value := #[.int .i64 x.1, .int .i64 x.2]
theorem grow_bel {w W : World} (h : Go.RowKit.Below w.heap.size w W) : w.grownBy W none := ⟨h.os, h.tape, h.output, h.size, fun k hk _ => h.block k hk⟩
/-- What Save says of a queue. -/
def SaveC (q : Value) (nx : Int) (L : List HItem) (W : World) : Prop :=
  Calls Try.prog 17 #[q] W fun e w' => ∃ v, e = .returned (.agg #[.int .i64 nx, v]) ∧ Hid (OH w' W.heap.size v L ∧ Go.RowKit.Below W.heap.size W w')
set_option maxRecDepth 100000 in
theorem save_no (q : Value) (W : World) (h : NoQ W q) : SaveC q 0 [] W := by
  have hq : NoQ (W.alloc (.cells #[.int .i64 0, .slice none 0 0] 24)) q := by
    rcases h with h | ⟨b, h1, h2⟩
    · exact .inl h
    · exact .inr ⟨b, h1, Lib.cell?_alloc_some _ h2⟩
  have k1 := made_no q _ hq
  clear hq h
  unfold SaveC
  go_enter Try.func17, Try.ntmps17
  go_wp2_with (first | (go_at_call 47; refine k1.mono ?_; rintro e w' ⟨rfl, hw⟩; subst hw))
  refine bodyPost_ret (v := .agg #[.int .i64 0, .slice none 0 0]) (by simp [results, Try.results17, go_sem]) rfl ?_
  exact ⟨_, rfl, Lib.hid ⟨OH.nil _ _, (Go.RowKit.Below.refl _ W).alloc (Nat.le_refl _) _⟩⟩
theorem all_any (q : Option Addr) (W : World) : Calls Try.prog 34 #[.pointer q] W fun e w' => e = .returned (.func (.func 58) #[] #[.pointer (some ⟨W.heap.size, 0, none⟩)]) ∧ w' = W.alloc (.cells #[.pointer q] 27) := by
  have hmf : ∀ (fn : Fn) (first cap : Array Value) (w : World), (Instr.makeFunc fn first cap).run Try.prog w = .ok (.func fn first cap) w := fun _ _ _ _ => rfl
  go_enter Try.func34, Try.ntmps34
  go_wp2_with fail
  go_ret
  exact ⟨rfl, rfl⟩
/-- The iterator's blocks: Save's values. -/
structure YR (J : Nat → List HItem → World → Prop) (lo hi : Nat) (v : Value) (L : List HItem) (k : Nat) (wr : World) : Prop where
  j : J hi (L.take k) wr
  row : OH wr lo v L
  top : ∀ g, v.ownBlock = some g → g < hi
  le : hi ≤ wr.heap.size
theorem YR.up {J : Nat → List HItem → World → Prop} {lo hi : Nat} {v : Value} {L : List HItem} {k : Nat} {wr w' : World} (h : YR J lo hi v L k wr) (hJ : ∀ hi, StayUp (J hi)) (hb : Go.RowKit.Below wr.heap.size wr w') : YR J lo hi v L k w' :=
  ⟨hJ hi _ _ _ h.j (grow_bel hb), h.row.same fun g hg => hb.block g (h.row.lt g hg).2, h.top, Nat.le_trans h.le hb.size⟩
set_option maxRecDepth 100000 in
set_option maxHeartbeats 2000000 in
theorem all_seq (n b n₀ : Nat) (q : Option Addr) (nx : Int) (L : List HItem) (w : World) (hq : w.cell? ⟨b, 0, none⟩ = some (.pointer q)) (hL : L.length ≤ 100000) (hS : ∀ W, Go.RowKit.Below w.heap.size w W → SaveC (.pointer q) nx L W) :
    SeqRng Fence.wide n Try.prog 58 #[.pointer (some ⟨b, 0, none⟩)] encY n₀ (fun xs => xs = L) (fun pre => pre <+: L) L.length w := by
  intro l J Jx W hW hJ hJx hY h0
  have hb : b < w.heap.size := World.block_lt_of_cell? w _ hq
  have hcW : W.cell? ⟨b, 0, none⟩ = some (.pointer q) := (World.cell?_of_block (a := ⟨b, 0, none⟩) (hW.block b hb)).trans hq
  have ks : Calls Try.prog 17 #[.pointer q] W fun e w' => ∃ v, e = .returned (.agg #[.int .i64 nx, v]) ∧ Hid (YR J W.heap.size w'.heap.size v L 0 w') ∧ W.heap.size ≤ w'.heap.size := (hS W hW).mono fun e w' ⟨v, he, H⟩ => ⟨v, he, Lib.hid ⟨hJ _ _ _ _ (h0 _) (grow_bel H.out.2), H.out.1, fun g hg => (H.out.1.lt g hg).2, Nat.le_refl _⟩, H.out.2.size⟩
  have HJ := Lib.hid hJ; have HY := Lib.hid hY
  have hfd : ∀ (x : Int) (A : Option Addr) (m c : Nat) (w : World), (Instr.field 24 (.agg #[.int .i64 x, .slice A m c]) 1).run Try.prog w = .ok (.slice A m c) w := fun _ _ _ _ _ => by kernel_rfl
  obtain ⟨N, hN⟩ : ∃ N, L.length = N := ⟨_, rfl⟩
  have HN := Lib.hid hN
  clear hJ hJx hY h0 hS hq
  refine callsIn_of_wp Try.func58 rfl trivial ?_ rfl
  simp only [Try.ntmps58, List.size_toArray, List.length_cons, List.length_nil, Nat.reduceAdd, Nat.reduceSub, Array.replicate_succ, Array.replicate_zero, List.push_toArray, List.append_toArray, List.nil_append, List.cons_append]
  gi_wp2_with (refine ⟨trivial, (fun h => by cases h), ?_⟩; gi_at_call 17; refine (callsIn_wide.2 ks).mono ?_; rintro e w1 ⟨v, rfl, H, hsz⟩; obtain ⟨A, c, hv⟩ := H.out.row.len; rw [HN.out] at hv; subst hv)
  have hN100 : N ≤ 100000 := by omega
  obtain ⟨hi, hhi⟩ : ∃ hi, w1.heap.size = hi := ⟨_, rfl⟩
  rw [hhi] at H
  have hlo : W.heap.size ≤ hi := by
    rw [← hhi]; exact hsz
  clear ks hhi
  gi_loopw [9] (fun v9 wr => ∃ k : Nat, v9 = .int .i64 k ∧ k ≤ N ∧ Hid (YR J W.heap.size hi (.slice A N c) L k wr)) (fun v9 _ => N - (intOf v9).toNat)
  case atStart => exact ⟨0, rfl, Nat.zero_le _, H⟩
  case round =>
    obtain ⟨k, rfl, hk, HR⟩ := hrel
    by_cases hlt : k < N
    · have hki : k < L.length := by rw [HN.out]; exact hlt
      have hx := List.getElem?_eq_getElem hki
      obtain ⟨g, c', hv, c0, c1, _⟩ := HR.out.row.item hx
      simp only [Value.slice.injEq] at hv
      obtain ⟨rfl, hv2, rfl⟩ := hv
      clear hv2
      obtain ⟨x, hxx⟩ : ∃ x, L[k] = x := ⟨_, rfl⟩
      rw [hxx] at c0 c1
      have ht : L.take k ++ [x] = L.take (k + 1) := by rw [List.take_succ_eq_append_getElem hki, hxx]
      have HT := Lib.hid ht
      have HY1 : Hid (YR J W.heap.size hi (.slice (some ⟨g, 0, none⟩) N c) L k (wr.alloc (.cells #[.int .i64 x.1, .int .i64 x.2] 64))) := Lib.hid (HR.out.up HJ.out ((Go.RowKit.Below.refl _ wr).alloc (Nat.le_refl _) _))
      obtain ⟨fn, tmps, assign, body, hy, hR⟩ := HY.out hi (L.take k) x (wr.alloc (.cells #[.int .i64 x.1, .int .i64 x.2] 64)) HY1.out.j (by rw [List.length_take]; omega) hlo HY1.out.le
      obtain ⟨xh, xv⟩ := x
      unfold encY at hy
      simp only at hy c0 c1 hR
      have i1 : (k : Int) < (N : Int) := by omega
      have i2 : IntKind.i64.wrap ((k : Int) + 1) = (k : Int) + 1 := IntWalk.i64_in _ (by omega)
      have HRD := Lib.hid hR
      clear hx hxx ht hR
      gi_wp2
      refine ⟨(fun h => by cases h), HRD.out.mono ?_⟩
      rintro e W3 (⟨rfl, hJ3, hk3, hs3⟩ | ⟨rfl, hJx3⟩)
      · have HN1 : Hid (YR J W.heap.size hi (.slice (some ⟨g, 0, none⟩) N c) L (k + 1) W3) := Lib.hid ⟨by rw [← HT.out]; exact hJ3, HY1.out.row.same fun j hj => hk3.2 j (HY1.out.row.lt j hj).1 (HY1.out.top j hj), HY1.out.top, Nat.le_trans HY1.out.le hs3⟩
        clear hJ3 hk3 hs3 hy HRD c0 c1
        gi_wp2
        go_roundw
        case rel => exact ⟨k + 1, by go_num, by omega, HN1⟩
        case measure => simp [intOf]; omega
      · have HX := Lib.hid hJx3
        clear hJx3 hy HRD c0 c1
        gi_wp2
        refine bodyPost_ret (results_none rfl _ _ _) rfl ?_
        exact ⟨⟨_, rfl⟩, .inr ⟨hi, _, by rw [HT.out]; exact List.take_prefix _ _, HX.out⟩⟩
    · obtain rfl : k = N := by omega
      gi_wp2
      refine bodyPost_end (results_none rfl _ _ _) rfl ?_
      refine ⟨⟨_, rfl⟩, .inl ⟨hi, L, rfl, ?_⟩⟩
      have := HR.out.j
      rw [List.take_of_length_le (by rw [HN.out]; exact Nat.le_refl _)] at this
      exact this
end Go.Proofs.Ytcppgefnocjdiaa
