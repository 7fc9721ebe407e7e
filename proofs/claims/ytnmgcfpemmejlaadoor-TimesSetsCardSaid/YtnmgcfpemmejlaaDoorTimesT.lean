/- The reference's ends: the walk. -/
import Derived.Test.YtnmgcfpemmejlaaDoorTimesS
import Derived.BigQuiet
import Derived.Deep.QuietTactic
import Derived.Deep.DeepCutAuto
import Derived.Deep.RegionHeld3
namespace Go.Proofs.YtnmgcfpemmejlaaDoor
open Go.RowKit Go.Lib
set_option linter.unusedVariables false

theorem endsOf_snoc {l : List Span} {k : Nat} {s : Span} (h : l[k]? = some s) : endsOf (l.take (k + 1)) = endsOf (l.take k) ++ [s.1] ++ [s.2] := by
  rw [take_snocS h]; simp [endsOf]
theorem endsOf_len (l : List Span) : (endsOf l).length = 2 * l.length := by
  induction l with
  | nil => rfl
  | cons s l ih => simp only [endsOf, List.flatMap_cons, List.length_append, List.length_cons, List.length_nil] at ih ⊢; omega
/-- A number that was just laid. -/
structure FX (W : World) (g : Nat) (x : Int) : Prop where
  lt : g < W.heap.size
  cell : W.cell? ⟨g, 0, none⟩ = some (.int .i64 x)
theorem FX.made (W : World) (x : Int) (T : TypeId) : FX (W.alloc (.cells #[.int .i64 x] T)) W.heap.size x := ⟨by simp, new_cell _ _ _ _ _ rfl⟩
theorem FX.later {W W' : World} {g : Nat} {x : Int} (h : FX W g x) (hb : Below W.heap.size W W') : FX W' g x := ⟨Nat.lt_of_lt_of_le h.lt hb.size, (hb.cell (p := ⟨g, 0, none⟩) h.lt).trans h.cell⟩
theorem FX.grown {W W' : World} {g : Nat} {x : Int} {row : Option Nat} (h : FX W g x) (hg : W.grownBy W' row) (hne : row ≠ some g) : FX W' g x := ⟨Nat.lt_of_lt_of_le h.lt hg.size, (grown_cell hg 0 h.lt hne).trans h.cell⟩
theorem FX.ri {W : World} {g : Nat} {x : Int} (h : FX W g x) : RI W (.slice (some ⟨g, 0, none⟩) 1 1) [x] :=
  .inr ⟨g, 0, 1, rfl, h.lt, by simp, by simp, by unfold maxLen; omega, fun i hi => by simp at hi; subst hi; exact h.cell⟩
def EndsR (w : World) (a b : List Span) (e : Ending) (w' : World) : Prop := ∃ v, e = .returned v ∧ OI w' w.heap.size v (ascOf (endsOf a ++ endsOf b)) ∧ Below w.heap.size w w'
set_option maxRecDepth 100000 in
set_option maxHeartbeats 8000000 in
theorem ends_any (v1 v2 : Value) (a b : List Span) (w : World) (hv1 : RS w v1 a) (hv2 : RS w v2 b) (hla : a.length ≤ 1000) (hlb : b.length ≤ 1000) :
    Calls Tryd.prog 55 #[v1, v2] w (EndsR w a b) := by
  obtain ⟨A1, c1', rfl⟩ := hv1.len
  obtain ⟨n1, hn1⟩ : ∃ n0, a.length = n0 := ⟨_, rfl⟩
  rw [hn1] at hv1 hla ⊢
  obtain ⟨A2, c2', rfl⟩ := hv2.len
  obtain ⟨n2, hn2⟩ : ∃ n0, b.length = n0 := ⟨_, rfl⟩
  rw [hn2] at hv2 hlb ⊢
  have HV1 := Lib.hid hv1; have HV2 := Lib.hid hv2; have HN1 := Lib.hid hn1; have HN2 := Lib.hid hn2
  clear hv1 hv2 hn1 hn2
  go_enter Tryd.func55, Tryd.ntmps55
  go_wp2_with fail
  go_loopw [5, 6] (fun u i wr => ∃ (k : Nat), k ≤ n1 ∧ i = .int .i64 k ∧ Hid (EA w wr w.heap.size u (endsOf (a.take k)))) (fun _ i _ => n1 - (intOf i).toNat)
  case atStart => exact ⟨0, by omega, rfl, Lib.hid ⟨OI.nil _ _, Below.refl _ _⟩⟩
  case round =>
    obtain ⟨k, hk, rfl, HE⟩ := hrel
    obtain ⟨A, c, rfl⟩ := HE.out.own.ri.len
    obtain ⟨m, hm⟩ : ∃ m, (endsOf (a.take k)).length = m := ⟨_, rfl⟩
    have hm5 : m ≤ 2 * k := by rw [← hm, endsOf_len, List.length_take]; omega
    have HM := Lib.hid hm
    rw [hm] at HE ⊢
    clear hm
    by_cases hlt : k < n1
    · obtain ⟨s, hs⟩ := getS HN1.out hlt
      obtain ⟨g, off, rfl, hgl, c0, c1⟩ := HV1.out.at hs
      obtain ⟨x, y⟩ := s
      have HS := Lib.hid (endsOf_snoc hs)
      clear hs
      simp only at c0 c1
      have C0 := Lib.hid c0; have C1 := Lib.hid c1
      clear c0 c1
      have j1 : (k : Int) < (n1 : Int) := by omega
      have j0 : (0 : Int) ≤ (k : Int) := by omega
      go_wp2_with fail
      have HS0 : Hid (Below w.heap.size w wr.drew) := Lib.hid (HE.out.bel.trans ((bl_drew (Below.refl _ _)).mono HE.out.bel.size))
      have HE0 : Hid (EA w wr.drew w.heap.size (.slice A m c) (endsOf (a.take k))) := Lib.hid (HE.out.step HE.out.bel.size (bl_drew (Below.refl _ _)))
      have HLEN : Hid ((endsOf (a.take k)).length ≤ 10000) := Lib.hid (by have := HM.out; omega)
      refine wp_region_held_drew (S := fun W => Below w.heap.size w W) (by kernel_rfl) HS0.out (fun hHeld => ?_)
      generalize wr.drew = W0 at HS0 HE0 hHeld ⊢
      refine wpAnyH_take (i := 0) (oi := { dst := some 18, op := _, type := _, pos := _, after := _, guard := _ }) (v := ?v18x1) rfl (by kernel_rfl) (by kernel_rfl) (by kernel_rfl) (fun _ _ _ h => h) (Or.inl ⟨by rfl, ?y18x1⟩) hHeld ?r18x1
      case y18x1 => intro w9 hSw; go_simp <;> with_reducible rfl
      (try simp only [Act.put, List.setIfInBounds_toArray, List.set_cons_zero, List.set_cons_succ])
      refine wpAnyH_take (i := 1) (oi := { dst := some 19, op := _, type := _, pos := _, after := _, guard := _ }) (v := ?v19x2) rfl (by kernel_rfl) (by kernel_rfl) (by kernel_rfl) (fun _ _ _ h => h) (Or.inl ⟨by rfl, ?y19x2⟩) hHeld ?r19x2
      case y19x2 => intro w9 hSw; go_simp <;> with_reducible rfl
      (try simp only [Act.put, List.setIfInBounds_toArray, List.set_cons_zero, List.set_cons_succ])
      refine wpAnyH_take (i := 2) (oi := { dst := some 20, op := _, type := _, pos := _, after := _, guard := _ }) (v := ?v20x3) rfl (by kernel_rfl) (by kernel_rfl) (by kernel_rfl) (fun _ _ _ h => h) (Or.inl ⟨by rfl, ?y20x3⟩) hHeld ?r20x3
      case y20x3 => intro w9 hSw; go_simp <;> with_reducible rfl
      (try simp only [Act.put, List.setIfInBounds_toArray, List.set_cons_zero, List.set_cons_succ])
      refine wpAnyH_take (i := 3) (oi := { dst := some 21, op := _, type := _, pos := _, after := _, guard := _ }) (v := ?v21x4) rfl (by kernel_rfl) (by kernel_rfl) (by kernel_rfl) (fun _ _ _ h => h) (Or.inl ⟨by rfl, ?y21x4⟩) hHeld ?r21x4
      case y21x4 => intro w9 hSw; go_simp <;> with_reducible rfl
      (try simp only [Act.put, List.setIfInBounds_toArray, List.set_cons_zero, List.set_cons_succ])
      refine wpAnyH_take (i := 4) (oi := { dst := some 22, op := _, type := _, pos := _, after := _, guard := _ }) (v := ?v22x5) rfl (by kernel_rfl) (by kernel_rfl) (by kernel_rfl) (fun _ _ _ h => h) (Or.inl ⟨by rfl, ?y22x5⟩) hHeld ?r22x5
      case y22x5 => intro w9 hSw; go_simp <;> with_reducible rfl
      (try simp only [Act.put, List.setIfInBounds_toArray, List.set_cons_zero, List.set_cons_succ])
      refine wpAnyH_take (i := 5) (oi := { dst := some 23, op := _, type := _, pos := _, after := _, guard := _ }) (v := ?v23x6) rfl (by kernel_rfl) (by kernel_rfl) (by kernel_rfl) (fun _ _ _ h => h) (Or.inl ⟨by rfl, ?y23x6⟩) hHeld ?r23x6
      case y23x6 => intro w9 hSw; have c0' := (hSw.cell (p := ⟨g, _, none⟩) hgl).trans C0.out; have c1' := (hSw.cell (p := ⟨g, _, none⟩) hgl).trans C1.out; go_simp <;> with_reducible rfl
      (try simp only [Act.put, List.setIfInBounds_toArray, List.set_cons_zero, List.set_cons_succ])
      refine wpAnyH_take (i := 8) (oi := { dst := some 26, op := _, type := _, pos := _, after := _, guard := _ }) (v := ?v26x7) rfl (by kernel_rfl) (by kernel_rfl) (by kernel_rfl) (fun _ _ _ h => h) (Or.inl ⟨by rfl, ?y26x7⟩) hHeld ?r26x7
      case y26x7 => intro w9 hSw; go_simp <;> with_reducible rfl
      (try simp only [Act.put, List.setIfInBounds_toArray, List.set_cons_zero, List.set_cons_succ])
      refine wpAnyH_take (i := 9) (oi := { dst := some 27, op := _, type := _, pos := _, after := _, guard := _ }) (v := ?v27x8) rfl (by kernel_rfl) (by kernel_rfl) (by kernel_rfl) (fun _ _ _ h => h) (Or.inl ⟨by rfl, ?y27x8⟩) hHeld ?r27x8
      case y27x8 => intro w9 hSw; go_simp <;> with_reducible rfl
      (try simp only [Act.put, List.setIfInBounds_toArray, List.set_cons_zero, List.set_cons_succ])
      refine wpAnyH_take (i := 10) (oi := { dst := some 28, op := _, type := _, pos := _, after := _, guard := _ }) (v := ?v28x9) rfl (by kernel_rfl) (by kernel_rfl) (by kernel_rfl) (fun _ _ _ h => h) (Or.inl ⟨by rfl, ?y28x9⟩) hHeld ?r28x9
      case y28x9 => intro w9 hSw; go_simp <;> with_reducible rfl
      (try simp only [Act.put, List.setIfInBounds_toArray, List.set_cons_zero, List.set_cons_succ])
      refine wpAnyH_take (i := 11) (oi := { dst := some 29, op := _, type := _, pos := _, after := _, guard := _ }) (v := ?v29x10) rfl (by kernel_rfl) (by kernel_rfl) (by kernel_rfl) (fun _ _ _ h => h) (Or.inl ⟨by rfl, ?y29x10⟩) hHeld ?r29x10
      case y29x10 => intro w9 hSw; go_simp <;> with_reducible rfl
      (try simp only [Act.put, List.setIfInBounds_toArray, List.set_cons_zero, List.set_cons_succ])
      refine wpAnyH_take (i := 12) (oi := { dst := some 30, op := _, type := _, pos := _, after := _, guard := _ }) (v := ?v30x11) rfl (by kernel_rfl) (by kernel_rfl) (by kernel_rfl) (fun _ _ _ h => h) (Or.inl ⟨by rfl, ?y30x11⟩) hHeld ?r30x11
      case y30x11 => intro w9 hSw; have c0' := (hSw.cell (p := ⟨g, _, none⟩) hgl).trans C0.out; have c1' := (hSw.cell (p := ⟨g, _, none⟩) hgl).trans C1.out; go_simp <;> with_reducible rfl
      (try simp only [Act.put, List.setIfInBounds_toArray, List.set_cons_zero, List.set_cons_succ])
      refine wpAnyH_ready (rs := [6, 13]) (by kernel_rfl) (by simp) (AllReadyH.cons (o := { dst := some 24, op := _, type := _, pos := _, after := _, guard := _ }) rfl (fun K hK => ?gAp0) (AllReadyH.cons (o := { dst := some 31, op := _, type := _, pos := _, after := _, guard := _ }) rfl (fun K hK => ?gBp0) AllReadyH.nil))
      case gAp0 =>
        rw [if_pos (by rfl)]
        go_simp
        refine hK.out _ _ (HE0.out.step HE0.out.bel.size (bl_alloc _ (Below.refl _ _))).bel (fun hHeld => ?_)
        clear hK K
        (try simp only [Act.put, List.setIfInBounds_toArray, List.set_cons_zero, List.set_cons_succ])
        have E1 : Hid (EA w (W0.alloc (.cells #[.int .i64 x] 2)) w.heap.size (Value.slice A m c) (endsOf (a.take k))) := Lib.hid (HE0.out.step HE0.out.bel.size (bl_alloc _ (Below.refl _ _)))
        have X1 : Hid (FX (W0.alloc (.cells #[.int .i64 x] 2)) W0.heap.size x) := Lib.hid (FX.made _ _ _)
        obtain ⟨gW1, hgW1⟩ : ∃ g, W0.heap.size = g := ⟨_, rfl⟩
        have NEW1 : Hid ((Value.slice A m c).ownBlock ≠ some gW1) := Lib.hid (fun e => by have := (HE0.out.own.lt _ e).2; omega)
        rw [hgW1] at X1 ⊢
        obtain ⟨W1, hWW1⟩ : ∃ W, W0.alloc (.cells #[.int .i64 x] 2) = W := ⟨_, rfl⟩
        rw [hWW1] at E1 X1  hHeld ⊢
        clear hWW1 hgW1
        refine wpAnyH_ready (rs := [7, 13]) (by kernel_rfl) (by simp) (AllReadyH.cons (o := { dst := some 25, op := _, type := _, pos := _, after := _, guard := _ }) rfl (fun K hK => ?gAp1) (AllReadyH.cons (o := { dst := some 31, op := _, type := _, pos := _, after := _, guard := _ }) rfl (fun K hK => ?gBp1) AllReadyH.nil))
        case gAp1 =>
          rw [if_pos (by rfl)]
          refine wp_append_ri (.tmp 18) (.tmp 24) rfl w.heap.size (Value.slice A m c) _ (endsOf (a.take k)) [x] rfl E1.out.own rfl X1.out.ri E1.out.bel.size (by have := HLEN.out; simp at this ⊢; omega) ?_
          intro v2 W2 hn hg
          have E2 : Hid (EA w W2 w.heap.size v2 ((endsOf (a.take k)) ++ [x])) := Lib.hid (E1.out.app E1.out.bel.size hn hg)
          refine hK.out _ _ E2.out.bel (fun hHeld => ?_)
          clear hn hg
          clear hK K
          (try simp only [Act.put, List.setIfInBounds_toArray, List.set_cons_zero, List.set_cons_succ])
          refine wpAnyH_ready (rs := [13]) (by kernel_rfl) (by simp) (AllReadyH.cons (o := { dst := some 31, op := _, type := _, pos := _, after := _, guard := _ }) rfl (fun K hK => ?_) AllReadyH.nil)
          rw [if_pos (by rfl)]
          go_simp
          refine hK.out _ _ (E2.out.step E2.out.bel.size (bl_alloc _ (Below.refl _ _))).bel (fun hHeld => ?_)
          clear hK K
          (try simp only [Act.put, List.setIfInBounds_toArray, List.set_cons_zero, List.set_cons_succ])
          have E3 : Hid (EA w (W2.alloc (.cells #[.int .i64 y] 2)) w.heap.size v2 ((endsOf (a.take k)) ++ [x])) := Lib.hid (E2.out.step E2.out.bel.size (bl_alloc _ (Below.refl _ _)))
          have Y3 : Hid (FX (W2.alloc (.cells #[.int .i64 y] 2)) W2.heap.size y) := Lib.hid (FX.made _ _ _)
          obtain ⟨gW3, hgW3⟩ : ∃ g, W2.heap.size = g := ⟨_, rfl⟩
          have NEW3 : Hid (v2.ownBlock ≠ some gW3) := Lib.hid (fun e => by have := (E2.out.own.lt _ e).2; omega)
          rw [hgW3] at Y3 ⊢
          obtain ⟨W3, hWW3⟩ : ∃ W, W2.alloc (.cells #[.int .i64 y] 2) = W := ⟨_, rfl⟩
          rw [hWW3] at E3 Y3  hHeld ⊢
          clear hWW3 hgW3
          refine wpAnyH_ready (rs := [14]) (by kernel_rfl) (by simp) (AllReadyH.cons (o := { dst := some 32, op := _, type := _, pos := _, after := _, guard := _ }) rfl (fun K hK => ?_) AllReadyH.nil)
          rw [if_pos (by rfl)]
          refine wp_append_ri (.tmp 25) (.tmp 31) rfl w.heap.size v2 _ ((endsOf (a.take k)) ++ [x]) [y] rfl E3.out.own rfl Y3.out.ri E3.out.bel.size (by have := HLEN.out; simp at this ⊢; omega) ?_
          intro v4 W4 hn hg
          have E4 : Hid (EA w W4 w.heap.size v4 (((endsOf (a.take k)) ++ [x]) ++ [y])) := Lib.hid (E3.out.app E3.out.bel.size hn hg)
          refine hK.out _ _ E4.out.bel (fun hHeld => ?_)
          clear hn hg
          clear hK K
          (try simp only [Act.put, List.setIfInBounds_toArray, List.set_cons_zero, List.set_cons_succ])
          refine wpAnyH_take (i := 15) (oi := { dst := some 5, op := _, type := _, pos := _, after := _, guard := _ }) (v := ?v5x12) rfl (by kernel_rfl) (by kernel_rfl) (by kernel_rfl) (fun _ _ _ h => h) (Or.inl ⟨by rfl, ?y5x12⟩) hHeld ?r5x12
          case y5x12 => intro w9 hSw; go_simp <;> with_reducible rfl
          (try simp only [Act.put, List.setIfInBounds_toArray, List.set_cons_zero, List.set_cons_succ])
          refine wpAnyH_done (by kernel_rfl) ?_ _
          go_wp2_with fail
          go_roundw
          case rel => exact ⟨k + 1, by omega, by go_num, Lib.hid (by rw [HS.out]; exact E4.out)⟩
          case measure => simp [intOf]; omega
        case gBp1 =>
          rw [if_pos (by rfl)]
          go_simp
          refine hK.out _ _ (E1.out.step E1.out.bel.size (bl_alloc _ (Below.refl _ _))).bel (fun hHeld => ?_)
          clear hK K
          (try simp only [Act.put, List.setIfInBounds_toArray, List.set_cons_zero, List.set_cons_succ])
          have E2 : Hid (EA w (W1.alloc (.cells #[.int .i64 y] 2)) w.heap.size (Value.slice A m c) (endsOf (a.take k))) := Lib.hid (E1.out.step E1.out.bel.size (bl_alloc _ (Below.refl _ _)))
          have Y2 : Hid (FX (W1.alloc (.cells #[.int .i64 y] 2)) W1.heap.size y) := Lib.hid (FX.made _ _ _)
          replace X1 := Lib.hid (X1.out.later (bl_alloc (.cells #[.int .i64 y] 2) (Below.refl _ _)))
          obtain ⟨gW2, hgW2⟩ : ∃ g, W1.heap.size = g := ⟨_, rfl⟩
          have NEW2 : Hid ((Value.slice A m c).ownBlock ≠ some gW2) := Lib.hid (fun e => by have := (E1.out.own.lt _ e).2; omega)
          rw [hgW2] at Y2 ⊢
          obtain ⟨W2, hWW2⟩ : ∃ W, W1.alloc (.cells #[.int .i64 y] 2) = W := ⟨_, rfl⟩
          rw [hWW2] at E2 Y2 X1 hHeld ⊢
          clear hWW2 hgW2
          refine wpAnyH_ready (rs := [7]) (by kernel_rfl) (by simp) (AllReadyH.cons (o := { dst := some 25, op := _, type := _, pos := _, after := _, guard := _ }) rfl (fun K hK => ?_) AllReadyH.nil)
          rw [if_pos (by rfl)]
          refine wp_append_ri (.tmp 18) (.tmp 24) rfl w.heap.size (Value.slice A m c) _ (endsOf (a.take k)) [x] rfl E2.out.own rfl X1.out.ri E2.out.bel.size (by have := HLEN.out; simp at this ⊢; omega) ?_
          intro v3 W3 hn hg
          have E3 : Hid (EA w W3 w.heap.size v3 ((endsOf (a.take k)) ++ [x])) := Lib.hid (E2.out.app E2.out.bel.size hn hg)
          replace Y2 := Lib.hid (Y2.out.grown hg NEW2.out)
          refine hK.out _ _ E3.out.bel (fun hHeld => ?_)
          clear hn hg
          clear hK K
          (try simp only [Act.put, List.setIfInBounds_toArray, List.set_cons_zero, List.set_cons_succ])
          refine wpAnyH_ready (rs := [14]) (by kernel_rfl) (by simp) (AllReadyH.cons (o := { dst := some 32, op := _, type := _, pos := _, after := _, guard := _ }) rfl (fun K hK => ?_) AllReadyH.nil)
          rw [if_pos (by rfl)]
          refine wp_append_ri (.tmp 25) (.tmp 31) rfl w.heap.size v3 _ ((endsOf (a.take k)) ++ [x]) [y] rfl E3.out.own rfl Y2.out.ri E3.out.bel.size (by have := HLEN.out; simp at this ⊢; omega) ?_
          intro v4 W4 hn hg
          have E4 : Hid (EA w W4 w.heap.size v4 (((endsOf (a.take k)) ++ [x]) ++ [y])) := Lib.hid (E3.out.app E3.out.bel.size hn hg)
          refine hK.out _ _ E4.out.bel (fun hHeld => ?_)
          clear hn hg
          clear hK K
          (try simp only [Act.put, List.setIfInBounds_toArray, List.set_cons_zero, List.set_cons_succ])
          refine wpAnyH_take (i := 15) (oi := { dst := some 5, op := _, type := _, pos := _, after := _, guard := _ }) (v := ?v5x13) rfl (by kernel_rfl) (by kernel_rfl) (by kernel_rfl) (fun _ _ _ h => h) (Or.inl ⟨by rfl, ?y5x13⟩) hHeld ?r5x13
          case y5x13 => intro w9 hSw; go_simp <;> with_reducible rfl
          (try simp only [Act.put, List.setIfInBounds_toArray, List.set_cons_zero, List.set_cons_succ])
          refine wpAnyH_done (by kernel_rfl) ?_ _
          go_wp2_with fail
          go_roundw
          case rel => exact ⟨k + 1, by omega, by go_num, Lib.hid (by rw [HS.out]; exact E4.out)⟩
          case measure => simp [intOf]; omega
      case gBp0 =>
        rw [if_pos (by rfl)]
        go_simp
        refine hK.out _ _ (HE0.out.step HE0.out.bel.size (bl_alloc _ (Below.refl _ _))).bel (fun hHeld => ?_)
        clear hK K
        (try simp only [Act.put, List.setIfInBounds_toArray, List.set_cons_zero, List.set_cons_succ])
        have E1 : Hid (EA w (W0.alloc (.cells #[.int .i64 y] 2)) w.heap.size (Value.slice A m c) (endsOf (a.take k))) := Lib.hid (HE0.out.step HE0.out.bel.size (bl_alloc _ (Below.refl _ _)))
        have Y1 : Hid (FX (W0.alloc (.cells #[.int .i64 y] 2)) W0.heap.size y) := Lib.hid (FX.made _ _ _)
        obtain ⟨gW1, hgW1⟩ : ∃ g, W0.heap.size = g := ⟨_, rfl⟩
        have NEW1 : Hid ((Value.slice A m c).ownBlock ≠ some gW1) := Lib.hid (fun e => by have := (HE0.out.own.lt _ e).2; omega)
        rw [hgW1] at Y1 ⊢
        obtain ⟨W1, hWW1⟩ : ∃ W, W0.alloc (.cells #[.int .i64 y] 2) = W := ⟨_, rfl⟩
        rw [hWW1] at E1 Y1  hHeld ⊢
        clear hWW1 hgW1
        refine wpAnyH_ready (rs := [6]) (by kernel_rfl) (by simp) (AllReadyH.cons (o := { dst := some 24, op := _, type := _, pos := _, after := _, guard := _ }) rfl (fun K hK => ?_) AllReadyH.nil)
        rw [if_pos (by rfl)]
        go_simp
        refine hK.out _ _ (E1.out.step E1.out.bel.size (bl_alloc _ (Below.refl _ _))).bel (fun hHeld => ?_)
        clear hK K
        (try simp only [Act.put, List.setIfInBounds_toArray, List.set_cons_zero, List.set_cons_succ])
        have E2 : Hid (EA w (W1.alloc (.cells #[.int .i64 x] 2)) w.heap.size (Value.slice A m c) (endsOf (a.take k))) := Lib.hid (E1.out.step E1.out.bel.size (bl_alloc _ (Below.refl _ _)))
        have X2 : Hid (FX (W1.alloc (.cells #[.int .i64 x] 2)) W1.heap.size x) := Lib.hid (FX.made _ _ _)
        replace Y1 := Lib.hid (Y1.out.later (bl_alloc (.cells #[.int .i64 x] 2) (Below.refl _ _)))
        obtain ⟨gW2, hgW2⟩ : ∃ g, W1.heap.size = g := ⟨_, rfl⟩
        have NEW2 : Hid ((Value.slice A m c).ownBlock ≠ some gW2) := Lib.hid (fun e => by have := (E1.out.own.lt _ e).2; omega)
        rw [hgW2] at X2 ⊢
        obtain ⟨W2, hWW2⟩ : ∃ W, W1.alloc (.cells #[.int .i64 x] 2) = W := ⟨_, rfl⟩
        rw [hWW2] at E2 X2 Y1 hHeld ⊢
        clear hWW2 hgW2
        refine wpAnyH_ready (rs := [7]) (by kernel_rfl) (by simp) (AllReadyH.cons (o := { dst := some 25, op := _, type := _, pos := _, after := _, guard := _ }) rfl (fun K hK => ?_) AllReadyH.nil)
        rw [if_pos (by rfl)]
        refine wp_append_ri (.tmp 18) (.tmp 24) rfl w.heap.size (Value.slice A m c) _ (endsOf (a.take k)) [x] rfl E2.out.own rfl X2.out.ri E2.out.bel.size (by have := HLEN.out; simp at this ⊢; omega) ?_
        intro v3 W3 hn hg
        have E3 : Hid (EA w W3 w.heap.size v3 ((endsOf (a.take k)) ++ [x])) := Lib.hid (E2.out.app E2.out.bel.size hn hg)
        replace Y1 := Lib.hid (Y1.out.grown hg NEW1.out)
        refine hK.out _ _ E3.out.bel (fun hHeld => ?_)
        clear hn hg
        clear hK K
        (try simp only [Act.put, List.setIfInBounds_toArray, List.set_cons_zero, List.set_cons_succ])
        refine wpAnyH_ready (rs := [14]) (by kernel_rfl) (by simp) (AllReadyH.cons (o := { dst := some 32, op := _, type := _, pos := _, after := _, guard := _ }) rfl (fun K hK => ?_) AllReadyH.nil)
        rw [if_pos (by rfl)]
        refine wp_append_ri (.tmp 25) (.tmp 31) rfl w.heap.size v3 _ ((endsOf (a.take k)) ++ [x]) [y] rfl E3.out.own rfl Y1.out.ri E3.out.bel.size (by have := HLEN.out; simp at this ⊢; omega) ?_
        intro v4 W4 hn hg
        have E4 : Hid (EA w W4 w.heap.size v4 (((endsOf (a.take k)) ++ [x]) ++ [y])) := Lib.hid (E3.out.app E3.out.bel.size hn hg)
        refine hK.out _ _ E4.out.bel (fun hHeld => ?_)
        clear hn hg
        clear hK K
        (try simp only [Act.put, List.setIfInBounds_toArray, List.set_cons_zero, List.set_cons_succ])
        refine wpAnyH_take (i := 15) (oi := { dst := some 5, op := _, type := _, pos := _, after := _, guard := _ }) (v := ?v5x14) rfl (by kernel_rfl) (by kernel_rfl) (by kernel_rfl) (fun _ _ _ h => h) (Or.inl ⟨by rfl, ?y5x14⟩) hHeld ?r5x14
        case y5x14 => intro w9 hSw; go_simp <;> with_reducible rfl
        (try simp only [Act.put, List.setIfInBounds_toArray, List.set_cons_zero, List.set_cons_succ])
        refine wpAnyH_done (by kernel_rfl) ?_ _
        go_wp2_with fail
        go_roundw
        case rel => exact ⟨k + 1, by omega, by go_num, Lib.hid (by rw [HS.out]; exact E4.out)⟩
        case measure => simp [intOf]; omega
    · have HE2 : Hid (EA w wr w.heap.size (Value.slice A m c) (endsOf a)) := Lib.hid (by have := HE.out; rwa [List.take_of_length_le (by rw [HN1.out]; omega)] at this)
      clear HE HM hm5
      go_wp2_with fail
      go_loopw [5, 7] (fun u i wr => ∃ (k : Nat), k ≤ n2 ∧ i = .int .i64 k ∧ Hid (EA w wr w.heap.size u (endsOf a ++ endsOf (b.take k)))) (fun _ i _ => n2 - (intOf i).toNat)
      case atStart => exact ⟨0, by omega, rfl, Lib.hid (by rw [show endsOf (b.take 0) = [] from rfl, List.append_nil]; exact HE2.out)⟩
      case round =>
        clear HE2 hlt hk
        obtain ⟨k, hk, rfl, HE⟩ := hrel
        obtain ⟨A, c, rfl⟩ := HE.out.own.ri.len
        obtain ⟨m, hm⟩ : ∃ m, (endsOf a ++ endsOf (b.take k)).length = m := ⟨_, rfl⟩
        have hm5 : m ≤ 4000 := by rw [← hm, List.length_append, endsOf_len, endsOf_len, List.length_take, HN1.out]; omega
        have HM := Lib.hid hm
        rw [hm] at HE ⊢
        clear hm
        by_cases hlt : k < n2
        · obtain ⟨s, hs⟩ := getS HN2.out hlt
          obtain ⟨g, off, rfl, hgl, c0, c1⟩ := HV2.out.at hs
          obtain ⟨x, y⟩ := s
          have HS := Lib.hid (endsOf_snoc hs)
          clear hs
          simp only at c0 c1
          have C0 := Lib.hid c0; have C1 := Lib.hid c1
          clear c0 c1
          have j1 : (k : Int) < (n2 : Int) := by omega
          have j0 : (0 : Int) ≤ (k : Int) := by omega
          go_wp2_with fail
          have HS0 : Hid (Below w.heap.size w wr.drew) := Lib.hid (HE.out.bel.trans ((bl_drew (Below.refl _ _)).mono HE.out.bel.size))
          have HE0 : Hid (EA w wr.drew w.heap.size (.slice A m c) (endsOf a ++ endsOf (b.take k))) := Lib.hid (HE.out.step HE.out.bel.size (bl_drew (Below.refl _ _)))
          have HLEN : Hid ((endsOf a ++ endsOf (b.take k)).length ≤ 10000) := Lib.hid (by have := HM.out; omega)
          refine wp_region_held_drew (S := fun W => Below w.heap.size w W) (by kernel_rfl) HS0.out (fun hHeld => ?_)
          generalize wr.drew = W0 at HS0 HE0 hHeld ⊢
          refine wpAnyH_take (i := 0) (oi := { dst := some 39, op := _, type := _, pos := _, after := _, guard := _ }) (v := ?v39x15) rfl (by kernel_rfl) (by kernel_rfl) (by kernel_rfl) (fun _ _ _ h => h) (Or.inl ⟨by rfl, ?y39x15⟩) hHeld ?r39x15
          case y39x15 => intro w9 hSw; go_simp <;> with_reducible rfl
          (try simp only [Act.put, List.setIfInBounds_toArray, List.set_cons_zero, List.set_cons_succ])
          refine wpAnyH_take (i := 1) (oi := { dst := some 40, op := _, type := _, pos := _, after := _, guard := _ }) (v := ?v40x16) rfl (by kernel_rfl) (by kernel_rfl) (by kernel_rfl) (fun _ _ _ h => h) (Or.inl ⟨by rfl, ?y40x16⟩) hHeld ?r40x16
          case y40x16 => intro w9 hSw; go_simp <;> with_reducible rfl
          (try simp only [Act.put, List.setIfInBounds_toArray, List.set_cons_zero, List.set_cons_succ])
          refine wpAnyH_take (i := 2) (oi := { dst := some 41, op := _, type := _, pos := _, after := _, guard := _ }) (v := ?v41x17) rfl (by kernel_rfl) (by kernel_rfl) (by kernel_rfl) (fun _ _ _ h => h) (Or.inl ⟨by rfl, ?y41x17⟩) hHeld ?r41x17
          case y41x17 => intro w9 hSw; go_simp <;> with_reducible rfl
          (try simp only [Act.put, List.setIfInBounds_toArray, List.set_cons_zero, List.set_cons_succ])
          refine wpAnyH_take (i := 3) (oi := { dst := some 42, op := _, type := _, pos := _, after := _, guard := _ }) (v := ?v42x18) rfl (by kernel_rfl) (by kernel_rfl) (by kernel_rfl) (fun _ _ _ h => h) (Or.inl ⟨by rfl, ?y42x18⟩) hHeld ?r42x18
          case y42x18 => intro w9 hSw; go_simp <;> with_reducible rfl
          (try simp only [Act.put, List.setIfInBounds_toArray, List.set_cons_zero, List.set_cons_succ])
          refine wpAnyH_take (i := 4) (oi := { dst := some 43, op := _, type := _, pos := _, after := _, guard := _ }) (v := ?v43x19) rfl (by kernel_rfl) (by kernel_rfl) (by kernel_rfl) (fun _ _ _ h => h) (Or.inl ⟨by rfl, ?y43x19⟩) hHeld ?r43x19
          case y43x19 => intro w9 hSw; go_simp <;> with_reducible rfl
          (try simp only [Act.put, List.setIfInBounds_toArray, List.set_cons_zero, List.set_cons_succ])
          refine wpAnyH_take (i := 5) (oi := { dst := some 44, op := _, type := _, pos := _, after := _, guard := _ }) (v := ?v44x20) rfl (by kernel_rfl) (by kernel_rfl) (by kernel_rfl) (fun _ _ _ h => h) (Or.inl ⟨by rfl, ?y44x20⟩) hHeld ?r44x20
          case y44x20 => intro w9 hSw; have c0' := (hSw.cell (p := ⟨g, _, none⟩) hgl).trans C0.out; have c1' := (hSw.cell (p := ⟨g, _, none⟩) hgl).trans C1.out; go_simp <;> with_reducible rfl
          (try simp only [Act.put, List.setIfInBounds_toArray, List.set_cons_zero, List.set_cons_succ])
          refine wpAnyH_take (i := 8) (oi := { dst := some 47, op := _, type := _, pos := _, after := _, guard := _ }) (v := ?v47x21) rfl (by kernel_rfl) (by kernel_rfl) (by kernel_rfl) (fun _ _ _ h => h) (Or.inl ⟨by rfl, ?y47x21⟩) hHeld ?r47x21
          case y47x21 => intro w9 hSw; go_simp <;> with_reducible rfl
          (try simp only [Act.put, List.setIfInBounds_toArray, List.set_cons_zero, List.set_cons_succ])
          refine wpAnyH_take (i := 9) (oi := { dst := some 48, op := _, type := _, pos := _, after := _, guard := _ }) (v := ?v48x22) rfl (by kernel_rfl) (by kernel_rfl) (by kernel_rfl) (fun _ _ _ h => h) (Or.inl ⟨by rfl, ?y48x22⟩) hHeld ?r48x22
          case y48x22 => intro w9 hSw; go_simp <;> with_reducible rfl
          (try simp only [Act.put, List.setIfInBounds_toArray, List.set_cons_zero, List.set_cons_succ])
          refine wpAnyH_take (i := 10) (oi := { dst := some 49, op := _, type := _, pos := _, after := _, guard := _ }) (v := ?v49x23) rfl (by kernel_rfl) (by kernel_rfl) (by kernel_rfl) (fun _ _ _ h => h) (Or.inl ⟨by rfl, ?y49x23⟩) hHeld ?r49x23
          case y49x23 => intro w9 hSw; go_simp <;> with_reducible rfl
          (try simp only [Act.put, List.setIfInBounds_toArray, List.set_cons_zero, List.set_cons_succ])
          refine wpAnyH_take (i := 11) (oi := { dst := some 50, op := _, type := _, pos := _, after := _, guard := _ }) (v := ?v50x24) rfl (by kernel_rfl) (by kernel_rfl) (by kernel_rfl) (fun _ _ _ h => h) (Or.inl ⟨by rfl, ?y50x24⟩) hHeld ?r50x24
          case y50x24 => intro w9 hSw; go_simp <;> with_reducible rfl
          (try simp only [Act.put, List.setIfInBounds_toArray, List.set_cons_zero, List.set_cons_succ])
          refine wpAnyH_take (i := 12) (oi := { dst := some 51, op := _, type := _, pos := _, after := _, guard := _ }) (v := ?v51x25) rfl (by kernel_rfl) (by kernel_rfl) (by kernel_rfl) (fun _ _ _ h => h) (Or.inl ⟨by rfl, ?y51x25⟩) hHeld ?r51x25
          case y51x25 => intro w9 hSw; have c0' := (hSw.cell (p := ⟨g, _, none⟩) hgl).trans C0.out; have c1' := (hSw.cell (p := ⟨g, _, none⟩) hgl).trans C1.out; go_simp <;> with_reducible rfl
          (try simp only [Act.put, List.setIfInBounds_toArray, List.set_cons_zero, List.set_cons_succ])
          refine wpAnyH_ready (rs := [6, 13]) (by kernel_rfl) (by simp) (AllReadyH.cons (o := { dst := some 45, op := _, type := _, pos := _, after := _, guard := _ }) rfl (fun K hK => ?gAq0) (AllReadyH.cons (o := { dst := some 52, op := _, type := _, pos := _, after := _, guard := _ }) rfl (fun K hK => ?gBq0) AllReadyH.nil))
          case gAq0 =>
            rw [if_pos (by rfl)]
            go_simp
            refine hK.out _ _ (HE0.out.step HE0.out.bel.size (bl_alloc _ (Below.refl _ _))).bel (fun hHeld => ?_)
            clear hK K
            (try simp only [Act.put, List.setIfInBounds_toArray, List.set_cons_zero, List.set_cons_succ])
            have E1 : Hid (EA w (W0.alloc (.cells #[.int .i64 x] 2)) w.heap.size (Value.slice A m c) (endsOf a ++ endsOf (b.take k))) := Lib.hid (HE0.out.step HE0.out.bel.size (bl_alloc _ (Below.refl _ _)))
            have X1 : Hid (FX (W0.alloc (.cells #[.int .i64 x] 2)) W0.heap.size x) := Lib.hid (FX.made _ _ _)
            obtain ⟨gW1, hgW1⟩ : ∃ g, W0.heap.size = g := ⟨_, rfl⟩
            have NEW1 : Hid ((Value.slice A m c).ownBlock ≠ some gW1) := Lib.hid (fun e => by have := (HE0.out.own.lt _ e).2; omega)
            rw [hgW1] at X1 ⊢
            obtain ⟨W1, hWW1⟩ : ∃ W, W0.alloc (.cells #[.int .i64 x] 2) = W := ⟨_, rfl⟩
            rw [hWW1] at E1 X1  hHeld ⊢
            clear hWW1 hgW1
            refine wpAnyH_ready (rs := [7, 13]) (by kernel_rfl) (by simp) (AllReadyH.cons (o := { dst := some 46, op := _, type := _, pos := _, after := _, guard := _ }) rfl (fun K hK => ?gAq1) (AllReadyH.cons (o := { dst := some 52, op := _, type := _, pos := _, after := _, guard := _ }) rfl (fun K hK => ?gBq1) AllReadyH.nil))
            case gAq1 =>
              rw [if_pos (by rfl)]
              refine wp_append_ri (.tmp 39) (.tmp 45) rfl w.heap.size (Value.slice A m c) _ (endsOf a ++ endsOf (b.take k)) [x] rfl E1.out.own rfl X1.out.ri E1.out.bel.size (by have := HLEN.out; simp at this ⊢; omega) ?_
              intro v2 W2 hn hg
              have E2 : Hid (EA w W2 w.heap.size v2 ((endsOf a ++ endsOf (b.take k)) ++ [x])) := Lib.hid (E1.out.app E1.out.bel.size hn hg)
              refine hK.out _ _ E2.out.bel (fun hHeld => ?_)
              clear hn hg
              clear hK K
              (try simp only [Act.put, List.setIfInBounds_toArray, List.set_cons_zero, List.set_cons_succ])
              refine wpAnyH_ready (rs := [13]) (by kernel_rfl) (by simp) (AllReadyH.cons (o := { dst := some 52, op := _, type := _, pos := _, after := _, guard := _ }) rfl (fun K hK => ?_) AllReadyH.nil)
              rw [if_pos (by rfl)]
              go_simp
              refine hK.out _ _ (E2.out.step E2.out.bel.size (bl_alloc _ (Below.refl _ _))).bel (fun hHeld => ?_)
              clear hK K
              (try simp only [Act.put, List.setIfInBounds_toArray, List.set_cons_zero, List.set_cons_succ])
              have E3 : Hid (EA w (W2.alloc (.cells #[.int .i64 y] 2)) w.heap.size v2 ((endsOf a ++ endsOf (b.take k)) ++ [x])) := Lib.hid (E2.out.step E2.out.bel.size (bl_alloc _ (Below.refl _ _)))
              have Y3 : Hid (FX (W2.alloc (.cells #[.int .i64 y] 2)) W2.heap.size y) := Lib.hid (FX.made _ _ _)
              obtain ⟨gW3, hgW3⟩ : ∃ g, W2.heap.size = g := ⟨_, rfl⟩
              have NEW3 : Hid (v2.ownBlock ≠ some gW3) := Lib.hid (fun e => by have := (E2.out.own.lt _ e).2; omega)
              rw [hgW3] at Y3 ⊢
              obtain ⟨W3, hWW3⟩ : ∃ W, W2.alloc (.cells #[.int .i64 y] 2) = W := ⟨_, rfl⟩
              rw [hWW3] at E3 Y3  hHeld ⊢
              clear hWW3 hgW3
              refine wpAnyH_ready (rs := [14]) (by kernel_rfl) (by simp) (AllReadyH.cons (o := { dst := some 53, op := _, type := _, pos := _, after := _, guard := _ }) rfl (fun K hK => ?_) AllReadyH.nil)
              rw [if_pos (by rfl)]
              refine wp_append_ri (.tmp 46) (.tmp 52) rfl w.heap.size v2 _ ((endsOf a ++ endsOf (b.take k)) ++ [x]) [y] rfl E3.out.own rfl Y3.out.ri E3.out.bel.size (by have := HLEN.out; simp at this ⊢; omega) ?_
              intro v4 W4 hn hg
              have E4 : Hid (EA w W4 w.heap.size v4 (((endsOf a ++ endsOf (b.take k)) ++ [x]) ++ [y])) := Lib.hid (E3.out.app E3.out.bel.size hn hg)
              refine hK.out _ _ E4.out.bel (fun hHeld => ?_)
              clear hn hg
              clear hK K
              (try simp only [Act.put, List.setIfInBounds_toArray, List.set_cons_zero, List.set_cons_succ])
              refine wpAnyH_take (i := 15) (oi := { dst := some 5, op := _, type := _, pos := _, after := _, guard := _ }) (v := ?v5x26) rfl (by kernel_rfl) (by kernel_rfl) (by kernel_rfl) (fun _ _ _ h => h) (Or.inl ⟨by rfl, ?y5x26⟩) hHeld ?r5x26
              case y5x26 => intro w9 hSw; go_simp <;> with_reducible rfl
              (try simp only [Act.put, List.setIfInBounds_toArray, List.set_cons_zero, List.set_cons_succ])
              refine wpAnyH_done (by kernel_rfl) ?_ _
              go_wp2_with fail
              go_roundw
              case rel => exact ⟨k + 1, by omega, by go_num, Lib.hid (by rw [HS.out, ← List.append_assoc, ← List.append_assoc]; exact E4.out)⟩
              case measure => simp [intOf]; omega
            case gBq1 =>
              rw [if_pos (by rfl)]
              go_simp
              refine hK.out _ _ (E1.out.step E1.out.bel.size (bl_alloc _ (Below.refl _ _))).bel (fun hHeld => ?_)
              clear hK K
              (try simp only [Act.put, List.setIfInBounds_toArray, List.set_cons_zero, List.set_cons_succ])
              have E2 : Hid (EA w (W1.alloc (.cells #[.int .i64 y] 2)) w.heap.size (Value.slice A m c) (endsOf a ++ endsOf (b.take k))) := Lib.hid (E1.out.step E1.out.bel.size (bl_alloc _ (Below.refl _ _)))
              have Y2 : Hid (FX (W1.alloc (.cells #[.int .i64 y] 2)) W1.heap.size y) := Lib.hid (FX.made _ _ _)
              replace X1 := Lib.hid (X1.out.later (bl_alloc (.cells #[.int .i64 y] 2) (Below.refl _ _)))
              obtain ⟨gW2, hgW2⟩ : ∃ g, W1.heap.size = g := ⟨_, rfl⟩
              have NEW2 : Hid ((Value.slice A m c).ownBlock ≠ some gW2) := Lib.hid (fun e => by have := (E1.out.own.lt _ e).2; omega)
              rw [hgW2] at Y2 ⊢
              obtain ⟨W2, hWW2⟩ : ∃ W, W1.alloc (.cells #[.int .i64 y] 2) = W := ⟨_, rfl⟩
              rw [hWW2] at E2 Y2 X1 hHeld ⊢
              clear hWW2 hgW2
              refine wpAnyH_ready (rs := [7]) (by kernel_rfl) (by simp) (AllReadyH.cons (o := { dst := some 46, op := _, type := _, pos := _, after := _, guard := _ }) rfl (fun K hK => ?_) AllReadyH.nil)
              rw [if_pos (by rfl)]
              refine wp_append_ri (.tmp 39) (.tmp 45) rfl w.heap.size (Value.slice A m c) _ (endsOf a ++ endsOf (b.take k)) [x] rfl E2.out.own rfl X1.out.ri E2.out.bel.size (by have := HLEN.out; simp at this ⊢; omega) ?_
              intro v3 W3 hn hg
              have E3 : Hid (EA w W3 w.heap.size v3 ((endsOf a ++ endsOf (b.take k)) ++ [x])) := Lib.hid (E2.out.app E2.out.bel.size hn hg)
              replace Y2 := Lib.hid (Y2.out.grown hg NEW2.out)
              refine hK.out _ _ E3.out.bel (fun hHeld => ?_)
              clear hn hg
              clear hK K
              (try simp only [Act.put, List.setIfInBounds_toArray, List.set_cons_zero, List.set_cons_succ])
              refine wpAnyH_ready (rs := [14]) (by kernel_rfl) (by simp) (AllReadyH.cons (o := { dst := some 53, op := _, type := _, pos := _, after := _, guard := _ }) rfl (fun K hK => ?_) AllReadyH.nil)
              rw [if_pos (by rfl)]
              refine wp_append_ri (.tmp 46) (.tmp 52) rfl w.heap.size v3 _ ((endsOf a ++ endsOf (b.take k)) ++ [x]) [y] rfl E3.out.own rfl Y2.out.ri E3.out.bel.size (by have := HLEN.out; simp at this ⊢; omega) ?_
              intro v4 W4 hn hg
              have E4 : Hid (EA w W4 w.heap.size v4 (((endsOf a ++ endsOf (b.take k)) ++ [x]) ++ [y])) := Lib.hid (E3.out.app E3.out.bel.size hn hg)
              refine hK.out _ _ E4.out.bel (fun hHeld => ?_)
              clear hn hg
              clear hK K
              (try simp only [Act.put, List.setIfInBounds_toArray, List.set_cons_zero, List.set_cons_succ])
              refine wpAnyH_take (i := 15) (oi := { dst := some 5, op := _, type := _, pos := _, after := _, guard := _ }) (v := ?v5x27) rfl (by kernel_rfl) (by kernel_rfl) (by kernel_rfl) (fun _ _ _ h => h) (Or.inl ⟨by rfl, ?y5x27⟩) hHeld ?r5x27
              case y5x27 => intro w9 hSw; go_simp <;> with_reducible rfl
              (try simp only [Act.put, List.setIfInBounds_toArray, List.set_cons_zero, List.set_cons_succ])
              refine wpAnyH_done (by kernel_rfl) ?_ _
              go_wp2_with fail
              go_roundw
              case rel => exact ⟨k + 1, by omega, by go_num, Lib.hid (by rw [HS.out, ← List.append_assoc, ← List.append_assoc]; exact E4.out)⟩
              case measure => simp [intOf]; omega
          case gBq0 =>
            rw [if_pos (by rfl)]
            go_simp
            refine hK.out _ _ (HE0.out.step HE0.out.bel.size (bl_alloc _ (Below.refl _ _))).bel (fun hHeld => ?_)
            clear hK K
            (try simp only [Act.put, List.setIfInBounds_toArray, List.set_cons_zero, List.set_cons_succ])
            have E1 : Hid (EA w (W0.alloc (.cells #[.int .i64 y] 2)) w.heap.size (Value.slice A m c) (endsOf a ++ endsOf (b.take k))) := Lib.hid (HE0.out.step HE0.out.bel.size (bl_alloc _ (Below.refl _ _)))
            have Y1 : Hid (FX (W0.alloc (.cells #[.int .i64 y] 2)) W0.heap.size y) := Lib.hid (FX.made _ _ _)
            obtain ⟨gW1, hgW1⟩ : ∃ g, W0.heap.size = g := ⟨_, rfl⟩
            have NEW1 : Hid ((Value.slice A m c).ownBlock ≠ some gW1) := Lib.hid (fun e => by have := (HE0.out.own.lt _ e).2; omega)
            rw [hgW1] at Y1 ⊢
            obtain ⟨W1, hWW1⟩ : ∃ W, W0.alloc (.cells #[.int .i64 y] 2) = W := ⟨_, rfl⟩
            rw [hWW1] at E1 Y1  hHeld ⊢
            clear hWW1 hgW1
            refine wpAnyH_ready (rs := [6]) (by kernel_rfl) (by simp) (AllReadyH.cons (o := { dst := some 45, op := _, type := _, pos := _, after := _, guard := _ }) rfl (fun K hK => ?_) AllReadyH.nil)
            rw [if_pos (by rfl)]
            go_simp
            refine hK.out _ _ (E1.out.step E1.out.bel.size (bl_alloc _ (Below.refl _ _))).bel (fun hHeld => ?_)
            clear hK K
            (try simp only [Act.put, List.setIfInBounds_toArray, List.set_cons_zero, List.set_cons_succ])
            have E2 : Hid (EA w (W1.alloc (.cells #[.int .i64 x] 2)) w.heap.size (Value.slice A m c) (endsOf a ++ endsOf (b.take k))) := Lib.hid (E1.out.step E1.out.bel.size (bl_alloc _ (Below.refl _ _)))
            have X2 : Hid (FX (W1.alloc (.cells #[.int .i64 x] 2)) W1.heap.size x) := Lib.hid (FX.made _ _ _)
            replace Y1 := Lib.hid (Y1.out.later (bl_alloc (.cells #[.int .i64 x] 2) (Below.refl _ _)))
            obtain ⟨gW2, hgW2⟩ : ∃ g, W1.heap.size = g := ⟨_, rfl⟩
            have NEW2 : Hid ((Value.slice A m c).ownBlock ≠ some gW2) := Lib.hid (fun e => by have := (E1.out.own.lt _ e).2; omega)
            rw [hgW2] at X2 ⊢
            obtain ⟨W2, hWW2⟩ : ∃ W, W1.alloc (.cells #[.int .i64 x] 2) = W := ⟨_, rfl⟩
            rw [hWW2] at E2 X2 Y1 hHeld ⊢
            clear hWW2 hgW2
            refine wpAnyH_ready (rs := [7]) (by kernel_rfl) (by simp) (AllReadyH.cons (o := { dst := some 46, op := _, type := _, pos := _, after := _, guard := _ }) rfl (fun K hK => ?_) AllReadyH.nil)
            rw [if_pos (by rfl)]
            refine wp_append_ri (.tmp 39) (.tmp 45) rfl w.heap.size (Value.slice A m c) _ (endsOf a ++ endsOf (b.take k)) [x] rfl E2.out.own rfl X2.out.ri E2.out.bel.size (by have := HLEN.out; simp at this ⊢; omega) ?_
            intro v3 W3 hn hg
            have E3 : Hid (EA w W3 w.heap.size v3 ((endsOf a ++ endsOf (b.take k)) ++ [x])) := Lib.hid (E2.out.app E2.out.bel.size hn hg)
            replace Y1 := Lib.hid (Y1.out.grown hg NEW1.out)
            refine hK.out _ _ E3.out.bel (fun hHeld => ?_)
            clear hn hg
            clear hK K
            (try simp only [Act.put, List.setIfInBounds_toArray, List.set_cons_zero, List.set_cons_succ])
            refine wpAnyH_ready (rs := [14]) (by kernel_rfl) (by simp) (AllReadyH.cons (o := { dst := some 53, op := _, type := _, pos := _, after := _, guard := _ }) rfl (fun K hK => ?_) AllReadyH.nil)
            rw [if_pos (by rfl)]
            refine wp_append_ri (.tmp 46) (.tmp 52) rfl w.heap.size v3 _ ((endsOf a ++ endsOf (b.take k)) ++ [x]) [y] rfl E3.out.own rfl Y1.out.ri E3.out.bel.size (by have := HLEN.out; simp at this ⊢; omega) ?_
            intro v4 W4 hn hg
            have E4 : Hid (EA w W4 w.heap.size v4 (((endsOf a ++ endsOf (b.take k)) ++ [x]) ++ [y])) := Lib.hid (E3.out.app E3.out.bel.size hn hg)
            refine hK.out _ _ E4.out.bel (fun hHeld => ?_)
            clear hn hg
            clear hK K
            (try simp only [Act.put, List.setIfInBounds_toArray, List.set_cons_zero, List.set_cons_succ])
            refine wpAnyH_take (i := 15) (oi := { dst := some 5, op := _, type := _, pos := _, after := _, guard := _ }) (v := ?v5x28) rfl (by kernel_rfl) (by kernel_rfl) (by kernel_rfl) (fun _ _ _ h => h) (Or.inl ⟨by rfl, ?y5x28⟩) hHeld ?r5x28
            case y5x28 => intro w9 hSw; go_simp <;> with_reducible rfl
            (try simp only [Act.put, List.setIfInBounds_toArray, List.set_cons_zero, List.set_cons_succ])
            refine wpAnyH_done (by kernel_rfl) ?_ _
            go_wp2_with fail
            go_roundw
            case rel => exact ⟨k + 1, by omega, by go_num, Lib.hid (by rw [HS.out, ← List.append_assoc, ← List.append_assoc]; exact E4.out)⟩
            case measure => simp [intOf]; omega
        · have HE2 : Hid (EA w wr w.heap.size (Value.slice A m c) (endsOf a ++ endsOf b)) := Lib.hid (by have := HE.out; rwa [List.take_of_length_le (by rw [HN2.out]; omega)] at this)
          have HM2 : Hid ((endsOf a ++ endsOf b).length = m) := Lib.hid (by have := HM.out; rwa [List.take_of_length_le (by rw [HN2.out]; omega)] at this)
          clear HE HM
          obtain ⟨L, hL⟩ : ∃ L, endsOf a ++ endsOf b = L := ⟨_, rfl⟩
          rw [hL] at HE2 HM2
          have HLE := Lib.hid hL
          clear hL
          obtain ⟨w1, rfl⟩ : ∃ wo : World, wo = wr := ⟨_, rfl⟩
          have HAL := Lib.hid HE2.out.own.ri
          have HB1 := Lib.hid HE2.out.bel
          clear HE2 hm5
          have hmL : m ≤ 4000 := by have h1 := HM2.out; rw [← HLE.out, List.length_append, endsOf_len, endsOf_len, HN1.out, HN2.out] at h1; omega
          go_wp2_with fail
          go_loopw [8, 9, 10, 11] (fun u i _ _ wr => ∃ (k : Nat), k ≤ m ∧ i = .int .i64 k ∧ Hid (EA w1 wr w1.heap.size u (ascOf (L.take k)))) (fun _ i _ _ _ => m - (intOf i).toNat)
          case atStart => exact ⟨0, by omega, rfl, Lib.hid ⟨OI.nil _ _, Below.refl _ _⟩⟩
          case round =>
            clear hlt hk
            obtain ⟨k, hk, rfl, HE⟩ := hrel
            obtain ⟨U, cu, rfl⟩ := HE.out.own.ri.len
            obtain ⟨D, hD⟩ : ∃ D, ascOf (L.take k) = D := ⟨_, rfl⟩
            have HASC : Hid (D.Pairwise (· < ·)) := Lib.hid (by rw [← hD]; exact ascOf_asc _)
            have hp0 : D.length ≤ k := by rw [← hD]; have := ascOf_len (L.take k); rw [List.length_take] at this; omega
            have HDE := Lib.hid hD
            rw [hD] at HE ⊢
            obtain ⟨p, hp⟩ : ∃ p, D.length = p := ⟨_, rfl⟩
            rw [hp] at hp0 HE ⊢
            have HP := Lib.hid hp
            clear hD hp
            by_cases hlt : k < m
            · obtain ⟨g, off, rfl, hgl, c0⟩ := HAL.out.num HM2.out hlt
              obtain ⟨x, hx⟩ : ∃ x, L.getD k 0 = x := ⟨_, rfl⟩
              rw [hx] at c0
              have HSN : Hid (ascOf (L.take (k + 1)) = insE x D) := Lib.hid (by
                rw [List.take_succ_eq_append_getElem (by rw [HM2.out]; exact hlt), ascOf_snoc, HDE.out, ← hx, List.getD_eq_getElem?_getD, List.getElem?_eq_getElem (by rw [HM2.out]; exact hlt)]; rfl)
              have C0 := Lib.hid c0
              clear hx c0
              have j1 : (k : Int) < (m : Int) := by omega
              have j0 : (0 : Int) ≤ (k : Int) := by omega
              go_wp2_with fail
              obtain ⟨wo, rfl⟩ : ∃ wo : World, wo = wr := ⟨_, rfl⟩
              have c0 : wo.cell? ⟨g, off + k, none⟩ = some (.int .i64 x) := (HE.out.bel.cell (p := ⟨g, _, none⟩) hgl).trans C0.out
              go_loopw [10] (fun t wr => ∃ (j : Nat), j ≤ p ∧ t = .int .i64 j ∧ Hid (PlaceE x D j) ∧ Hid (∃ q, wr = wo.drewN q)) (fun t _ => (intOf t).toNat)
              case atStart => exact ⟨p, by omega, rfl, Lib.hid (by rw [← HP.out]; exact PlaceE.start x D), Lib.hid ⟨0, rfl⟩⟩
              case round =>
                obtain ⟨j, hj, rfl, HPL, HW⟩ := hrel
                have d0 : wr.cell? ⟨g, off + k, none⟩ = some (.int .i64 x) := by obtain ⟨q, e⟩ := HW.out; rw [e]; exact c0
                have HEJ : Hid (EA w1 wr w1.heap.size (.slice U p cu) D) := Lib.hid (by obtain ⟨q, e⟩ := HW.out; rw [e]; exact HE.out.step HE.out.bel.size (bl_drewN q (Below.refl _ _)))
                clear c0
                rcases Nat.eq_zero_or_pos j with hj0 | hj0
                · have hz1 : j ≤ 0 := by omega
                  have e1 : decide (0 < j) = false := by simp; omega
                  have e2 : decide ((0 : Int) < (j : Int)) = false := by simp; omega
                  have HIN : Hid (ascOf (L.take (k + 1)) = D.take j ++ x :: D.drop j) := Lib.hid (by rw [HSN.out]; exact HPL.out.put HASC.out (.inl hj0))
                  clear hj0
                  go_wp2_with fail
                  go_quiet (fail)
                  go_wp2_with fail
                  obtain ⟨wA, hA⟩ : ∃ W, wr.drewN nq = W := ⟨_, rfl⟩
                  have HEA : Hid (EA w1 wA w1.heap.size (.slice U p cu) D) := Lib.hid (by rw [← hA]; exact HEJ.out.step HEJ.out.bel.size (bl_drewN _ (Below.refl _ _)))
                  rw [hA]
                  clear hA HEJ d0 HW
                  go_quiet (fail)
                  go_wp2_with fail
                  obtain ⟨wB, hB⟩ : ∃ W, wA.drewN nq = W := ⟨_, rfl⟩
                  have HEB : Hid (EA w1 wB w1.heap.size (.slice U p cu) D) := Lib.hid (by rw [← hB]; exact HEA.out.step HEA.out.bel.size (bl_drewN _ (Below.refl _ _)))
                  rw [hB]
                  clear hB HEA
                  have hjc : j ≤ cu := Nat.le_trans hj HEB.out.own.ri.cap
                  obtain ⟨S1, hS1⟩ : ∃ S1, Go.sliced U j p cu 1 = S1 := ⟨_, rfl⟩
                  obtain ⟨S2, hS2⟩ : ∃ S2, Go.sliced U 0 j cu 1 = S2 := ⟨_, rfl⟩
                  have hsl := slice_l U p cu j hj
                  have hsh := slice_h U p cu j hjc
                  have HR1 := Lib.hid (HEB.out.own.ri.sliced HP.out hj)
                  have HR2 := Lib.hid (HEB.out.own.ri.taken HP.out hj)
                  rw [hS1] at hsl HR1
                  rw [hS2] at hsh HR2
                  clear hS1 hS2
                  have HB0 : Hid (Below w1.heap.size w1 wB.drew) := Lib.hid (HEB.out.bel.trans ((bl_drew (Below.refl _ _)).mono HEB.out.bel.size))
                  replace HR1 : Hid (RI wB.drew S1 (D.drop j)) := Lib.hid (HR1.out.later (bl_drew (Below.refl _ _)))
                  replace HR2 : Hid (RI wB.drew S2 (D.take j)) := Lib.hid (HR2.out.later (bl_drew (Below.refl _ _)))
                  refine wp_region_held_drew (S := fun W => Below w1.heap.size w1 W) (by kernel_rfl) HB0.out (fun hHeld => ?_)
                  generalize wB.drew = W0 at HB0 HR1 HR2 hHeld ⊢
                  refine wpAnyH_take (i := 0) (oi := { dst := some 92, op := _, type := _, pos := _, after := _, guard := _ }) (v := ?v92x29) rfl (by kernel_rfl) (by kernel_rfl) (by kernel_rfl) (fun _ _ _ h => h) (Or.inl ⟨by rfl, ?y92x29⟩) hHeld ?r92x29
                  case y92x29 => intro w9 hSw; go_simp <;> with_reducible rfl
                  (try simp only [Act.put, List.setIfInBounds_toArray, List.set_cons_zero, List.set_cons_succ])
                  refine wpAnyH_take (i := 1) (oi := { dst := some 93, op := _, type := _, pos := _, after := _, guard := _ }) (v := ?v93x30) rfl (by kernel_rfl) (by kernel_rfl) (by kernel_rfl) (fun _ _ _ h => h) (Or.inl ⟨by rfl, ?y93x30⟩) hHeld ?r93x30
                  case y93x30 => intro w9 hSw; go_simp <;> with_reducible rfl
                  (try simp only [Act.put, List.setIfInBounds_toArray, List.set_cons_zero, List.set_cons_succ])
                  refine wpAnyH_take (i := 2) (oi := { dst := some 94, op := _, type := _, pos := _, after := _, guard := _ }) (v := ?v94x31) rfl (by kernel_rfl) (by kernel_rfl) (by kernel_rfl) (fun _ _ _ h => h) (Or.inl ⟨by rfl, ?y94x31⟩) hHeld ?r94x31
                  case y94x31 => intro w9 hSw; go_simp <;> with_reducible rfl
                  (try simp only [Act.put, List.setIfInBounds_toArray, List.set_cons_zero, List.set_cons_succ])
                  refine wpAnyH_take (i := 3) (oi := { dst := some 95, op := _, type := _, pos := _, after := _, guard := _ }) (v := ?v95x32) rfl (by kernel_rfl) (by kernel_rfl) (by kernel_rfl) (fun _ _ _ h => h) (Or.inl ⟨by rfl, ?y95x32⟩) hHeld ?r95x32
                  case y95x32 => intro w9 hSw; have c0' := (hSw.cell (p := ⟨g, _, none⟩) hgl).trans C0.out; go_simp <;> with_reducible rfl
                  (try simp only [Act.put, List.setIfInBounds_toArray, List.set_cons_zero, List.set_cons_succ])
                  refine wpAnyH_take (i := 5) (oi := { dst := some 97, op := _, type := _, pos := _, after := _, guard := _ }) (v := ?v97x33) rfl (by kernel_rfl) (by kernel_rfl) (by kernel_rfl) (fun _ _ _ h => h) (Or.inl ⟨by rfl, ?y97x33⟩) hHeld ?r97x33
                  case y97x33 => intro w9 hSw; go_simp <;> with_reducible rfl
                  (try simp only [Act.put, List.setIfInBounds_toArray, List.set_cons_zero, List.set_cons_succ])
                  refine wpAnyH_take (i := 6) (oi := { dst := some 98, op := _, type := _, pos := _, after := _, guard := _ }) (v := ?v98x34) rfl (by kernel_rfl) (by kernel_rfl) (by kernel_rfl) (fun _ _ _ h => h) (Or.inl ⟨by rfl, ?y98x34⟩) hHeld ?r98x34
                  case y98x34 => intro w9 hSw; go_simp <;> with_reducible rfl
                  (try simp only [Act.put, List.setIfInBounds_toArray, List.set_cons_zero, List.set_cons_succ])
                  refine wpAnyH_take (i := 7) (oi := { dst := some 99, op := _, type := _, pos := _, after := _, guard := _ }) (v := ?v99x35) rfl (by kernel_rfl) (by kernel_rfl) (by kernel_rfl) (fun _ _ _ h => h) (Or.inl ⟨by rfl, ?y99x35⟩) hHeld ?r99x35
                  case y99x35 => intro w9 hSw; go_simp <;> with_reducible rfl
                  (try simp only [Act.put, List.setIfInBounds_toArray, List.set_cons_zero, List.set_cons_succ])
                  refine wpAnyH_ready (rs := [4]) (by kernel_rfl) (by simp) (AllReadyH.cons (o := { dst := some 96, op := _, type := _, pos := _, after := _, guard := _ }) rfl (fun K hK => ?_) AllReadyH.nil)
                  rw [if_pos (by rfl)]
                  go_simp
                  refine hK.out _ _ (HB0.out.alloc HB0.out.size _) (fun hHeld => ?_)
                  clear hK K
                  (try simp only [Act.put, List.setIfInBounds_toArray, List.set_cons_zero, List.set_cons_succ])
                  have O1 : Hid (OI (W0.alloc (.cells #[.int .i64 x] 2)) W0.heap.size (Value.slice (some ⟨W0.heap.size, 0, none⟩) 1 1) [x]) := Lib.hid (oi_one W0 x _ rfl)
                  have B1 : Hid (Below W0.heap.size W0 (W0.alloc (.cells #[.int .i64 x] 2))) := Lib.hid (bl_alloc _ (Below.refl _ _))
                  generalize W0.alloc (.cells #[.int .i64 x] 2) = W1 at O1 B1 hHeld ⊢
                  refine wpAnyH_ready (rs := [8]) (by kernel_rfl) (by simp) (AllReadyH.cons (o := { dst := some 100, op := _, type := _, pos := _, after := _, guard := _ }) rfl (fun K hK => ?_) AllReadyH.nil)
                  rw [if_pos (by rfl)]
                  refine wp_append_ri (.tmp 96) (.tmp 99) rfl W0.heap.size (Value.slice (some ⟨W0.heap.size, 0, none⟩) 1 1) _ [x] (D.drop j) rfl O1.out rfl (HR1.out.later B1.out) B1.out.size (by have := HP.out; rw [List.length_drop]; simp; omega) ?_
                  intro vR W2 hn hg
                  have O2 := Lib.hid hn
                  have B2 : Hid (Below W0.heap.size W0 W2) := Lib.hid (B1.out.grown hg B1.out.size (fun j e => (O1.out.lt j e).1))
                  refine hK.out _ _ (HB0.out.trans (B2.out.mono HB0.out.size)) (fun hHeld => ?_)
                  clear hn hg
                  clear hK K
                  (try simp only [Act.put, List.setIfInBounds_toArray, List.set_cons_zero, List.set_cons_succ])
                  refine wpAnyH_take (i := 9) (oi := { dst := some 11, op := _, type := _, pos := _, after := _, guard := _ }) (v := ?v11x36) rfl (by kernel_rfl) (by kernel_rfl) (by kernel_rfl) (fun _ _ _ h => h) (Or.inl ⟨by rfl, ?y11x36⟩) hHeld ?r11x36
                  case y11x36 => intro w9 hSw; go_simp <;> with_reducible rfl
                  (try simp only [Act.put, List.setIfInBounds_toArray, List.set_cons_zero, List.set_cons_succ])
                  refine wpAnyH_done (by kernel_rfl) ?_ _
                  replace HR2 : Hid (RI W2 S2 (D.take j)) := Lib.hid (HR2.out.later B2.out)
                  have HRR := Lib.hid O2.out.ri
                  have hlx : ([x] ++ D.drop j).length ≤ 5000 := by have := HP.out; rw [List.length_append, List.length_drop]; simp; omega
                  have HLX := Lib.hid hlx
                  clear hlx O1 B1 HR1 hHeld
                  have tk1 : True := trivial
                  go_wp2_with (first
                    | (with_reducible refine wpList_slice_at rfl _ _ _ _ rfl S2 (hsh _) ?_)
                    | (at_builtin; have _t := tk1; refine wpList_append_ri _ rfl _ _ rfl W2.heap.size _ S2 [] (D.take j) rfl (oi_empty W2 _ rfl) rfl (HR2.out.later (bl_alloc _ (Below.refl _ _))) (by simp) (by have := HP.out; rw [List.length_take]; simp; omega) ?_; intro v3 W3 hn hg; have O3 : Hid (OI W3 W2.heap.size v3 (D.take j)) := Lib.hid hn; have B3 : Hid (Below W2.heap.size W2 W3) := Lib.hid ((bl_alloc _ (Below.refl _ _)).grown hg (by simp) (fun j e => ((oi_empty W2 _ rfl).lt j e).1)); clear hn hg tk1)
                    | (at_builtin; refine wpList_append_ri _ rfl _ _ rfl W2.heap.size v3 vR (D.take j) ([x] ++ D.drop j) rfl O3.out rfl (HRR.out.later B3.out) B3.out.size (by have h1 := HP.out; have h2 := HLX.out; rw [List.length_take]; omega) ?_; intro v4 W4 hn hg; have O4 := Lib.hid hn; have B4 : Hid (Below W2.heap.size W2 W4) := Lib.hid (B3.out.grown hg B3.out.size (fun j e => (O3.out.lt j e).1)); clear hn hg))
                  go_roundw
                  case rel => exact ⟨k + 1, by omega, by go_num, Lib.hid ⟨by rw [HIN.out]; exact O4.out.base (Nat.le_trans HB0.out.size B2.out.size), HB0.out.trans ((B2.out.mono HB0.out.size).trans (B4.out.mono (Nat.le_trans HB0.out.size B2.out.size)))⟩⟩
                  case measure => simp [intOf]; omega
                · have e1 : decide (0 < j) = true := by simp; omega
                  have e2 : decide ((0 : Int) < (j : Int)) = true := by simp; omega
                  obtain ⟨gz, oz, rfl, hgz, z0⟩ := HEJ.out.own.ri.num HP.out (i := j - 1) (by omega)
                  obtain ⟨z, hz⟩ : ∃ z, D.getD (j - 1) 0 = z := ⟨_, rfl⟩
                  rw [hz] at z0
                  have HZ := Lib.hid hz
                  clear hz
                  have i1 : IntKind.i64.wrap ((j : Int) - 1) = (j : Int) - 1 := IntWalk.i64_in _ (by omega)
                  have i2 : (0 : Int) ≤ (j : Int) - 1 := by omega
                  have i3 : (j : Int) - 1 < (p : Int) := by omega
                  by_cases hxz : x < z
                  · have f1 : decide (x < z) = true := decide_eq_true hxz
                    have HST : Hid (PlaceE x D (j - 1)) := Lib.hid (by
                      obtain ⟨j', rfl⟩ : ∃ j', j = j' + 1 := ⟨j - 1, by omega⟩
                      exact HPL.out.step (by rw [show j' + 1 - 1 = j' by omega] at HZ; rw [HZ.out]; exact hxz))
                    go_wp2_with fail
                    go_quiet (fail)
                    go_wp2_with fail
                    go_roundw
                    case rel => exact ⟨j - 1, by omega, by go_num, HST, Lib.hid (by obtain ⟨q, e⟩ := HW.out; rw [e]; exact ⟨q + nq, by simp [World.drewN, Nat.add_assoc]⟩)⟩
                    case measure => simp [intOf]; omega
                  · have f1 : decide (x < z) = false := decide_eq_false hxz
                    by_cases hzx : z = x
                    · have HIN : Hid (ascOf (L.take (k + 1)) = D) := Lib.hid (by
                        rw [HSN.out]
                        obtain ⟨j', rfl⟩ : ∃ j', j = j' + 1 := ⟨j - 1, by omega⟩
                        exact HPL.out.there (by rw [show j' + 1 - 1 = j' by omega] at HZ; rw [HZ.out, hzx]))
                      have f2 : (z == x) = true := by simpa using hzx
                      have f3 : (z != x) = false := by simpa using hzx
                      clear hzx
                      go_wp2_with fail
                      go_quiet (fail)
                      go_wp2_with fail
                      obtain ⟨wA, hA⟩ : ∃ W, wr.drewN nq = W := ⟨_, rfl⟩
                      have HEA : Hid (EA w1 wA w1.heap.size (.slice (some ⟨gz, oz, none⟩) p cu) D) := Lib.hid (by rw [← hA]; exact HEJ.out.step HEJ.out.bel.size (bl_drewN _ (Below.refl _ _)))
                      have q0 : wA.cell? ⟨gz, oz + (j - 1), none⟩ = some (.int .i64 z) := by rw [← hA]; exact z0
                      have q1 : wA.cell? ⟨g, off + k, none⟩ = some (.int .i64 x) := by rw [← hA]; exact d0
                      rw [hA]
                      clear hA HEJ d0 HW z0
                      go_quiet (fail)
                      go_wp2_with fail
                      go_roundw
                      case rel => exact ⟨k + 1, by omega, by go_num, Lib.hid (by rw [HIN.out]; exact HEA.out.step HEA.out.bel.size (bl_drewN _ (Below.refl _ _)))⟩
                      case measure => simp [intOf]; omega
                    · have HIN : Hid (ascOf (L.take (k + 1)) = D.take j ++ x :: D.drop j) := Lib.hid (by rw [HSN.out]; exact HPL.out.put HASC.out (.inr (by rw [HZ.out]; omega)))
                      have f2 : (z == x) = false := by simpa using hzx
                      have f3 : (z != x) = true := by simpa using hzx
                      clear hzx
                      go_wp2_with fail
                      go_quiet (fail)
                      go_wp2_with fail
                      obtain ⟨wA, hA⟩ : ∃ W, wr.drewN nq = W := ⟨_, rfl⟩
                      have HEA : Hid (EA w1 wA w1.heap.size (.slice (some ⟨gz, oz, none⟩) p cu) D) := Lib.hid (by rw [← hA]; exact HEJ.out.step HEJ.out.bel.size (bl_drewN _ (Below.refl _ _)))
                      have q0 : wA.cell? ⟨gz, oz + (j - 1), none⟩ = some (.int .i64 z) := by rw [← hA]; exact z0
                      have q1 : wA.cell? ⟨g, off + k, none⟩ = some (.int .i64 x) := by rw [← hA]; exact d0
                      rw [hA]
                      clear hA HEJ d0 HW z0
                      go_quiet (fail)
                      go_wp2_with fail
                      obtain ⟨wB, hB⟩ : ∃ W, wA.drewN nq = W := ⟨_, rfl⟩
                      have HEB : Hid (EA w1 wB w1.heap.size (.slice (some ⟨gz, oz, none⟩) p cu) D) := Lib.hid (by rw [← hB]; exact HEA.out.step HEA.out.bel.size (bl_drewN _ (Below.refl _ _)))
                      rw [hB]
                      clear hB HEA q0 q1
                      have hjc : j ≤ cu := Nat.le_trans hj HEB.out.own.ri.cap
                      obtain ⟨S1, hS1⟩ : ∃ S1, Go.sliced (some ⟨gz, oz, none⟩) j p cu 1 = S1 := ⟨_, rfl⟩
                      obtain ⟨S2, hS2⟩ : ∃ S2, Go.sliced (some ⟨gz, oz, none⟩) 0 j cu 1 = S2 := ⟨_, rfl⟩
                      have hsl := slice_l (some ⟨gz, oz, none⟩) p cu j hj
                      have hsh := slice_h (some ⟨gz, oz, none⟩) p cu j hjc
                      have HR1 := Lib.hid (HEB.out.own.ri.sliced HP.out hj)
                      have HR2 := Lib.hid (HEB.out.own.ri.taken HP.out hj)
                      rw [hS1] at hsl HR1
                      rw [hS2] at hsh HR2
                      clear hS1 hS2
                      have HB0 : Hid (Below w1.heap.size w1 wB.drew) := Lib.hid (HEB.out.bel.trans ((bl_drew (Below.refl _ _)).mono HEB.out.bel.size))
                      replace HR1 : Hid (RI wB.drew S1 (D.drop j)) := Lib.hid (HR1.out.later (bl_drew (Below.refl _ _)))
                      replace HR2 : Hid (RI wB.drew S2 (D.take j)) := Lib.hid (HR2.out.later (bl_drew (Below.refl _ _)))
                      refine wp_region_held_drew (S := fun W => Below w1.heap.size w1 W) (by kernel_rfl) HB0.out (fun hHeld => ?_)
                      generalize wB.drew = W0 at HB0 HR1 HR2 hHeld ⊢
                      refine wpAnyH_take (i := 0) (oi := { dst := some 92, op := _, type := _, pos := _, after := _, guard := _ }) (v := ?v92x37) rfl (by kernel_rfl) (by kernel_rfl) (by kernel_rfl) (fun _ _ _ h => h) (Or.inl ⟨by rfl, ?y92x37⟩) hHeld ?r92x37
                      case y92x37 => intro w9 hSw; go_simp <;> with_reducible rfl
                      (try simp only [Act.put, List.setIfInBounds_toArray, List.set_cons_zero, List.set_cons_succ])
                      refine wpAnyH_take (i := 1) (oi := { dst := some 93, op := _, type := _, pos := _, after := _, guard := _ }) (v := ?v93x38) rfl (by kernel_rfl) (by kernel_rfl) (by kernel_rfl) (fun _ _ _ h => h) (Or.inl ⟨by rfl, ?y93x38⟩) hHeld ?r93x38
                      case y93x38 => intro w9 hSw; go_simp <;> with_reducible rfl
                      (try simp only [Act.put, List.setIfInBounds_toArray, List.set_cons_zero, List.set_cons_succ])
                      refine wpAnyH_take (i := 2) (oi := { dst := some 94, op := _, type := _, pos := _, after := _, guard := _ }) (v := ?v94x39) rfl (by kernel_rfl) (by kernel_rfl) (by kernel_rfl) (fun _ _ _ h => h) (Or.inl ⟨by rfl, ?y94x39⟩) hHeld ?r94x39
                      case y94x39 => intro w9 hSw; go_simp <;> with_reducible rfl
                      (try simp only [Act.put, List.setIfInBounds_toArray, List.set_cons_zero, List.set_cons_succ])
                      refine wpAnyH_take (i := 3) (oi := { dst := some 95, op := _, type := _, pos := _, after := _, guard := _ }) (v := ?v95x40) rfl (by kernel_rfl) (by kernel_rfl) (by kernel_rfl) (fun _ _ _ h => h) (Or.inl ⟨by rfl, ?y95x40⟩) hHeld ?r95x40
                      case y95x40 => intro w9 hSw; have c0' := (hSw.cell (p := ⟨g, _, none⟩) hgl).trans C0.out; go_simp <;> with_reducible rfl
                      (try simp only [Act.put, List.setIfInBounds_toArray, List.set_cons_zero, List.set_cons_succ])
                      refine wpAnyH_take (i := 5) (oi := { dst := some 97, op := _, type := _, pos := _, after := _, guard := _ }) (v := ?v97x41) rfl (by kernel_rfl) (by kernel_rfl) (by kernel_rfl) (fun _ _ _ h => h) (Or.inl ⟨by rfl, ?y97x41⟩) hHeld ?r97x41
                      case y97x41 => intro w9 hSw; go_simp <;> with_reducible rfl
                      (try simp only [Act.put, List.setIfInBounds_toArray, List.set_cons_zero, List.set_cons_succ])
                      refine wpAnyH_take (i := 6) (oi := { dst := some 98, op := _, type := _, pos := _, after := _, guard := _ }) (v := ?v98x42) rfl (by kernel_rfl) (by kernel_rfl) (by kernel_rfl) (fun _ _ _ h => h) (Or.inl ⟨by rfl, ?y98x42⟩) hHeld ?r98x42
                      case y98x42 => intro w9 hSw; go_simp <;> with_reducible rfl
                      (try simp only [Act.put, List.setIfInBounds_toArray, List.set_cons_zero, List.set_cons_succ])
                      refine wpAnyH_take (i := 7) (oi := { dst := some 99, op := _, type := _, pos := _, after := _, guard := _ }) (v := ?v99x43) rfl (by kernel_rfl) (by kernel_rfl) (by kernel_rfl) (fun _ _ _ h => h) (Or.inl ⟨by rfl, ?y99x43⟩) hHeld ?r99x43
                      case y99x43 => intro w9 hSw; go_simp <;> with_reducible rfl
                      (try simp only [Act.put, List.setIfInBounds_toArray, List.set_cons_zero, List.set_cons_succ])
                      refine wpAnyH_ready (rs := [4]) (by kernel_rfl) (by simp) (AllReadyH.cons (o := { dst := some 96, op := _, type := _, pos := _, after := _, guard := _ }) rfl (fun K hK => ?_) AllReadyH.nil)
                      rw [if_pos (by rfl)]
                      go_simp
                      refine hK.out _ _ (HB0.out.alloc HB0.out.size _) (fun hHeld => ?_)
                      clear hK K
                      (try simp only [Act.put, List.setIfInBounds_toArray, List.set_cons_zero, List.set_cons_succ])
                      have O1 : Hid (OI (W0.alloc (.cells #[.int .i64 x] 2)) W0.heap.size (Value.slice (some ⟨W0.heap.size, 0, none⟩) 1 1) [x]) := Lib.hid (oi_one W0 x _ rfl)
                      have B1 : Hid (Below W0.heap.size W0 (W0.alloc (.cells #[.int .i64 x] 2))) := Lib.hid (bl_alloc _ (Below.refl _ _))
                      generalize W0.alloc (.cells #[.int .i64 x] 2) = W1 at O1 B1 hHeld ⊢
                      refine wpAnyH_ready (rs := [8]) (by kernel_rfl) (by simp) (AllReadyH.cons (o := { dst := some 100, op := _, type := _, pos := _, after := _, guard := _ }) rfl (fun K hK => ?_) AllReadyH.nil)
                      rw [if_pos (by rfl)]
                      refine wp_append_ri (.tmp 96) (.tmp 99) rfl W0.heap.size (Value.slice (some ⟨W0.heap.size, 0, none⟩) 1 1) _ [x] (D.drop j) rfl O1.out rfl (HR1.out.later B1.out) B1.out.size (by have := HP.out; rw [List.length_drop]; simp; omega) ?_
                      intro vR W2 hn hg
                      have O2 := Lib.hid hn
                      have B2 : Hid (Below W0.heap.size W0 W2) := Lib.hid (B1.out.grown hg B1.out.size (fun j e => (O1.out.lt j e).1))
                      refine hK.out _ _ (HB0.out.trans (B2.out.mono HB0.out.size)) (fun hHeld => ?_)
                      clear hn hg
                      clear hK K
                      (try simp only [Act.put, List.setIfInBounds_toArray, List.set_cons_zero, List.set_cons_succ])
                      refine wpAnyH_take (i := 9) (oi := { dst := some 11, op := _, type := _, pos := _, after := _, guard := _ }) (v := ?v11x44) rfl (by kernel_rfl) (by kernel_rfl) (by kernel_rfl) (fun _ _ _ h => h) (Or.inl ⟨by rfl, ?y11x44⟩) hHeld ?r11x44
                      case y11x44 => intro w9 hSw; go_simp <;> with_reducible rfl
                      (try simp only [Act.put, List.setIfInBounds_toArray, List.set_cons_zero, List.set_cons_succ])
                      refine wpAnyH_done (by kernel_rfl) ?_ _
                      replace HR2 : Hid (RI W2 S2 (D.take j)) := Lib.hid (HR2.out.later B2.out)
                      have HRR := Lib.hid O2.out.ri
                      have hlx : ([x] ++ D.drop j).length ≤ 5000 := by have := HP.out; rw [List.length_append, List.length_drop]; simp; omega
                      have HLX := Lib.hid hlx
                      clear hlx O1 B1 HR1 hHeld
                      have tk1 : True := trivial
                      go_wp2_with (first
                        | (with_reducible refine wpList_slice_at rfl _ _ _ _ rfl S2 (hsh _) ?_)
                        | (at_builtin; have _t := tk1; refine wpList_append_ri _ rfl _ _ rfl W2.heap.size _ S2 [] (D.take j) rfl (oi_empty W2 _ rfl) rfl (HR2.out.later (bl_alloc _ (Below.refl _ _))) (by simp) (by have := HP.out; rw [List.length_take]; simp; omega) ?_; intro v3 W3 hn hg; have O3 : Hid (OI W3 W2.heap.size v3 (D.take j)) := Lib.hid hn; have B3 : Hid (Below W2.heap.size W2 W3) := Lib.hid ((bl_alloc _ (Below.refl _ _)).grown hg (by simp) (fun j e => ((oi_empty W2 _ rfl).lt j e).1)); clear hn hg tk1)
                        | (at_builtin; refine wpList_append_ri _ rfl _ _ rfl W2.heap.size v3 vR (D.take j) ([x] ++ D.drop j) rfl O3.out rfl (HRR.out.later B3.out) B3.out.size (by have h1 := HP.out; have h2 := HLX.out; rw [List.length_take]; omega) ?_; intro v4 W4 hn hg; have O4 := Lib.hid hn; have B4 : Hid (Below W2.heap.size W2 W4) := Lib.hid (B3.out.grown hg B3.out.size (fun j e => (O3.out.lt j e).1)); clear hn hg))
                      go_roundw
                      case rel => exact ⟨k + 1, by omega, by go_num, Lib.hid ⟨by rw [HIN.out]; exact O4.out.base (Nat.le_trans HB0.out.size B2.out.size), HB0.out.trans ((B2.out.mono HB0.out.size).trans (B4.out.mono (Nat.le_trans HB0.out.size B2.out.size)))⟩⟩
                      case measure => simp [intOf]; omega
            · go_wp2_with fail
              go_ret
              exact ⟨_, rfl, by rw [HLE.out, ← List.take_of_length_le (l := L) (i := k) (by rw [HM2.out]; omega), HDE.out]; exact HE.out.own.base HB1.out.size, HB1.out.trans (HE.out.bel.mono HB1.out.size)⟩
end Go.Proofs.YtnmgcfpemmejlaaDoor
