/- The reference's set: the walk. -/
import Derived.Test.YtnmgcfpemmejlaaDoorTimesT
namespace Go.Proofs.YtnmgcfpemmejlaaDoor
open Go.RowKit Go.Lib
set_option linter.unusedVariables false

/-- One span is appended to a row of the call's own: one operation by itself. -/
theorem wp_append_os {w : World} {o : Oper} {a : Act} {K : Act → World → Prop} {Q : Exit → Act → World → Prop} (s x : Operand)
    (ho : o.op = .call { callee := .builtin .append, args := #[s, x], argTypes := #[29, 29] })
    (B g : Nat) (v : Value) (out : List Span) (p q : Int) (hs : a.eval s = v) (hown0 : OS w B v out) (hx : a.eval x = .slice (some ⟨g, 0, none⟩) 1 1) (h0 : w.cell? ⟨g, 0, none⟩ = some (.int .i64 p)) (h1 : w.cell? ⟨g, 1, none⟩ = some (.int .i64 q)) (hbase : B ≤ w.heap.size) (hl : out.length ≤ 100000)
    (h : ∀ v' w', OS w' B v' (out ++ [(p, q)]) → w.grownBy w' v.ownBlock → K (a.put o.dst v') w') : Oper.wp Tryd.prog o a w K Q := by
  obtain ⟨i, hi, hz, hsize, hby⟩ := info_parts info_span
  have hown : w.ownsRow B 32 2 v out.length (spC out) := hown0
  have hn1 : ∀ j u, [Value.int .i64 p, Value.int .i64 q][j]? = some u → w.cell? ((⟨g, 0, none⟩ : Addr).add j) = some u := fun j u hj => by
    rw [add_plain, Nat.zero_add]
    match j, hj with
    | 0, hj => cases hj; exact h0
    | 1, hj => cases hj; exact h1
  have h11 : ∀ u ∈ [Value.int .i64 p, Value.int .i64 q], u.oneCell' = true := by simp [Value.oneCell']
  obtain ⟨v', w', hr, h2, h3, _⟩ := run_append_own (P := Tryd.prog) w B 29 o.type 32 i (.agg #[.int .i64 0, .int .i64 0]) 2 16 Tryd.underlying29 hi hz hsize hby rfl (by decide) v out.length (spC out) hown ⟨g, 0, none⟩ 1 1 [.int .i64 p, .int .i64 q] rfl hn1 h11 (by unfold maxLen; omega) (by omega) hbase
  unfold Oper.wp execOp
  simp only [ho, resolve, invoke, builtin, Sem.run_bind, Sem.run_pure, Result.andThen_ok, List.map_toArray, List.map_cons, List.map_nil, hs, hx, hr]
  refine h v' w' ?_ h3
  unfold OS
  rw [spC_snoc, List.length_append]
  exact h2
/-- Before the i-th end. -/
structure SM (w1 wr : World) (a b : List Span) (E : List Int) (i : Nat) (v : Value) (out : List Span) : Prop where
  inv : SetInv a b (E.getD (i - 1) 0) out
  own : OS wr w1.heap.size v out
  bel : Below w1.heap.size w1 wr
  len : out.length ≤ i
theorem SM.step {w1 wr W : World} {a b : List Span} {E : List Int} {i : Nat} {v : Value} {out : List Span} (h : SM w1 wr a b E i v out) (hb : Below wr.heap.size wr W) : SM w1 W a b E i v out := ⟨h.inv, h.own.later hb, h.bel.trans (hb.mono h.bel.size), h.len⟩
theorem getD_pred {E : List Int} {i : Nat} (h : 1 ≤ i) : E.getD (i - 1 + 1) 0 = E.getD i 0 := by rw [show i - 1 + 1 = i by omega]
theorem SM.skip {w1 wr : World} {a b : List Span} {E : List Int} {i : Nat} {v : Value} {out : List Span} (h : SM w1 wr a b E i v out) (hE : EndsOf a b E) (h1 : 1 ≤ i) (hi : i < E.length) (hn : inB a (E.getD (i - 1) 0) = false ∨ inB b (E.getD (i - 1) 0) = true) : SM w1 wr a b E (i + 1) v out :=
  ⟨by have := hE.skip (i := i - 1) (by omega) h.inv hn; rw [getD_pred h1] at this; exact this, h.own, h.bel, by have := h.len; omega⟩
theorem SM.more {w1 wr w3 : World} {a b : List Span} {E : List Int} {i : Nat} {v v' : Value} {out : List Span} (h : SM w1 wr a b E i v out) (hE : EndsOf a b E) (h1 : 1 ≤ i) (hi : i < E.length) (ha : inB a (E.getD (i - 1) 0) = true) (hb : inB b (E.getD (i - 1) 0) = false) (hl : ∀ l s, out = l ++ [s] → s.2 ≠ E.getD (i - 1) 0) {p q : Int} (hp : E.getD (i - 1) 0 = p) (hq : E.getD i 0 = q)
    (hn : OS w3 w1.heap.size v' (out ++ [(p, q)])) (hg : wr.grownBy w3 v.ownBlock) : SM w1 w3 a b E (i + 1) v' (out ++ [(p, q)]) := by
  subst hp hq
  refine ⟨?_, hn, h.bel.grown hg h.bel.size (fun j e => (h.own.lt j e).1), by have := h.len; rw [List.length_append, List.length_singleton]; omega⟩
  have := hE.more (i := i - 1) (by omega) h.inv ha hb hl
  rw [getD_pred h1] at this
  exact this
theorem SM.grow {w1 wr : World} {a b : List Span} {E : List Int} {i g n c : Nat} {o : List Span} {x p q : Int} (h : SM w1 wr a b E i (.slice (some ⟨g, 0, none⟩) n c) (o ++ [(x, p)])) (hn : (o ++ [(x, p)]).length = n) (hE : EndsOf a b E) (h1 : 1 ≤ i) (hi : i < E.length) (ha : inB a (E.getD (i - 1) 0) = true) (hb : inB b (E.getD (i - 1) 0) = false) (hp : E.getD (i - 1) 0 = p) (hq : E.getD i 0 = q) :
    SM w1 (wr.setCell ⟨g, (n - 1) * 2 + 1, none⟩ (.int .i64 q)) a b E (i + 1) (.slice (some ⟨g, 0, none⟩) n c) (o ++ [(x, q)]) := by
  subst hp hq
  obtain ⟨k1, k2⟩ := h.own.putLast (z := E.getD i 0) hn
  refine ⟨?_, k1, h.bel.grown k2 h.bel.size (fun j e => by cases e; exact (h.own.lt g rfl).1), by have := h.len; rw [List.length_append, List.length_singleton] at this ⊢; omega⟩
  have := hE.grow (i := i - 1) (by omega) h.inv ha hb
  rw [getD_pred h1] at this
  exact this
def SetW (w : World) (a b : List Span) (e : Ending) (w' : World) : Prop := ∃ v u, e = .returned v ∧ IsSet a b u ∧ OS w' w.heap.size v u ∧ Below w.heap.size w w'
theorem ends_none {a b : List Span} (h : (ascOf (endsOf a ++ endsOf b)).length = 0) : a = [] := by
  cases a with
  | nil => rfl
  | cons s a =>
    have : s.1 ∈ ascOf (endsOf (s :: a) ++ endsOf b) := (ascOf_mem _ _).2 (by simp [endsOf])
    rw [List.eq_nil_of_length_eq_zero h] at this
    cases this
theorem isSet_nil (b : List Span) : IsSet [] b [] := ⟨Canon.nil, fun t => ⟨fun h => absurd h (hasS_nil t), fun h => absurd h.1 (hasS_nil t)⟩⟩

set_option maxRecDepth 100000 in
set_option maxHeartbeats 8000000 in
theorem set_any (v1 v2 : Value) (a b : List Span) (w : World) (hv1 : RS w v1 a) (hv2 : RS w v2 b) (hla : a.length ≤ 1000) (hlb : b.length ≤ 1000) :
    Calls Tryd.prog 43 #[v1, v2] w (SetW w a b) := by
  have HV1 := Lib.hid hv1; have HV2 := Lib.hid hv2
  clear hv1 hv2
  go_enter Tryd.func43, Tryd.ntmps43
  go_wp2_with (go_at_call 55; (with_reducible refine (ends_any v1 v2 a b _ HV1.out HV2.out hla hlb).mono ?_); rintro e w1 ⟨ve, rfl, ho, hb⟩; have OE := Lib.hid ho; have B1 := Lib.hid hb; clear ho hb)
  obtain ⟨E, hE⟩ : ∃ E, ascOf (endsOf a ++ endsOf b) = E := ⟨_, rfl⟩
  have HEO : Hid (EndsOf a b E) := Lib.hid (by rw [← hE]; exact EndsOf.made a b)
  have HE0 : Hid (E.length = 0 → a = []) := Lib.hid (by rw [← hE]; exact ends_none)
  have hel : E.length ≤ 4000 := by
    rw [← hE]; have := ascOf_len (endsOf a ++ endsOf b); rw [List.length_append, endsOf_len, endsOf_len] at this; omega
  rw [hE] at OE
  clear hE
  obtain ⟨m, hm⟩ : ∃ m, E.length = m := ⟨_, rfl⟩
  obtain ⟨A, c, rfl⟩ := OE.out.ri.len
  rw [hm] at OE hel ⊢
  have HM := Lib.hid hm
  clear hm
  have HR := Lib.hid OE.out.ri
  go_wp2_with fail
  go_loopw [6, 7, 8] (fun u i _ wr => ∃ (k : Nat) (out : List Span), 1 ≤ k ∧ k ≤ 4001 ∧ i = .int .i64 k ∧ Hid (SM w1 wr a b E k u out) ∧ Hid (k ≤ m ∨ m = 0)) (fun _ i _ _ => m - (intOf i).toNat)
  case atStart => exact ⟨1, [], by omega, by omega, rfl, Lib.hid ⟨HEO.out.start, OS.nil _ _, Below.refl _ _, by simp⟩, Lib.hid (by omega)⟩
  case round =>
    obtain ⟨k, out, hk1, hk, rfl, HS, HK⟩ := hrel
    obtain ⟨U, cu, rfl⟩ := HS.out.own.len
    obtain ⟨n, hn⟩ : ∃ n, out.length = n := ⟨_, rfl⟩
    have hn5 : n ≤ 5000 := by rw [← hn]; have := HS.out.len; omega
    have HN := Lib.hid hn
    rw [hn] at HS ⊢
    clear hn
    by_cases hlt : k < m
    · obtain ⟨g, off, rfl, hgl, e0⟩ := (HR.out.later HS.out.bel).num HM.out (i := k - 1) (by omega)
      obtain ⟨g2, off2, e, _, e1⟩ := (HR.out.later HS.out.bel).num HM.out hlt
      simp only [Option.some.injEq, Addr.mk.injEq, and_true] at e
      obtain ⟨rfl, rfl⟩ := e
      obtain ⟨g3, off3, e, hg1, e2⟩ := HR.out.num HM.out (i := k - 1) (by omega)
      simp only [Option.some.injEq, Addr.mk.injEq, and_true] at e
      obtain ⟨rfl, rfl⟩ := e
      obtain ⟨g4, off4, e, _, e3⟩ := HR.out.num HM.out hlt
      simp only [Option.some.injEq, Addr.mk.injEq, and_true] at e
      obtain ⟨rfl, rfl⟩ := e
      obtain ⟨p, hp⟩ : ∃ p, E.getD (k - 1) 0 = p := ⟨_, rfl⟩
      obtain ⟨q, hq⟩ : ∃ q, E.getD k 0 = q := ⟨_, rfl⟩
      rw [hp] at e0 e2; rw [hq] at e1 e3
      have C0 := Lib.hid e2; have C1 := Lib.hid e3
      clear e2 e3
      obtain ⟨ba, hba⟩ : ∃ ba, inB a p = ba := ⟨_, rfl⟩
      obtain ⟨bb, hbb⟩ : ∃ bb, inB b p = bb := ⟨_, rfl⟩
      have HP := Lib.hid hp; have HQ := Lib.hid hq; have HBA := Lib.hid hba; have HBB := Lib.hid hbb
      have HKE : Hid (k < E.length) := Lib.hid (by rw [HM.out]; exact hlt)
      clear hp hq hba hbb
      have i1 : IntKind.i64.wrap ((k : Int) - 1) = (k : Int) - 1 := IntWalk.i64_in _ (by omega)
      have i2 : (0 : Int) ≤ (k : Int) - 1 := by omega
      have i3 : (k : Int) - 1 < (m : Int) := by omega
      have i4 : (0 : Int) ≤ (k : Int) := by omega
      have i5 : (k : Int) < (m : Int) := by omega
      have i6 : (1 : Int) ≤ (k : Int) := by omega
      have HA1 : Hid (RS wr v1 a) := Lib.hid ((HV1.out.later B1.out).later ((HS.out.bel)))
      have HA2 : Hid (RS wr v2 b) := Lib.hid ((HV2.out.later B1.out).later ((HS.out.bel)))
      have tk1 : True := trivial
      cases ba with
      | false =>
        have HSK := Lib.hid (HS.out.skip HEO.out hk1 HKE.out (.inl (by rw [HP.out]; exact HBA.out)))
        go_wp2_with (go_at_call 35; (with_reducible refine (in_any v1 a p _ HA1.out).mono ?_); rintro e w' ⟨rfl, rfl⟩; rw [HBA.out])
        go_roundw
        case rel => exact ⟨k + 1, out, by omega, by omega, by go_num, HSK, Lib.hid (by omega)⟩
        case measure => simp [intOf]; omega
      | true =>
        cases bb with
        | true =>
          have HSK := Lib.hid (HS.out.skip HEO.out hk1 HKE.out (.inr (by rw [HP.out]; exact HBB.out)))
          go_wp2_with (first
            | (go_at_call 35; have _t := tk1; (with_reducible refine (in_any v1 a p _ HA1.out).mono ?_); rintro e w' ⟨rfl, rfl⟩; rw [HBA.out]; clear tk1)
            | (go_at_call 35; (with_reducible refine (in_any v2 b p _ HA2.out).mono ?_); rintro e w' ⟨rfl, rfl⟩; rw [HBB.out]))
          go_roundw
          case rel => exact ⟨k + 1, out, by omega, by omega, by go_num, HSK, Lib.hid (by omega)⟩
          case measure => simp [intOf]; omega
        | false =>
          go_upto_region 8 with (first
            | (go_at_call 35; have _t := tk1; (with_reducible refine (in_any v1 a p _ HA1.out).mono ?_); rintro e w' ⟨rfl, rfl⟩; rw [HBA.out]; clear tk1)
            | (go_at_call 35; (with_reducible refine (in_any v2 b p _ HA2.out).mono ?_); rintro e w' ⟨rfl, rfl⟩; rw [HBB.out]))
          rcases List.eq_nil_or_concat out with rfl | ⟨o, ⟨x, y⟩, rfl⟩
          · have hm0 : n ≤ 0 := by have := HN.out; simp at this; omega
            have d1 : decide ((0 : Int) ≤ (n : Int) - 1) = false := by simp; omega
            have d2 : decide ((1 : Int) ≤ (n : Int)) = false := by simp; omega
            go_quiet (fail)
            go_wp2_with fail
            obtain ⟨W3, hW3⟩ : ∃ W, wr.drewN nq = W := ⟨_, rfl⟩
            have HS3 : Hid (SM w1 W3 a b E k (Value.slice U n cu) []) := Lib.hid (by rw [← hW3]; exact HS.out.step (bl_drewN _ (Below.refl _ _)))
            rw [hW3]
            clear hW3 HS HA1 HA2 e0 e1
            have HB0 : Hid (Below w1.heap.size w1 W3.drew) := Lib.hid (HS3.out.bel.trans ((bl_drew (Below.refl _ _)).mono HS3.out.bel.size))
            have HS4 : Hid (SM w1 W3.drew a b E k (Value.slice U n cu) []) := Lib.hid (HS3.out.step (bl_drew (Below.refl _ _)))
            refine wp_region_held_drew (S := fun W => Below w1.heap.size w1 W) (by kernel_rfl) HB0.out (fun hHeld => ?_)
            generalize W3.drew = W0 at HB0 HS4 hHeld ⊢
            refine wpAnyH_take (i := 0) (oi := { dst := some 61, op := _, type := _, pos := _, after := _, guard := _ }) (v := ?v61x1) rfl (by kernel_rfl) (by kernel_rfl) (by kernel_rfl) (fun _ _ _ h => h) (Or.inl ⟨by rfl, ?y61x1⟩) hHeld ?r61x1
            case y61x1 => intro w9 hSw; go_simp <;> with_reducible rfl
            (try simp only [Act.put, List.setIfInBounds_toArray, List.set_cons_zero, List.set_cons_succ])
            refine wpAnyH_take (i := 1) (oi := { dst := some 62, op := _, type := _, pos := _, after := _, guard := _ }) (v := ?v62x2) rfl (by kernel_rfl) (by kernel_rfl) (by kernel_rfl) (fun _ _ _ h => h) (Or.inl ⟨by rfl, ?y62x2⟩) hHeld ?r62x2
            case y62x2 => intro w9 hSw; go_simp <;> with_reducible rfl
            (try simp only [Act.put, List.setIfInBounds_toArray, List.set_cons_zero, List.set_cons_succ])
            refine wpAnyH_take (i := 2) (oi := { dst := some 63, op := _, type := _, pos := _, after := _, guard := _ }) (v := ?v63x3) rfl (by kernel_rfl) (by kernel_rfl) (by kernel_rfl) (fun _ _ _ h => h) (Or.inl ⟨by rfl, ?y63x3⟩) hHeld ?r63x3
            case y63x3 => intro w9 hSw; go_simp <;> with_reducible rfl
            (try simp only [Act.put, List.setIfInBounds_toArray, List.set_cons_zero, List.set_cons_succ])
            refine wpAnyH_take (i := 3) (oi := { dst := some 64, op := _, type := _, pos := _, after := _, guard := _ }) (v := ?v64x4) rfl (by kernel_rfl) (by kernel_rfl) (by kernel_rfl) (fun _ _ _ h => h) (Or.inl ⟨by rfl, ?y64x4⟩) hHeld ?r64x4
            case y64x4 => intro w9 hSw; go_simp <;> with_reducible rfl
            (try simp only [Act.put, List.setIfInBounds_toArray, List.set_cons_zero, List.set_cons_succ])
            refine wpAnyH_take (i := 4) (oi := { dst := some 65, op := _, type := _, pos := _, after := _, guard := _ }) (v := ?v65x5) rfl (by kernel_rfl) (by kernel_rfl) (by kernel_rfl) (fun _ _ _ h => h) (Or.inl ⟨by rfl, ?y65x5⟩) hHeld ?r65x5
            case y65x5 => intro w9 hSw; go_simp <;> with_reducible rfl
            (try simp only [Act.put, List.setIfInBounds_toArray, List.set_cons_zero, List.set_cons_succ])
            refine wpAnyH_take (i := 5) (oi := { dst := some 66, op := _, type := _, pos := _, after := _, guard := _ }) (v := ?v66x6) rfl (by kernel_rfl) (by kernel_rfl) (by kernel_rfl) (fun _ _ _ h => h) (Or.inl ⟨by rfl, ?y66x6⟩) hHeld ?r66x6
            case y66x6 => intro w9 hSw; have c0' := (hSw.cell (p := ⟨g, _, none⟩) hg1).trans C0.out; have c1' := (hSw.cell (p := ⟨g, _, none⟩) hg1).trans C1.out; go_simp <;> with_reducible rfl
            (try simp only [Act.put, List.setIfInBounds_toArray, List.set_cons_zero, List.set_cons_succ])
            refine wpAnyH_take (i := 6) (oi := { dst := some 67, op := _, type := _, pos := _, after := _, guard := _ }) (v := ?v67x7) rfl (by kernel_rfl) (by kernel_rfl) (by kernel_rfl) (fun _ _ _ h => h) (Or.inl ⟨by rfl, ?y67x7⟩) hHeld ?r67x7
            case y67x7 => intro w9 hSw; go_simp <;> with_reducible rfl
            (try simp only [Act.put, List.setIfInBounds_toArray, List.set_cons_zero, List.set_cons_succ])
            refine wpAnyH_take (i := 7) (oi := { dst := some 68, op := _, type := _, pos := _, after := _, guard := _ }) (v := ?v68x8) rfl (by kernel_rfl) (by kernel_rfl) (by kernel_rfl) (fun _ _ _ h => h) (Or.inl ⟨by rfl, ?y68x8⟩) hHeld ?r68x8
            case y68x8 => intro w9 hSw; go_simp <;> with_reducible rfl
            (try simp only [Act.put, List.setIfInBounds_toArray, List.set_cons_zero, List.set_cons_succ])
            refine wpAnyH_take (i := 8) (oi := { dst := some 69, op := _, type := _, pos := _, after := _, guard := _ }) (v := ?v69x9) rfl (by kernel_rfl) (by kernel_rfl) (by kernel_rfl) (fun _ _ _ h => h) (Or.inl ⟨by rfl, ?y69x9⟩) hHeld ?r69x9
            case y69x9 => intro w9 hSw; go_simp <;> with_reducible rfl
            (try simp only [Act.put, List.setIfInBounds_toArray, List.set_cons_zero, List.set_cons_succ])
            refine wpAnyH_take (i := 9) (oi := { dst := some 70, op := _, type := _, pos := _, after := _, guard := _ }) (v := ?v70x10) rfl (by kernel_rfl) (by kernel_rfl) (by kernel_rfl) (fun _ _ _ h => h) (Or.inl ⟨by rfl, ?y70x10⟩) hHeld ?r70x10
            case y70x10 => intro w9 hSw; have c0' := (hSw.cell (p := ⟨g, _, none⟩) hg1).trans C0.out; have c1' := (hSw.cell (p := ⟨g, _, none⟩) hg1).trans C1.out; go_simp <;> with_reducible rfl
            (try simp only [Act.put, List.setIfInBounds_toArray, List.set_cons_zero, List.set_cons_succ])
            refine wpAnyH_take (i := 10) (oi := { dst := some 71, op := _, type := _, pos := _, after := _, guard := _ }) (v := ?v71x11) rfl (by kernel_rfl) (by kernel_rfl) (by kernel_rfl) (fun _ _ _ h => h) (Or.inl ⟨by rfl, ?y71x11⟩) hHeld ?r71x11
            case y71x11 => intro w9 hSw; go_simp <;> with_reducible rfl
            (try simp only [Act.put, List.setIfInBounds_toArray, List.set_cons_zero, List.set_cons_succ])
            refine wpAnyH_ready (rs := [11]) (by kernel_rfl) (by simp) (AllReadyH.cons (o := { dst := some 72, op := _, type := _, pos := _, after := _, guard := _ }) rfl (fun K hK => ?_) AllReadyH.nil)
            rw [if_pos (by rfl)]
            go_simp
            refine hK.out _ _ (HB0.out.alloc HB0.out.size _) (fun hHeld => ?_)
            clear hK K
            (try simp only [Act.put, List.setIfInBounds_toArray, List.set_cons_zero, List.set_cons_succ])
            have HS5 : Hid (SM w1 (W0.alloc (.cells #[.int .i64 p, .int .i64 q] 32)) a b E k (Value.slice U n cu) []) := Lib.hid (HS4.out.step (bl_alloc _ (Below.refl _ _)))
            have K0 : Hid ((W0.alloc (.cells #[.int .i64 p, .int .i64 q] 32)).cell? ⟨W0.heap.size, 0, none⟩ = some (.int .i64 p) ∧ (W0.alloc (.cells #[.int .i64 p, .int .i64 q] 32)).cell? ⟨W0.heap.size, 1, none⟩ = some (.int .i64 q)) := Lib.hid ⟨new_cell _ _ _ _ _ rfl, new_cell _ _ _ _ _ rfl⟩
            generalize W0.alloc (.cells #[.int .i64 p, .int .i64 q] 32) = W1 at HS5 K0 hHeld ⊢
            refine wpAnyH_ready (rs := [12]) (by kernel_rfl) (by simp) (AllReadyH.cons (o := { dst := some 73, op := _, type := _, pos := _, after := _, guard := _ }) rfl (fun K hK => ?_) AllReadyH.nil)
            rw [if_pos (by rfl)]
            refine wp_append_os (.tmp 61) (.tmp 72) rfl w1.heap.size W0.heap.size (Value.slice U n cu) [] p q rfl HS5.out.own rfl K0.out.1 K0.out.2 HS5.out.bel.size (by have := HN.out; omega) ?_
            intro v6 W6 hn hg
            have HS6 : Hid (SM w1 W6 a b E (k + 1) v6 ([] ++ [(p, q)])) := Lib.hid (HS5.out.more HEO.out hk1 HKE.out (by rw [HP.out]; exact HBA.out) (by rw [HP.out]; exact HBB.out) (fun l s e => by simp at e) HP.out HQ.out hn hg)
            refine hK.out _ _ HS6.out.bel (fun hHeld => ?_)
            clear hn hg
            clear hK K
            (try simp only [Act.put, List.setIfInBounds_toArray, List.set_cons_zero, List.set_cons_succ])
            refine wpAnyH_take (i := 13) (oi := { dst := some 6, op := _, type := _, pos := _, after := _, guard := _ }) (v := ?v6x12) rfl (by kernel_rfl) (by kernel_rfl) (by kernel_rfl) (fun _ _ _ h => h) (Or.inl ⟨by rfl, ?y6x12⟩) hHeld ?r6x12
            case y6x12 => intro w9 hSw; go_simp <;> with_reducible rfl
            (try simp only [Act.put, List.setIfInBounds_toArray, List.set_cons_zero, List.set_cons_succ])
            refine wpAnyH_done (by kernel_rfl) ?_ _
            go_wp2_with fail
            go_roundw
            case rel => exact ⟨k + 1, _, by omega, by omega, by go_num, HS6, Lib.hid (by omega)⟩
            case measure => simp [intOf]; omega
          · rw [List.concat_eq_append] at *
            have hm1 : 1 ≤ n := by have := HN.out; simp at this; omega
            have d1 : decide ((0 : Int) ≤ (n : Int) - 1) = true := by simp; omega
            have d2 : decide ((1 : Int) ≤ (n : Int)) = true := by simp; omega
            obtain ⟨gu, rfl, hgu, hgl2, u0, u1, f1⟩ := HS.out.own.last HN.out
            by_cases hyp : y = p
            · have f2 : (y == p) = true := by simpa using hyp
              have HYP := Lib.hid hyp
              clear hyp
              go_quiet (fail)
              obtain ⟨W3, hW3⟩ : ∃ W, wr.drewN nq = W := ⟨_, rfl⟩
              have HS3 : Hid (SM w1 W3 a b E k (Value.slice (some ⟨gu, 0, none⟩) n cu) (o ++ [(x, y)])) := Lib.hid (by rw [← hW3]; exact HS.out.step (bl_drewN _ (Below.refl _ _)))
              rw [hW3]
              clear hW3 HS HA1 HA2 e0 e1 u0 u1 f1 hgl2
              obtain ⟨gu', hgu', _, hgl3, u0, u1, f1⟩ := HS3.out.own.last HN.out
              simp only [Option.some.injEq, Addr.mk.injEq, and_true] at hgu'
              subst hgu'
              have e0 := (HS3.out.bel.cell (p := ⟨g, _, none⟩) hg1).trans C0.out
              have e1 := (HS3.out.bel.cell (p := ⟨g, _, none⟩) hg1).trans C1.out
              go_wp2_with fail
              go_roundw
              case rel =>
                rw [HYP.out] at HS3 HN
                exact ⟨k + 1, _, by omega, by omega, by go_num, Lib.hid (HS3.out.grow HN.out HEO.out hk1 HKE.out (by rw [HP.out]; exact HBA.out) (by rw [HP.out]; exact HBB.out) HP.out HQ.out), Lib.hid (by omega)⟩
              case measure => simp [intOf]; omega
            · have f2 : (y == p) = false := by simpa using hyp
              have f3 : (y != p) = true := by simpa using hyp
              go_quiet (fail)
              go_wp2_with fail
              obtain ⟨W3, hW3⟩ : ∃ W, wr.drewN nq = W := ⟨_, rfl⟩
              have HS3 : Hid (SM w1 W3 a b E k (Value.slice (some ⟨gu, 0, none⟩) n cu) (o ++ [(x, y)])) := Lib.hid (by rw [← hW3]; exact HS.out.step (bl_drewN _ (Below.refl _ _)))
              rw [hW3]
              clear hW3 HS HA1 HA2 e0 e1 u0 u1 f1
              have HB0 : Hid (Below w1.heap.size w1 W3.drew) := Lib.hid (HS3.out.bel.trans ((bl_drew (Below.refl _ _)).mono HS3.out.bel.size))
              have HS4 : Hid (SM w1 W3.drew a b E k (Value.slice (some ⟨gu, 0, none⟩) n cu) (o ++ [(x, y)])) := Lib.hid (HS3.out.step (bl_drew (Below.refl _ _)))
              refine wp_region_held_drew (S := fun W => Below w1.heap.size w1 W) (by kernel_rfl) HB0.out (fun hHeld => ?_)
              generalize W3.drew = W0 at HB0 HS4 hHeld ⊢
              refine wpAnyH_take (i := 0) (oi := { dst := some 61, op := _, type := _, pos := _, after := _, guard := _ }) (v := ?v61x13) rfl (by kernel_rfl) (by kernel_rfl) (by kernel_rfl) (fun _ _ _ h => h) (Or.inl ⟨by rfl, ?y61x13⟩) hHeld ?r61x13
              case y61x13 => intro w9 hSw; go_simp <;> with_reducible rfl
              (try simp only [Act.put, List.setIfInBounds_toArray, List.set_cons_zero, List.set_cons_succ])
              refine wpAnyH_take (i := 1) (oi := { dst := some 62, op := _, type := _, pos := _, after := _, guard := _ }) (v := ?v62x14) rfl (by kernel_rfl) (by kernel_rfl) (by kernel_rfl) (fun _ _ _ h => h) (Or.inl ⟨by rfl, ?y62x14⟩) hHeld ?r62x14
              case y62x14 => intro w9 hSw; go_simp <;> with_reducible rfl
              (try simp only [Act.put, List.setIfInBounds_toArray, List.set_cons_zero, List.set_cons_succ])
              refine wpAnyH_take (i := 2) (oi := { dst := some 63, op := _, type := _, pos := _, after := _, guard := _ }) (v := ?v63x15) rfl (by kernel_rfl) (by kernel_rfl) (by kernel_rfl) (fun _ _ _ h => h) (Or.inl ⟨by rfl, ?y63x15⟩) hHeld ?r63x15
              case y63x15 => intro w9 hSw; go_simp <;> with_reducible rfl
              (try simp only [Act.put, List.setIfInBounds_toArray, List.set_cons_zero, List.set_cons_succ])
              refine wpAnyH_take (i := 3) (oi := { dst := some 64, op := _, type := _, pos := _, after := _, guard := _ }) (v := ?v64x16) rfl (by kernel_rfl) (by kernel_rfl) (by kernel_rfl) (fun _ _ _ h => h) (Or.inl ⟨by rfl, ?y64x16⟩) hHeld ?r64x16
              case y64x16 => intro w9 hSw; go_simp <;> with_reducible rfl
              (try simp only [Act.put, List.setIfInBounds_toArray, List.set_cons_zero, List.set_cons_succ])
              refine wpAnyH_take (i := 4) (oi := { dst := some 65, op := _, type := _, pos := _, after := _, guard := _ }) (v := ?v65x17) rfl (by kernel_rfl) (by kernel_rfl) (by kernel_rfl) (fun _ _ _ h => h) (Or.inl ⟨by rfl, ?y65x17⟩) hHeld ?r65x17
              case y65x17 => intro w9 hSw; go_simp <;> with_reducible rfl
              (try simp only [Act.put, List.setIfInBounds_toArray, List.set_cons_zero, List.set_cons_succ])
              refine wpAnyH_take (i := 5) (oi := { dst := some 66, op := _, type := _, pos := _, after := _, guard := _ }) (v := ?v66x18) rfl (by kernel_rfl) (by kernel_rfl) (by kernel_rfl) (fun _ _ _ h => h) (Or.inl ⟨by rfl, ?y66x18⟩) hHeld ?r66x18
              case y66x18 => intro w9 hSw; have c0' := (hSw.cell (p := ⟨g, _, none⟩) hg1).trans C0.out; have c1' := (hSw.cell (p := ⟨g, _, none⟩) hg1).trans C1.out; go_simp <;> with_reducible rfl
              (try simp only [Act.put, List.setIfInBounds_toArray, List.set_cons_zero, List.set_cons_succ])
              refine wpAnyH_take (i := 6) (oi := { dst := some 67, op := _, type := _, pos := _, after := _, guard := _ }) (v := ?v67x19) rfl (by kernel_rfl) (by kernel_rfl) (by kernel_rfl) (fun _ _ _ h => h) (Or.inl ⟨by rfl, ?y67x19⟩) hHeld ?r67x19
              case y67x19 => intro w9 hSw; go_simp <;> with_reducible rfl
              (try simp only [Act.put, List.setIfInBounds_toArray, List.set_cons_zero, List.set_cons_succ])
              refine wpAnyH_take (i := 7) (oi := { dst := some 68, op := _, type := _, pos := _, after := _, guard := _ }) (v := ?v68x20) rfl (by kernel_rfl) (by kernel_rfl) (by kernel_rfl) (fun _ _ _ h => h) (Or.inl ⟨by rfl, ?y68x20⟩) hHeld ?r68x20
              case y68x20 => intro w9 hSw; go_simp <;> with_reducible rfl
              (try simp only [Act.put, List.setIfInBounds_toArray, List.set_cons_zero, List.set_cons_succ])
              refine wpAnyH_take (i := 8) (oi := { dst := some 69, op := _, type := _, pos := _, after := _, guard := _ }) (v := ?v69x21) rfl (by kernel_rfl) (by kernel_rfl) (by kernel_rfl) (fun _ _ _ h => h) (Or.inl ⟨by rfl, ?y69x21⟩) hHeld ?r69x21
              case y69x21 => intro w9 hSw; go_simp <;> with_reducible rfl
              (try simp only [Act.put, List.setIfInBounds_toArray, List.set_cons_zero, List.set_cons_succ])
              refine wpAnyH_take (i := 9) (oi := { dst := some 70, op := _, type := _, pos := _, after := _, guard := _ }) (v := ?v70x22) rfl (by kernel_rfl) (by kernel_rfl) (by kernel_rfl) (fun _ _ _ h => h) (Or.inl ⟨by rfl, ?y70x22⟩) hHeld ?r70x22
              case y70x22 => intro w9 hSw; have c0' := (hSw.cell (p := ⟨g, _, none⟩) hg1).trans C0.out; have c1' := (hSw.cell (p := ⟨g, _, none⟩) hg1).trans C1.out; go_simp <;> with_reducible rfl
              (try simp only [Act.put, List.setIfInBounds_toArray, List.set_cons_zero, List.set_cons_succ])
              refine wpAnyH_take (i := 10) (oi := { dst := some 71, op := _, type := _, pos := _, after := _, guard := _ }) (v := ?v71x23) rfl (by kernel_rfl) (by kernel_rfl) (by kernel_rfl) (fun _ _ _ h => h) (Or.inl ⟨by rfl, ?y71x23⟩) hHeld ?r71x23
              case y71x23 => intro w9 hSw; go_simp <;> with_reducible rfl
              (try simp only [Act.put, List.setIfInBounds_toArray, List.set_cons_zero, List.set_cons_succ])
              refine wpAnyH_ready (rs := [11]) (by kernel_rfl) (by simp) (AllReadyH.cons (o := { dst := some 72, op := _, type := _, pos := _, after := _, guard := _ }) rfl (fun K hK => ?_) AllReadyH.nil)
              rw [if_pos (by rfl)]
              go_simp
              refine hK.out _ _ (HB0.out.alloc HB0.out.size _) (fun hHeld => ?_)
              clear hK K
              (try simp only [Act.put, List.setIfInBounds_toArray, List.set_cons_zero, List.set_cons_succ])
              have HS5 : Hid (SM w1 (W0.alloc (.cells #[.int .i64 p, .int .i64 q] 32)) a b E k (Value.slice (some ⟨gu, 0, none⟩) n cu) (o ++ [(x, y)])) := Lib.hid (HS4.out.step (bl_alloc _ (Below.refl _ _)))
              have K0 : Hid ((W0.alloc (.cells #[.int .i64 p, .int .i64 q] 32)).cell? ⟨W0.heap.size, 0, none⟩ = some (.int .i64 p) ∧ (W0.alloc (.cells #[.int .i64 p, .int .i64 q] 32)).cell? ⟨W0.heap.size, 1, none⟩ = some (.int .i64 q)) := Lib.hid ⟨new_cell _ _ _ _ _ rfl, new_cell _ _ _ _ _ rfl⟩
              generalize W0.alloc (.cells #[.int .i64 p, .int .i64 q] 32) = W1 at HS5 K0 hHeld ⊢
              refine wpAnyH_ready (rs := [12]) (by kernel_rfl) (by simp) (AllReadyH.cons (o := { dst := some 73, op := _, type := _, pos := _, after := _, guard := _ }) rfl (fun K hK => ?_) AllReadyH.nil)
              rw [if_pos (by rfl)]
              refine wp_append_os (.tmp 61) (.tmp 72) rfl w1.heap.size W0.heap.size (Value.slice (some ⟨gu, 0, none⟩) n cu) (o ++ [(x, y)]) p q rfl HS5.out.own rfl K0.out.1 K0.out.2 HS5.out.bel.size (by have := HN.out; omega) ?_
              intro v6 W6 hn hg
              have HS6 : Hid (SM w1 W6 a b E (k + 1) v6 ((o ++ [(x, y)]) ++ [(p, q)])) := Lib.hid (HS5.out.more HEO.out hk1 HKE.out (by rw [HP.out]; exact HBA.out) (by rw [HP.out]; exact HBB.out) (fun l s e => by obtain ⟨_, e⟩ := List.append_inj' e rfl; simp at e; rw [← e, HP.out]; exact hyp) HP.out HQ.out hn hg)
              refine hK.out _ _ HS6.out.bel (fun hHeld => ?_)
              clear hn hg
              clear hK K
              (try simp only [Act.put, List.setIfInBounds_toArray, List.set_cons_zero, List.set_cons_succ])
              refine wpAnyH_take (i := 13) (oi := { dst := some 6, op := _, type := _, pos := _, after := _, guard := _ }) (v := ?v6x24) rfl (by kernel_rfl) (by kernel_rfl) (by kernel_rfl) (fun _ _ _ h => h) (Or.inl ⟨by rfl, ?y6x24⟩) hHeld ?r6x24
              case y6x24 => intro w9 hSw; go_simp <;> with_reducible rfl
              (try simp only [Act.put, List.setIfInBounds_toArray, List.set_cons_zero, List.set_cons_succ])
              refine wpAnyH_done (by kernel_rfl) ?_ _
              go_wp2_with fail
              go_roundw
              case rel => exact ⟨k + 1, _, by omega, by omega, by go_num, HS6, Lib.hid (by omega)⟩
              case measure => simp [intOf]; omega
    · go_wp2_with fail
      go_ret
      refine ⟨_, out, rfl, ?_, HS.out.own.base B1.out.size, B1.out.trans (HS.out.bel.mono B1.out.size)⟩
      by_cases hm0 : m = 0
      · obtain rfl := HE0.out (HM.out.trans hm0)
        exact ⟨HS.out.inv.can, fun t => ⟨fun h => ((HS.out.inv.mem t).1 h).2, fun h => absurd h.1 (hasS_nil t)⟩⟩
      · have hkm : k = E.length := by have h1 := HK.out; have h2 := HM.out; omega
        refine HEO.out.done ?_
        have := HS.out.inv
        rwa [hkm] at this
end Go.Proofs.YtnmgcfpemmejlaaDoor
