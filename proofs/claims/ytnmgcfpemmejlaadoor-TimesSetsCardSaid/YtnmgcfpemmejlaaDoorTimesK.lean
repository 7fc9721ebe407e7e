/- Union, Minus and Total. -/
import Derived.Test.YtnmgcfpemmejlaaDoorTimesJ
namespace Go.Proofs.YtnmgcfpemmejlaaDoor
open Go.RowKit Go.Lib
set_option linter.unusedVariables false

/-- A list and an error: what Minus and Union return. -/
def SetR (w : World) (a b : List Span) (e : Ending) (w' : World) : Prop := ∃ v u, e = .returned (.tuple #[v, .int .i64 (errS a b)]) ∧ (errS a b = 0 → IsSet a b u) ∧ (errS a b ≠ 0 → u = []) ∧ RS w' v u ∧ Below w.heap.size w w'
theorem ret_vn {v : Value} {a b : Int} (h : a = b) : Ending.returned (.tuple #[v, .int .i64 a]) = .returned (.tuple #[v, .int .i64 b]) := by rw [h]
theorem ok_all {a b : List Span} (h : errS a b = 0) : (a.length ≤ 100000 ∧ b.length ≤ 100000) ∧ (∀ s ∈ a, s.1 < s.2) ∧ ∀ s ∈ b, s.1 < s.2 := by
  obtain ⟨h1, h2, h3⟩ := errS_ok.1 h
  exact ⟨by omega, fun s hs => (h2 s hs).2, fun s hs => (h3 s hs).2⟩
set_option maxRecDepth 20000 in
set_option maxHeartbeats 4000000 in
theorem union_any (v : Value) (a : List Span) (w : World) (hv : RS w v a) (h64 : ∀ s ∈ a, S64 s) : Calls Tryd.prog 24 #[v] w (SetR w a []) := by
  obtain ⟨r, hr⟩ : ∃ r, errS a [] = r := ⟨_, rfl⟩
  obtain ⟨A0, c0, rfl⟩ := hv.len
  obtain ⟨n0, hn0⟩ : ∃ n0, a.length = n0 := ⟨_, rfl⟩
  rw [hn0] at hv ⊢
  clear hn0
  have HV := Lib.hid hv; have H64 := Lib.hid h64; have HR := Lib.hid hr
  clear hv h64
  by_cases h0 : r = 0
  · subst h0
    have HO := Lib.hid (ok_all hr)
    clear hr
    go_enter Tryd.func24, Tryd.ntmps24
    go_wp2_with (first
      | (go_at_call 39; (with_reducible refine (checkLists1 _ a 0 _ _ _ (by simp) HV.out H64.out HR.out).mono ?_); rintro e w1 ⟨rfl, hb⟩; have B1 := Lib.hid (bl_call (bl_alloc _ (Below.refl _ _)) hb); clear hb)
      | (go_at_call 40; (with_reducible refine (joined_any _ a _ (HV.out.later B1.out) HO.out.1.1 HO.out.2.1 H64.out).mono ?_); rintro e w2 ⟨v2, u, rfl, hs, hl, ho, hb⟩; have B2 := Lib.hid (bl_call B1.out hb); have HS := Lib.hid hs; have O2 := Lib.hid ho; clear hs hl ho hb))
    go_ret2
    exact ⟨v2, u, ret_vn HR.out.symm, fun _ => HS.out, fun h => absurd HR.out h, O2.out.rs, B2.out⟩
  · have h1 : (r == 0) = false := by simpa using h0
    have h2 : (r != 0) = true := by simpa using h0
    have H0 := Lib.hid h0
    clear hr h0
    go_enter Tryd.func24, Tryd.ntmps24
    go_wp2_with (go_at_call 39; (with_reducible refine (checkLists1 _ a r _ _ _ (by simp) HV.out H64.out HR.out).mono ?_); rintro e w1 ⟨rfl, hb⟩; have B1 := Lib.hid (bl_call (bl_alloc _ (Below.refl _ _)) hb); clear hb)
    go_ret2
    exact ⟨_, [], ret_vn HR.out.symm, fun h => absurd (HR.out.symm.trans h) H0.out, fun _ => rfl, RS.nil _, B1.out⟩

/-- After k spans of what a has: what is left. -/
structure MM (w3 wr : World) (U W : List Span) (k : Nat) (v : Value) (out : List Span) : Prop where
  inv : MinusInv U W k out
  own : OS wr w3.heap.size v out
  bel : Below w3.heap.size w3 wr
theorem Canon.at {U : List Span} (h : Canon U) {k : Nat} {x y : Int} (hk : U[k]? = some (x, y)) : x < y := h.ok _ (List.mem_of_getElem? hk)
set_option maxRecDepth 20000 in
set_option maxHeartbeats 8000000 in
theorem minus_any (v1 v2 : Value) (a b : List Span) (w : World) (hv1 : RS w v1 a) (hv2 : RS w v2 b) (h64 : ∀ s ∈ a, S64 s) (k64 : ∀ s ∈ b, S64 s) : Calls Tryd.prog 26 #[v1, v2] w (SetR w a b) := by
  obtain ⟨r, hr⟩ : ∃ r, errS a b = r := ⟨_, rfl⟩
  obtain ⟨A1, c1', rfl⟩ := hv1.len
  obtain ⟨n1, hn1⟩ : ∃ n0, a.length = n0 := ⟨_, rfl⟩
  rw [hn1] at hv1 ⊢
  obtain ⟨A2, c2', rfl⟩ := hv2.len
  obtain ⟨n2, hn2⟩ : ∃ n0, b.length = n0 := ⟨_, rfl⟩
  rw [hn2] at hv2 ⊢
  clear hn1 hn2
  have HV1 := Lib.hid hv1; have HV2 := Lib.hid hv2; have H64 := Lib.hid h64; have K64 := Lib.hid k64; have HR := Lib.hid hr
  clear hv1 hv2 h64 k64
  have tk1 : True := trivial
  by_cases h0 : r = 0
  · subst h0
    have HO := Lib.hid (ok_all hr)
    have HLE := Lib.hid (errS_ok.1 hr).1
    clear hr
    go_enter Tryd.func26, Tryd.ntmps26
    go_wp2_with (first
      | (go_at_call 39; (with_reducible refine (checkLists2 _ _ a b 0 _ _ _ (by simp) HV1.out HV2.out H64.out K64.out HR.out).mono ?_); rintro e w1 ⟨rfl, hb⟩; have B1 := Lib.hid (bl_call (bl_alloc _ (Below.refl _ _)) hb); clear hb)
      | (go_at_call 40; have _t := tk1; (with_reducible refine (joined_any _ b _ (HV2.out.later B1.out) HO.out.1.2 HO.out.2.2 K64.out).mono ?_); rintro e w2 ⟨u2, W, rfl, hs, hl, ho, hb⟩; have B2 := Lib.hid (bl_call B1.out hb); have HS2 := Lib.hid hs; have O2 := Lib.hid ho; have L2 := Lib.hid hl; clear hs hl ho hb tk1)
      | (go_at_call 40; (with_reducible refine (joined_any _ a _ (HV1.out.later B2.out) HO.out.1.1 HO.out.2.1 H64.out).mono ?_); rintro e w3 ⟨u3, U, rfl, hs, hl, ho, hb⟩; have B3 := Lib.hid (bl_call B2.out hb); replace O2 := Lib.hid (O2.out.later hb); have HS3 := Lib.hid hs; have O3 := Lib.hid ho; have L3 := Lib.hid hl; clear hs hl ho hb; obtain ⟨A, c, rfl⟩ := O3.out.len; obtain ⟨n, hn⟩ : ∃ n, U.length = n := ⟨_, rfl⟩; rw [hn] at O3 ⊢; have HN := Lib.hid hn; clear hn))
    have hnb : n ≤ 200 := by have h1 := L3.out; have h2 := HLE.out; have h3 := HN.out; omega
    have hwb : W.length ≤ 200 := Nat.le_trans L2.out HLE.out.2
    have HWB := Lib.hid hwb
    clear hwb
    go_loopw [7, 10, 23] (fun u _ i wr => ∃ (k : Nat) (out : List Span), k ≤ n ∧ i = .int .i64 k ∧ Hid (MM w3 wr U W k u out)) (fun _ _ i _ => n - (intOf i).toNat)
    case atStart => exact ⟨0, [], by omega, rfl, Lib.hid ⟨MinusInv.start U W, OS.nil _ _, Below.refl _ _⟩⟩
    case round =>
      obtain ⟨k, out, hk, rfl, HM⟩ := hrel
      by_cases hlt : k < n
      · obtain ⟨s, hs⟩ := getS HN.out hlt
        obtain ⟨g, off, rfl, hg, c0, c1⟩ := (O3.out.rs.later HM.out.bel).at hs
        obtain ⟨x, y⟩ := s
        have HS := Lib.hid hs
        clear hs
        simp only at c0 c1
        have HOL : Hid (out.length ≤ 50000) := Lib.hid (by
          have h1 := HM.out.inv.len; have h2 := HWB.out
          have h3 : k * (W.length + 1) ≤ 200 * 201 := Nat.mul_le_mul (by omega) (by omega)
          omega)
        go_wp2_with (go_at_call 41; (with_reducible refine (appendLeft_any w3 _ u2 out W x y _ (HM.out.own.later (bl_alloc _ (Below.refl _ _))) O2.out.rs ((HM.out.bel).trans ((bl_alloc _ (Below.refl _ _)).mono HM.out.bel.size)) HS2.out.can HM.out.inv.can (HM.out.inv.before HS3.out.can HS.out) HOL.out (Nat.le_trans HWB.out (by omega))).mono ?_); rintro e w5 ⟨v5, out5, rfl, hl5, ho5, hb5⟩; have HL5 := Lib.hid hl5; have HO5 := Lib.hid ho5; have HB5 := Lib.hid hb5; clear hl5 ho5 hb5)
        go_roundw
        case rel => exact ⟨k + 1, out5, by omega, by go_num, Lib.hid ⟨HM.out.inv.step HS.out HL5.out, HO5.out, HM.out.bel.trans (((bl_alloc _ (Below.refl _ _)).mono HM.out.bel.size).trans HB5.out)⟩⟩
        case measure => simp [intOf]; omega
      · go_wp2_with fail
        go_ret2
        exact ⟨_, out, ret_vn HR.out.symm, fun _ => HM.out.inv.done (by rw [HN.out]; exact hlt) HS3.out HS2.out, fun h => absurd HR.out h, HM.out.own.rs, B3.out.trans (HM.out.bel.mono B3.out.size)⟩
  · have h1 : (r == 0) = false := by simpa using h0
    have h2 : (r != 0) = true := by simpa using h0
    have H0 := Lib.hid h0
    clear hr h0
    go_enter Tryd.func26, Tryd.ntmps26
    go_wp2_with (go_at_call 39; (with_reducible refine (checkLists2 _ _ a b r _ _ _ (by simp) HV1.out HV2.out H64.out K64.out HR.out).mono ?_); rintro e w1 ⟨rfl, hb⟩; have B1 := Lib.hid (bl_call (bl_alloc _ (Below.refl _ _)) hb); clear hb)
    go_ret2
    exact ⟨_, [], ret_vn HR.out.symm, fun h => absurd (HR.out.symm.trans h) H0.out, fun _ => rfl, RS.nil _, B1.out⟩
end Go.Proofs.YtnmgcfpemmejlaaDoor
