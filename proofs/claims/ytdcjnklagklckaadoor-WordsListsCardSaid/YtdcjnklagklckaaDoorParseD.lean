/- words.runsOf: what its iterator yields. -/
import Derived.Test.YtdcjnklagklckaaDoorParseC
import Derived.Test.YtdcjnklagklckaaDoorRange
import Derived.Test.YtdcjnklagklckaaDoorWordsS
namespace Go.Proofs.YtdcjnklagklckaaDoor
open Go.RowKit Go.Shelf
set_option linter.unusedVariables false
attribute [local go_sem] Oper.semAt_some

theorem runsOf_any (s : ByteArray) (w : World) : Calls Tryd.prog 77 #[.string s] w fun e w' =>
    e = .returned (.func (.func 99) #[] #[.pointer (some ⟨w.heap.size, 0, none⟩)]) ∧ w' = w.alloc (.cells #[.string s] 9) := by
  have hmf : ∀ (fn : Fn) (first cap : Array Value) (w : World), (Instr.makeFunc fn first cap).run Tryd.prog w = .ok (.func fn first cap) w := fun _ _ _ _ => rfl
  go_enter Tryd.func77, Tryd.ntmps77
  go_wp2
  go_ret
  exact ⟨rfl, rfl⟩

def runsGo : List (List UInt8) → List RY
  | [] => []
  | p :: ps => if (rrOf p).2.2 then rrOf p :: runsGo ps else [rrOf p]
def runsY (l : List UInt8) : List RY := runsGo (cutAt 44 l)
theorem runsGo_len : ∀ ps : List (List UInt8), (runsGo ps).length ≤ ps.length
  | [] => Nat.le_refl _
  | p :: ps => by
    have := runsGo_len ps
    rw [runsGo]; split <;> simp <;> omega
theorem runsY_len (l : List UInt8) : (runsY l).length ≤ l.length + 1 := Nat.le_trans (runsGo_len _) (cutAt_count 44 l)

/-- What is still to come: of R, if there is more. -/
def rTail (R : ByteArray) (m : Bool) : List RY := if m then runsGo (cutAt 44 R.data.toList) else []
theorem rTail_cut {R F L : ByteArray} {m : Bool} (h : CutOut 44 R F L m) : rTail R true = if (rrOf F.data.toList).2.2 then rrOf F.data.toList :: rTail L m else [rrOf F.data.toList] := by
  unfold rTail
  rw [if_pos rfl]
  cases m
  · obtain ⟨rfl, _, hs⟩ := h.no rfl
    rw [cutAt_none 44 _ hs, runsGo]; rfl
  · obtain ⟨he, hs⟩ := h.yes rfl
    rw [he, cutAt_app 44 _ _ hs, runsGo]; rfl
theorem cut_less {R F L : ByteArray} (h : CutOut 44 R F L true) : L.size < R.size := by
  obtain ⟨he, _⟩ := h.yes rfl
  have := congrArg List.length he
  rw [List.length_append, List.length_cons, len_data, len_data, len_data] at this; omega

theorem readR_len {p a b : List UInt8} (h : readR p = some (a, b)) : a.length ≤ p.length ∧ b.length ≤ p.length := by
  have h1 := (List.takeWhile_prefix (· != (45 : UInt8)) (l := p)).length_le
  have h2 := (List.dropWhile_suffix (· != (45 : UInt8)) (l := p)).length_le
  unfold readR at h
  split at h
  · split at h
    · cases h; exact ⟨Nat.le_refl _, Nat.le_refl _⟩
    · cases h
  · split at h
    · cases h; exact ⟨h1, by rw [List.length_tail]; omega⟩
    · cases h
theorem rrOf_len (p : List UInt8) : (rrOf p).1.size ≤ p.length ∧ (rrOf p).2.1.size ≤ p.length := by
  unfold rrOf
  cases h : readR p with
  | none => exact ⟨Nat.zero_le _, Nat.zero_le _⟩
  | some ab =>
    obtain ⟨h1, h2⟩ := readR_len (a := ab.1) (b := ab.2) h
    refine ⟨?_, ?_⟩
    · show ab.1.toArray.size ≤ _; simpa using h1
    · show ab.2.toArray.size ≤ _; simpa using h2

/-- .. with strings of a bounded size. -/
abbrev RunB := { x : RY // x.1.size ≤ 1048576 ∧ x.2.1.size ≤ 1048576 }
structure RSt (l : List UInt8) (J : List RunB → World → Prop) (B : Nat) (pre : List RunB) (R : ByteArray) (m : Bool) (W : World) : Prop where
  j : J pre W
  mx : MaxAt W
  le : B ≤ W.heap.size
  size : R.size ≤ 1048576
  todo : runsY l = pre.map (·.1) ++ rTail R m
theorem RSt.later {l : List UInt8} {J : List RunB → World → Prop} {B : Nat} {pre : List RunB} {R : ByteArray} {m : Bool} {W W' : World} (h : RSt l J B pre R m W) (hJ : StayBut B J) (hb : Below W.heap.size W W') : RSt l J B pre R m W' :=
  ⟨hJ _ _ _ _ h.j (grow_none' hb) (fun r e => by cases e), h.mx.below hb, Nat.le_trans h.le hb.size, h.size, h.todo⟩

def rMu (r m : Value) (_ : World) : Nat := match r, m with
  | .string R, .bool true => R.size + 1
  | _, _ => 0

set_option maxRecDepth 100000 in
set_option maxHeartbeats 2000000 in
theorem runs1_box (n b n₀ : Nat) (s : ByteArray) (w : World) (hs : s.size ≤ 1048576) (hc : w.cell? ⟨b, 0, none⟩ = some (.string s)) (hb : b < w.heap.size) (hM : MaxAt w) (hn : 4 < n₀) (hn₀ : n₀ ≤ w.heap.size) :
    SeqBox Fence.wide n Tryd.prog 99 #[.pointer (some ⟨b, 0, none⟩)] (fun x : RunB => rEnc x.1) n₀ (fun xs => xs.map (·.1) = runsY s.data.toList) (fun pre => pre.map (·.1) <+: runsY s.data.toList) (runsY s.data.toList).length w := by
  intro l J Jx W hW hJ hJx hY h0
  have hbW : b < W.heap.size := Nat.lt_of_lt_of_le hb hW.size
  have hcW : W.cell? ⟨b, 0, none⟩ = some (.string s) := (hW.cell (p := ⟨b, 0, none⟩) hb).trans hc
  have HMW := Lib.hid (hM.below hW)
  have HJ := Lib.hid hJ; have HJX := Lib.hid hJx; have HY := Lib.hid hY; have H0 := Lib.hid h0
  clear hM hJ hJx hY h0 hW
  refine callsIn_of_wp Tryd.func99 rfl trivial ?_ rfl
  simp only [Tryd.ntmps99, List.size_toArray, List.length_cons, List.length_nil, Nat.reduceAdd, Nat.reduceSub, Array.replicate_succ, Array.replicate_zero, List.push_toArray, List.append_toArray, List.nil_append, List.cons_append]
  gi_wp2
  gi_loopw [3, 4] (fun r m wr => ∃ (pre : List RunB) (R : ByteArray) (mb : Bool), r = .string R ∧ m = .bool mb ∧ Hid (RSt s.data.toList J W.heap.size pre R mb wr)) (rMu)
  case atStart => exact ⟨[], s, true, rfl, rfl, Lib.hid ⟨H0.out, HMW.out, Nat.le_refl _, hs, rfl⟩⟩
  case round =>
    obtain ⟨pre, R, mb, rfl, rfl, HST⟩ := hrel
    cases mb
    case false =>
      gi_wp2
      refine bodyPost_end (results_none rfl _ _ _) rfl ?_
      exact ⟨⟨_, rfl⟩, .inl ⟨pre, by have := HST.out.todo; rw [this]; simp [rTail], HST.out.j⟩⟩
    case true =>
      obtain ⟨F, L, m2, hc2, hf, hl, hcall⟩ := cut_out 44 R
      have HC2 := Lib.hid hc2; have HCALL := Lib.hid hcall; clear hc2 hcall
      have hRs := HST.out.size
      have hFs : F.size ≤ 1048576 := by omega
      have HT : Hid (runsY s.data.toList = pre.map (·.1) ++ if (rrOf F.data.toList).2.2 then rrOf F.data.toList :: rTail L m2 else [rrOf F.data.toList]) := Lib.hid (by rw [HST.out.todo, rTail_cut HC2.out])
      obtain ⟨⟨xa, xb, ok⟩, hx⟩ : ∃ x, rrOf F.data.toList = x := ⟨_, rfl⟩
      have hbx := rrOf_len F.data.toList
      rw [hx, len_data] at hbx
      have hbd : xa.size ≤ 1048576 ∧ xb.size ≤ 1048576 := ⟨Nat.le_trans hbx.1 hFs, Nat.le_trans hbx.2 hFs⟩
      have HBD := Lib.hid hbd; clear hbx hbd
      rw [hx] at HT
      have HRUN : Hid (∀ W, MaxAt W → Calls Tryd.prog 101 #[.string F] W fun e w' => e = .returned (.tuple #[.agg #[.string xa, .string xb], .bool ok]) ∧ Below W.heap.size W w') := Lib.hid (fun W hm => by
        refine (readRun_any F W hFs hm).mono ?_
        rintro e w' ⟨rfl, hb⟩
        exact ⟨by rw [hx], hb⟩)
      clear hx
      gi_wp2_with (first
        | (refine ⟨trivial, (fun h => by cases h), ?_⟩; gi_at_call 100; refine (callsIn_wide.2 (HCALL.out _ HST.out.mx hRs)).mono ?_; rintro e w1 ⟨rfl, hb1⟩; have HST1 := Lib.hid (HST.out.later HJ.out hb1); clear hb1)
        | (refine ⟨trivial, (fun h => by cases h), ?_⟩; gi_at_call 101; refine (callsIn_wide.2 (HRUN.out _ HST1.out.mx)).mono ?_; rintro e w2 ⟨rfl, hb2⟩; have HST2 := Lib.hid (HST1.out.later HJ.out (bl_alloc (.cells #[.string xa, .string xb] 97) hb2)); obtain ⟨fn, tmps, assign, body, hy, hR⟩ := HY.out pre ⟨(xa, xb, ok), HBD.out⟩ (w2.alloc (.cells #[.string xa, .string xb] 97)) HST2.out.j (by rw [HT.out, List.length_append, List.length_map]; split <;> simp) (by have := HST1.out.le; have := hb2.size; simp; omega); clear hb2))
      refine ⟨(fun h => by cases h), hR.mono ?_⟩
      have hL : L.size ≤ 1048576 := by omega
      have hsz2 := HST2.out.le
      have hmx := HST2.out.mx
      have HMX := Lib.hid hmx; have HSZ := Lib.hid hsz2
      clear hy hR HST HST1 HST2 hmx hsz2
      rintro e W3 (⟨rfl, hJ3, hk3⟩ | ⟨rfl, hJx3⟩)
      · have hM3 : MaxAt W3 := by
          obtain ⟨m, h⟩ := HMX.out
          exact ⟨m, (hk3.1.cell (p := ⟨_, 0, none⟩) hn).trans h⟩
        have HM3 := Lib.hid hM3; have HJ3 := Lib.hid hJ3
        have HS3 : Hid (W.heap.size ≤ W3.heap.size) := Lib.hid (Nat.le_trans HSZ.out hk3.1.size)
        clear hM3 hJ3 hk3
        cases ok
        case false =>
          have HT2 : Hid ((pre ++ [(⟨(xa, xb, false), HBD.out⟩ : RunB)]).map (·.1) = runsY s.data.toList) := Lib.hid (by rw [HT.out, List.map_append]; rfl)
          gi_wp2
          refine bodyPost_ret (results_none rfl _ _ _) rfl ?_
          exact ⟨⟨_, rfl⟩, .inl ⟨_, HT2.out, HJ3.out⟩⟩
        case true =>
          have HT2 : Hid (runsY s.data.toList = (pre ++ [(⟨(xa, xb, true), HBD.out⟩ : RunB)]).map (·.1) ++ rTail L m2) := Lib.hid (by rw [HT.out, List.map_append]; simp)
          have HMU : Hid (rMu (.string L) (.bool m2) W3 < rMu (.string R) (.bool true) W3) := Lib.hid (by
            cases m2
            · simp [rMu]
            · have := cut_less HC2.out; simp [rMu]; omega)
          gi_wp2
          go_roundw
          case rel => exact ⟨_, L, m2, rfl, rfl, Lib.hid ⟨HJ3.out, HM3.out, HS3.out, hL, HT2.out⟩⟩
          case measure => exact HMU.out
      · have HT2 : Hid ((pre ++ [(⟨(xa, xb, ok), HBD.out⟩ : RunB)]).map (·.1) <+: runsY s.data.toList) := Lib.hid (by
          rw [HT.out, List.map_append]
          cases ok
          · exact List.prefix_refl _
          · exact ⟨rTail L m2, by simp⟩)
        have HJx3 := Lib.hid hJx3; clear hJx3
        gi_wp2
        refine bodyPost_ret (results_none rfl _ _ _) rfl ?_
        exact ⟨⟨_, rfl⟩, .inr ⟨_, HT2.out, HJx3.out⟩⟩
end Go.Proofs.YtdcjnklagklckaaDoor
