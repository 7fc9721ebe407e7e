/- The reference's root. -/
import Derived.Test.YtipcanphkdodaaaDoorShaZb
namespace Go.Proofs.YtipcanphkdodaaaDoor
open Go.RowKit
set_option linter.unusedVariables false

def rtN (W : Nat) (t : Bool) : Nat → Nat
  | 0 => 0
  | j + 1 => if W < powN (rtN W t j + 2 ^ (40 - j)) t then rtN W t j else rtN W t j + 2 ^ (40 - j)
theorem rtN_le (W : Nat) (t : Bool) : ∀ j, j ≤ 41 → rtN W t j + 2 ^ (41 - j) ≤ 2199023255552
  | 0, _ => by simp [rtN]
  | j + 1, h => by
    have ih := rtN_le W t j (by omega)
    rw [show 41 - j = (40 - j) + 1 by omega, Nat.pow_succ] at ih
    rw [show 41 - (j + 1) = 40 - j by omega]
    unfold rtN
    split <;> omega
def wantN (p : Nat) (t : Bool) : Nat := if t then p * 79228162514264337593543950336 else p * 18446744073709551616
structure RtI (w : World) (W : Nat) (wr : World) : Prop where
  row : AR wr w.heap.size 98 (wideV W)
  bel : Below w.heap.size w wr
theorem RtI.step {w wr W' : World} {W : Nat} (h : RtI w W wr) (hb : Below wr.heap.size wr W') : RtI w W W' := ⟨h.row.step hb, bl_call h.bel hb⟩
theorem root_start (p : Nat) (w : World) (hp : p < 4294967296) : RtI w (wantN p false) (w.alloc (.cells #[.int .u64 (p : Int), .int .u64 0] 98)) ∧ RtI w (wantN p true) (w.alloc (.cells #[.int .u64 ((p : Int) * 4294967296), .int .u64 0] 98)) := by
  have h := AR.made w 98
  refine ⟨⟨?_, bl_self _ _⟩, ⟨?_, bl_self _ _⟩⟩
  · have := h (wideV (wantN p false))
    unfold wideV wantN at this ⊢
    simp only [Bool.false_eq_true, if_false] at this ⊢
    rw [show p * 18446744073709551616 / 18446744073709551616 = p by omega, show p * 18446744073709551616 % 18446744073709551616 = 0 by omega] at this ⊢
    exact this
  · have := h (wideV (wantN p true))
    unfold wideV wantN at this ⊢
    simp only [if_true] at this ⊢
    rw [cmul]
    rw [show p * 79228162514264337593543950336 / 18446744073709551616 = p * 4294967296 by omega, show p * 79228162514264337593543950336 % 18446744073709551616 = 0 by omega] at this ⊢
    exact this
set_option maxRecDepth 4000 in
set_option maxHeartbeats 1000000 in
theorem root_any (p : Nat) (t : Bool) (w : World) (hp : p < 4294967296) : Calls Tryd.prog 39 #[.int .u64 p, .bool t] w (Gives w (.int .u64 (rtN (wantN p t) t 41))) := by
  have HS := Lib.hid (root_start p w hp)
  obtain ⟨W, hW⟩ : ∃ W, wantN p t = W := ⟨_, rfl⟩
  rw [hW]
  have HW := Lib.hid hW; clear hW
  go_enter Tryd.func39, Tryd.ntmps39
  go_upto_if 11 with fail
  go_cut [] (fun wc => Hid (RtI w W wc))
  case first =>
    cases t with
    | false =>
      go_wp2_with fail
      go_meet
      exact Lib.hid (HW.out ▸ HS.out.1)
    | true =>
      go_wp2_with fail
      go_meet
      exact Lib.hid (HW.out ▸ HS.out.2)
  case rest =>
    have HC := hcut
    clear hcut HS HW
    go_wp2_with fail
    go_loopw [6, 7] (fun m b wr => ∃ j : Nat, j ≤ 41 ∧ m = .int .u64 (rtN W t j) ∧ b = .int .i64 ((40 : Int) - j) ∧ Hid (RtI w W wr)) (fun _ b _ => (intOf b + 1).toNat)
    case atStart => exact ⟨0, by omega, rfl, by go_num, HC⟩
    case round =>
      obtain ⟨j, hj, rfl, rfl, HR⟩ := hrel
      have hle := rtN_le W t j hj
      by_cases hlt : j < 41
      · obtain ⟨b, hb⟩ : ∃ b : Nat, 40 - j = b := ⟨_, rfl⟩
        have eb : (40 : Int) - j = (b : Int) := by omega
        rw [show 41 - j = b + 1 by omega, Nat.pow_succ] at hle
        have hb40 : b ≤ 40 := by omega
        have hstep : rtN W t (j + 1) = if W < powN (rtN W t j + 2 ^ b) t then rtN W t j else rtN W t j + 2 ^ b := by rw [← hb]; rfl
        obtain ⟨M, hM⟩ : ∃ M, rtN W t j = M := ⟨_, rfl⟩
        rw [hM] at hle hstep ⊢
        rw [eb]
        obtain ⟨n, hn⟩ : ∃ n : Nat, M + 2 ^ b = n := ⟨_, rfl⟩
        have EN : IntKind.u64.wrap ((M : Int) + IntKind.u64.wrap (2 ^ b)) = (n : Int) := by
          rw [show (2 : Int) ^ b = ((2 ^ b : Nat) : Int) by rw [Int.natCast_pow]; rfl, w64 (by omega), ← Int.natCast_add, hn, w64 (by omega)]
        have hn41 : n < 2199023255552 := by have : 0 < 2 ^ b := Nat.two_pow_pos b; omega
        have HST := Lib.hid hstep; have HNN := Lib.hid hn; clear hstep hM hn hle
        go_upto_region 9 with fail
        skip
        have HRd : Hid (RtI w W wr.drew) := Lib.hid (HR.out.step (bl_drewN 1 (Below.refl _ _)))
        refine wp_region_held_drew (S := fun W' => AR W' w.heap.size 98 (wideV W)) (by kernel_rfl) HRd.out.row (fun hHeld => ?_)
        refine wpAnyH_take (i := 0) (oi := { dst := some 24, op := _, type := _, pos := _, after := _, guard := _ }) rfl (by kernel_rfl) (by kernel_rfl) (by kernel_rfl) (fun _ _ _ h => h) (yields_row (by rfl) 98 (.tmp 5) rfl w.heap.size rfl 98 (wideV W) _ (fun _ h => h) Tryd.underlying98 rfl infoWide) hHeld ?_
        (try simp only [Act.put, List.setIfInBounds_toArray, List.set_cons_zero, List.set_cons_succ])
        refine wpAnyH_take (i := 1) (oi := { dst := some 25, op := _, type := _, pos := _, after := _, guard := _ }) (v := ?v25) rfl (by kernel_rfl) (by kernel_rfl) (by kernel_rfl) (fun _ _ _ h => h) (Or.inl ⟨by rfl, ?y25⟩) (by assumption) ?r25
        case y25 => intro w9 hSw; go_simp <;> with_reducible rfl
        (try simp only [Act.put, List.setIfInBounds_toArray, List.set_cons_zero, List.set_cons_succ])
        refine wpAnyH_take (i := 2) (oi := { dst := some 26, op := _, type := _, pos := _, after := _, guard := _ }) (v := ?v26) rfl (by kernel_rfl) (by kernel_rfl) (by kernel_rfl) (fun _ _ _ h => h) (Or.inl ⟨by rfl, ?y26⟩) (by assumption) ?r26
        case y26 => intro w9 hSw; go_simp <;> with_reducible rfl
        (try simp only [Act.put, List.setIfInBounds_toArray, List.set_cons_zero, List.set_cons_succ])
        refine wpAnyH_ready (rs := [3]) (by kernel_rfl) (by simp) (AllReadyH.cons (o := { dst := some 27, op := _, type := _, pos := _, after := _, guard := _ }) rfl (fun K hK => ?_) AllReadyH.nil)
        go_simp
        go_at_call 58; refine (rpower_any n t _ hn41).mono ?_; rintro e w1 ⟨rfl, hb⟩; have HR1 := Lib.hid (HRd.out.step hb); clear hb
        refine hK.out _ _ ?_ (fun hHeld27 => ?_)
        · exact HR1.out.row
        clear hK K
        (try simp only [Act.put, List.setIfInBounds_toArray, List.set_cons_zero, List.set_cons_succ])
        refine wpAnyH_ready (rs := [4]) (by kernel_rfl) (by simp) (AllReadyH.cons (o := { dst := some 28, op := _, type := _, pos := _, after := _, guard := _ }) rfl (fun K hK => ?_) AllReadyH.nil)
        go_simp
        go_at_call 57; refine (rless_any W (powN n t) _).mono ?_; rintro e w2 ⟨rfl, hb⟩; have HR2 := Lib.hid (HR1.out.step hb); clear hb
        refine hK.out _ _ ?_ (fun hHeld28 => ?_)
        · exact HR2.out.row
        clear hK K
        (try simp only [Act.put, List.setIfInBounds_toArray, List.set_cons_zero, List.set_cons_succ])
        refine wpAnyH_take (i := 5) (oi := { dst := some 29, op := _, type := _, pos := _, after := _, guard := _ }) (v := ?v29) rfl (by kernel_rfl) (by kernel_rfl) (by kernel_rfl) (fun _ _ _ h => h) (Or.inl ⟨by rfl, ?y29⟩) (by assumption) ?r29
        case y29 => intro w9 hSw; go_simp <;> with_reducible rfl
        (try simp only [Act.put, List.setIfInBounds_toArray, List.set_cons_zero, List.set_cons_succ])
        refine wpAnyH_done (by kernel_rfl) ?_ _
        by_cases hc : W < powN n t
        · have hd : decide (W < powN n t) = true := decide_eq_true hc
          rw [hd]
          have HE : Hid (rtN W t (j + 1) = M) := Lib.hid (by rw [HST.out, HNN.out, if_pos hc])
          clear hc hd
          go_wp2_with fail
          go_roundw
          case rel => exact ⟨j + 1, by omega, by rw [HE.out], by go_num, HR2⟩
          case measure => simp [intOf]
        · have hd : decide (W < powN n t) = false := decide_eq_false hc
          rw [hd]
          have HE : Hid (rtN W t (j + 1) = n) := Lib.hid (by rw [HST.out, HNN.out, if_neg hc])
          clear hc hd
          go_wp2_with fail
          go_roundw
          case rel => exact ⟨j + 1, by omega, by rw [HE.out], by go_num, HR2⟩
          case measure => simp [intOf]
      · obtain rfl : j = 41 := by omega
        obtain ⟨Z, hZ⟩ : ∃ Z, rtN W t 41 = Z := ⟨_, rfl⟩
        rw [hZ]
        go_wp2_with fail
        go_ret
        exact ⟨by rw [hZ]; rfl, HR.out.bel⟩
end Go.Proofs.YtipcanphkdodaaaDoor
