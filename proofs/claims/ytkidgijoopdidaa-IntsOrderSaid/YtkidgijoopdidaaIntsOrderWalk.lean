/- The law IntsOrder: the walk. -/
import Derived.Test.YtkidgijoopdidaaIntsY
namespace Go.Proofs.Ytkidgijoopdidaa
open Go.RowKit
set_option linter.unusedVariables false

theorem u8_wf {n : Int} (h : (Lit.int .u8 n).wf = true) : 0 ≤ n ∧ n ≤ 255 := by
  simp only [Lit.wf, Bool.and_eq_true, decide_eq_true_eq] at h
  exact h

/-! ### digits are ordered as the numbers -/
def u8s (xs : List Int) : List UInt8 := xs.map fun n => UInt8.ofNat n.toNat
theorem strOf_list (xs : List Int) : (strOfNums xs).toList = u8s xs := by rw [ByteArray.toList_eq]; rfl
theorem u8_lt {a b : Nat} (ha : a < 256) (hb : b < 256) : (UInt8.ofNat a < UInt8.ofNat b) ↔ a < b := by
  rw [UInt8.lt_iff_toNat_lt, UInt8.toNat_ofNat', UInt8.toNat_ofNat', Nat.mod_eq_of_lt (by omega), Nat.mod_eq_of_lt (by omega)]
theorem u8_eq {a b : Nat} (ha : a < 256) (hb : b < 256) : (UInt8.ofNat a = UInt8.ofNat b) ↔ a = b := by
  rw [← UInt8.toNat_inj, UInt8.toNat_ofNat', UInt8.toNat_ofNat', Nat.mod_eq_of_lt (by omega), Nat.mod_eq_of_lt (by omega)]
theorem less_mod (k : Nat) : ∀ a b : Nat, Op.bytesLess (u8s (beL a k)) (u8s (beL b k)) = decide (a % 256 ^ k < b % 256 ^ k) := by
  induction k with
  | zero => intro a b; simp [beL, u8s, Op.bytesLess, Nat.mod_one]
  | succ k ih =>
    intro a b
    rw [beL_high, beL_high]
    show Op.bytesLess (UInt8.ofNat (a / 256 ^ k % 256) :: u8s (beL a k)) (UInt8.ofNat (b / 256 ^ k % 256) :: u8s (beL b k)) = _
    rw [Op.bytesLess, ih]
    have hP : 0 < 256 ^ k := Nat.pow_pos (by decide)
    have ea : a % 256 ^ (k + 1) = a % 256 ^ k + 256 ^ k * (a / 256 ^ k % 256) := by rw [Nat.pow_succ, Nat.mod_mul]
    have eb : b % 256 ^ (k + 1) = b % 256 ^ k + 256 ^ k * (b / 256 ^ k % 256) := by rw [Nat.pow_succ, Nat.mod_mul]
    rw [ea, eb]
    have ra := Nat.mod_lt a hP
    have rb := Nat.mod_lt b hP
    have hA : a / 256 ^ k % 256 < 256 := Nat.mod_lt _ (by decide)
    have hB : b / 256 ^ k % 256 < 256 := Nat.mod_lt _ (by decide)
    generalize a / 256 ^ k % 256 = A at *
    generalize b / 256 ^ k % 256 = B at *
    generalize a % 256 ^ k = x at *
    generalize b % 256 ^ k = y at *
    generalize 256 ^ k = P at *
    rw [Bool.eq_iff_iff]
    simp only [Bool.or_eq_true, Bool.and_eq_true, decide_eq_true_eq, beq_iff_eq, u8_lt hA hB, u8_eq hA hB]
    rcases Nat.lt_trichotomy A B with h | h | h
    · have : P * A + P ≤ P * B := by rw [← Nat.mul_succ]; exact Nat.mul_le_mul_left _ h
      constructor
      · intro _; omega
      · intro _; exact .inl h
    · subst h; simp
    · have : P * B + P ≤ P * A := by rw [← Nat.mul_succ]; exact Nat.mul_le_mul_left _ h
      constructor
      · intro h2; rcases h2 with h2 | ⟨h2, _⟩ <;> omega
      · intro _; omega
theorem less_be {a b k : Nat} (ha : fitB a (8 * k) = true) (hb : fitB b (8 * k) = true) : Op.bytesLess (strOfNums (beL a k)).toList (strOfNums (beL b k)).toList = decide (a < b) := by
  have e : 2 ^ (8 * k) = 256 ^ k := by rw [Nat.pow_mul]
  have h1 := fitB_lt ha
  have h2 := fitB_lt hb
  rw [e] at h1 h2
  rw [strOf_list, strOf_list, less_mod, Nat.mod_eq_of_lt h1, Nat.mod_eq_of_lt h2]
theorem varL_mono : ∀ a b : Nat, b ≤ a → (varL b).length ≤ (varL a).length := by
  intro a
  induction a using Nat.strongRecOn with
  | _ a ih =>
    intro b h
    by_cases hb : b < 128
    · rw [varL_lo hb]
      by_cases ha : a < 128
      · rw [varL_lo ha]; simp
      · rw [varL_hi ha]; simp
    · have ha : ¬ a < 128 := by omega
      rw [varL_hi hb, varL_hi ha]
      have := ih (a / 128) (by omega) (b / 128) (by omega)
      simp; omega

/-- A slice of N bytes, and no error. -/
def PutS (w : World) (N : Nat) (ys : List Int) (e : Ending) (w' : World) : Prop := ∃ A c, e = .returned (.tuple #[.slice A N c, .int .i64 0]) ∧ RB w' (.slice A N c) ys ∧ Below w.heap.size w w'
theorem put_s (n N : Nat) (k : Int) (w : World) (hk : k = N) (hN : 1 ≤ N) (hN2 : N ≤ 8) (hn : n < 18446744073709551616) (hf : fitB n (8 * N) = true) : Calls Try.prog 13 #[.slice none 0 0, .int .u64 n, .int .i64 k] w (PutS w N (beL n N)) := by
  subst hk
  refine (put_yes (.slice none 0 0) [] n N w (RB.nil w) (by simp) hn hN hN2 hf).mono ?_
  rintro e w' ⟨v, he, ho, hb⟩
  rw [List.nil_append] at ho
  have hr := ho.rb
  obtain ⟨A, c, rfl⟩ := hr.len
  rw [beL_len] at he hr
  exact ⟨A, c, he, hr, hb⟩
theorem put_n (n N : Nat) (k : Int) (w : World) (hk : k = N) (hn : n < 18446744073709551616) (hN : 1 ≤ N) (hN2 : N ≤ 8) (hf : fitB n (8 * N) = false) : Calls Try.prog 13 #[.slice none 0 0, .int .u64 n, .int .i64 k] w (No w) := by
  subst hk
  exact put_no (.slice none 0 0) n N w hn (by unfold putOk; rw [Int.toNat_natCast, hf]; simp)
/-- A slice of N bytes. -/
def MadeS (w : World) (N : Nat) (ys : List Int) (e : Ending) (w' : World) : Prop := ∃ A c, e = .returned (.slice A N c) ∧ RB w' (.slice A N c) ys ∧ Below w.heap.size w w'
theorem putvar_s (n N : Nat) (w : World) (hn : n < 18446744073709551616) (hN : (varL n).length = N) : Calls Try.prog 19 #[.slice none 0 0, .int .u64 n] w (MadeS w N (varL n)) := by
  subst hN
  refine (putvar_any (.slice none 0 0) [] n w (RB.nil w) (by simp) hn).mono ?_
  rintro e w' ⟨v, he, ho, hb⟩
  rw [List.nil_append] at ho
  have hr := ho.rb
  obtain ⟨A, c, rfl⟩ := hr.len
  exact ⟨A, c, he, hr, hb⟩

set_option maxRecDepth 20000 in
set_option maxHeartbeats 4000000 in
theorem orderLaw_any (a b : Nat) (c : Int) (w : World) (ha : a < 18446744073709551616) (hb : b < 18446744073709551616) (hc : 0 ≤ c ∧ c ≤ 255) :
    Calls Try.prog 9 #[.int .u64 a, .int .u64 b, .int .u8 c] w fun e w' => e = .returned (.bool true) ∧ Below w.heap.size w w' := by
  obtain ⟨c0, c1⟩ := hc
  obtain ⟨N, hN⟩ : ∃ N : Nat, 1 + c % 8 = N := ⟨(1 + c % 8).toNat, by omega⟩
  have hN1 : 1 ≤ N := by omega
  have hN8 : N ≤ 8 := by omega
  obtain ⟨P, hP⟩ : ∃ P, (varL a).length = P := ⟨_, rfl⟩
  obtain ⟨Q, hQ⟩ : ∃ Q, (varL b).length = Q := ⟨_, rfl⟩
  have p10 := varL_ten ha
  have q10 := varL_ten hb
  rw [hP] at p10; rw [hQ] at q10
  obtain ⟨p1, p2⟩ := p10
  obtain ⟨q1, q2⟩ := q10
  have m1 : a < b ∨ Q ≤ P := by
    rcases Nat.lt_or_ge a b with h | h
    · exact .inl h
    · right; rw [← hP, ← hQ]; exact varL_mono a b h
  have m2 : b < a ∨ P ≤ Q := by
    rcases Nat.lt_or_ge b a with h | h
    · exact .inl h
    · right; rw [← hP, ← hQ]; exact varL_mono b a h
  have HP := Lib.hid hP; have HQ := Lib.hid hQ
  clear hP hQ
  have h3 : (a < b ∧ P ≤ Q) ∨ (b < a ∧ Q ≤ P) ∨ (a ≤ b ∧ b ≤ a ∧ P ≤ Q ∧ Q ≤ P) := by omega
  clear m1 m2
  have tk1 : True := trivial
  have tk2 : True := trivial
  have tk3 : True := trivial
  have tk4 : True := trivial
  cases hfa : fitB a (8 * N)
  · have HA := Lib.hid hfa; clear hfa
    cases hfb : fitB b (8 * N)
    all_goals
      have HA2 := Lib.hid hfb; clear hfb
      rcases h3 with ⟨k1, k2⟩ | ⟨k1, k2⟩ | ⟨k1, k2, k3, k4⟩
      all_goals
        go_enter Try.func9, Try.ntmps9
        go_wp2_with (first
          | (go_at_call 13; have _t := tk1; (with_reducible refine (put_n a N _ _ (by omega) ha hN1 hN8 HA.out).mono ?_); rintro e w1 ⟨rfl, rfl⟩; have HB1 := Lib.hid (Below.refl w.heap.size w); clear tk1 _t)
          | (go_at_call 13; have _t := tk2; (with_reducible refine (put_n b N _ _ (by omega) hb hN1 hN8 HA2.out).mono ?_); rintro e w2 ⟨rfl, rfl⟩; have HB2 := HB1; clear tk2 _t)
          | (go_at_call 13; have _t := tk2; (with_reducible refine (put_s b N _ _ (by omega) hN1 hN8 hb HA2.out).mono ?_); rintro e w2 ⟨A2, d2, rfl, hr2, hb2⟩; have HB2 := Lib.hid (bl_call HB1.out hb2); clear hr2 hb2 tk2 _t)
          | (go_at_call 19; have _t := tk3; (with_reducible refine (putvar_s a P _ ha HP.out).mono ?_); rintro e w3 ⟨A3, d3, rfl, hr3, hb3⟩; have HB3 := Lib.hid (bl_call HB2.out hb3); clear hr3 hb3 tk3 _t)
          | (go_at_call 19; have _t := tk4; (with_reducible refine (putvar_s b Q _ hb HQ.out).mono ?_); rintro e w4 ⟨A4, d4, rfl, hr4, hb4⟩; have HB4 := Lib.hid (bl_call HB3.out hb4); clear hr4 hb4 tk4 _t)
          | (go_at_call 12; (with_reducible refine (awake_any _).mono ?_); rintro e w5 ⟨rfl, hb⟩; have HB5 := Lib.hid (bl_call HB4.out hb); clear hb))
        all_goals (go_ret; exact ⟨rfl, HB5.out⟩)
  · have HA := Lib.hid hfa
    cases hfb : fitB b (8 * N)
    · have HA2 := Lib.hid hfb
      clear hfa hfb
      rcases h3 with ⟨k1, k2⟩ | ⟨k1, k2⟩ | ⟨k1, k2, k3, k4⟩
      all_goals
        go_enter Try.func9, Try.ntmps9
        go_wp2_with (first
          | (go_at_call 13; have _t := tk1; (with_reducible refine (put_s a N _ _ (by omega) hN1 hN8 ha HA.out).mono ?_); rintro e w1 ⟨A1, d1, rfl, hr1, hb1⟩; have HR1 := Lib.hid hr1; have HB1 := Lib.hid hb1; clear hr1 hb1 tk1 _t)
          | (go_at_call 13; have _t := tk2; (with_reducible refine (put_n b N _ _ (by omega) hb hN1 hN8 HA2.out).mono ?_); rintro e w2 ⟨rfl, rfl⟩; have HB2 := HB1; clear tk2 _t)
          | (go_at_call 19; have _t := tk3; (with_reducible refine (putvar_s a P _ ha HP.out).mono ?_); rintro e w3 ⟨A3, d3, rfl, hr3, hb3⟩; have HB3 := Lib.hid (bl_call HB2.out hb3); clear hr3 hb3 tk3 _t)
          | (go_at_call 19; have _t := tk4; (with_reducible refine (putvar_s b Q _ hb HQ.out).mono ?_); rintro e w4 ⟨A4, d4, rfl, hr4, hb4⟩; have HB4 := Lib.hid (bl_call HB3.out hb4); clear hr4 hb4 tk4 _t)
          | (go_at_call 12; (with_reducible refine (awake_any _).mono ?_); rintro e w5 ⟨rfl, hb⟩; have HB5 := Lib.hid (bl_call HB4.out hb); clear hb))
        all_goals (go_ret; exact ⟨rfl, HB5.out⟩)
    · have HA2 := Lib.hid hfb
      have HLT := Lib.hid (less_be hfa hfb)
      clear hfa hfb
      obtain ⟨SA, hSA⟩ : ∃ S, strOfNums (beL a N) = S := ⟨_, rfl⟩
      obtain ⟨SB, hSB⟩ : ∃ S, strOfNums (beL b N) = S := ⟨_, rfl⟩
      rw [hSA, hSB] at HLT
      have HSA := Lib.hid hSA; have HSB := Lib.hid hSB; clear hSA hSB
      rcases h3 with ⟨k1, k2⟩ | ⟨k1, k2⟩ | ⟨k1, k2, k3, k4⟩
      · have hlt : Op.bytesLess SA.toList SB.toList = true := by rw [HLT.out]; exact decide_eq_true k1
        go_enter Try.func9, Try.ntmps9
        go_wp2_with (first
          | (go_at_call 13; have _t := tk1; (with_reducible refine (put_s a N _ _ (by omega) hN1 hN8 ha HA.out).mono ?_); rintro e w1 ⟨A1, d1, rfl, hr1, hb1⟩; have HR1 := Lib.hid hr1; have HB1 := Lib.hid hb1; clear hr1 hb1 tk1 _t)
          | (go_at_call 13; have _t := tk2; (with_reducible refine (put_s b N _ _ (by omega) hN1 hN8 hb HA2.out).mono ?_); rintro e w2 ⟨A2, d2, rfl, hr2, hb2⟩; have j1 := conv_rb (HR1.out.later hb2); have j2 := conv_rb hr2; rw [HSA.out] at j1; rw [HSB.out] at j2; have HB2 := Lib.hid (bl_call HB1.out hb2); clear hr2 hb2 tk2 _t)
          | (go_at_call 19; have _t := tk3; (with_reducible refine (putvar_s a P _ ha HP.out).mono ?_); rintro e w3 ⟨A3, d3, rfl, hr3, hb3⟩; have HB3 := Lib.hid (bl_call HB2.out hb3); clear hr3 hb3 tk3 _t)
          | (go_at_call 19; have _t := tk4; (with_reducible refine (putvar_s b Q _ hb HQ.out).mono ?_); rintro e w4 ⟨A4, d4, rfl, hr4, hb4⟩; have HB4 := Lib.hid (bl_call HB3.out hb4); clear hr4 hb4 tk4 _t)
          | (go_at_call 12; (with_reducible refine (awake_any _).mono ?_); rintro e w5 ⟨rfl, hb⟩; have HB5 := Lib.hid (bl_call HB4.out hb); clear hb))
        all_goals (go_ret; exact ⟨rfl, HB5.out⟩)
      · have hlt : Op.bytesLess SA.toList SB.toList = false := by rw [HLT.out]; exact decide_eq_false (by omega)
        go_enter Try.func9, Try.ntmps9
        go_wp2_with (first
          | (go_at_call 13; have _t := tk1; (with_reducible refine (put_s a N _ _ (by omega) hN1 hN8 ha HA.out).mono ?_); rintro e w1 ⟨A1, d1, rfl, hr1, hb1⟩; have HR1 := Lib.hid hr1; have HB1 := Lib.hid hb1; clear hr1 hb1 tk1 _t)
          | (go_at_call 13; have _t := tk2; (with_reducible refine (put_s b N _ _ (by omega) hN1 hN8 hb HA2.out).mono ?_); rintro e w2 ⟨A2, d2, rfl, hr2, hb2⟩; have j1 := conv_rb (HR1.out.later hb2); have j2 := conv_rb hr2; rw [HSA.out] at j1; rw [HSB.out] at j2; have HB2 := Lib.hid (bl_call HB1.out hb2); clear hr2 hb2 tk2 _t)
          | (go_at_call 19; have _t := tk3; (with_reducible refine (putvar_s a P _ ha HP.out).mono ?_); rintro e w3 ⟨A3, d3, rfl, hr3, hb3⟩; have HB3 := Lib.hid (bl_call HB2.out hb3); clear hr3 hb3 tk3 _t)
          | (go_at_call 19; have _t := tk4; (with_reducible refine (putvar_s b Q _ hb HQ.out).mono ?_); rintro e w4 ⟨A4, d4, rfl, hr4, hb4⟩; have HB4 := Lib.hid (bl_call HB3.out hb4); clear hr4 hb4 tk4 _t)
          | (go_at_call 12; (with_reducible refine (awake_any _).mono ?_); rintro e w5 ⟨rfl, hb⟩; have HB5 := Lib.hid (bl_call HB4.out hb); clear hb))
        all_goals (go_ret; exact ⟨rfl, HB5.out⟩)
      · have hlt : Op.bytesLess SA.toList SB.toList = false := by rw [HLT.out]; exact decide_eq_false (by omega)
        go_enter Try.func9, Try.ntmps9
        go_wp2_with (first
          | (go_at_call 13; have _t := tk1; (with_reducible refine (put_s a N _ _ (by omega) hN1 hN8 ha HA.out).mono ?_); rintro e w1 ⟨A1, d1, rfl, hr1, hb1⟩; have HR1 := Lib.hid hr1; have HB1 := Lib.hid hb1; clear hr1 hb1 tk1 _t)
          | (go_at_call 13; have _t := tk2; (with_reducible refine (put_s b N _ _ (by omega) hN1 hN8 hb HA2.out).mono ?_); rintro e w2 ⟨A2, d2, rfl, hr2, hb2⟩; have j1 := conv_rb (HR1.out.later hb2); have j2 := conv_rb hr2; rw [HSA.out] at j1; rw [HSB.out] at j2; have HB2 := Lib.hid (bl_call HB1.out hb2); clear hr2 hb2 tk2 _t)
          | (go_at_call 19; have _t := tk3; (with_reducible refine (putvar_s a P _ ha HP.out).mono ?_); rintro e w3 ⟨A3, d3, rfl, hr3, hb3⟩; have HB3 := Lib.hid (bl_call HB2.out hb3); clear hr3 hb3 tk3 _t)
          | (go_at_call 19; have _t := tk4; (with_reducible refine (putvar_s b Q _ hb HQ.out).mono ?_); rintro e w4 ⟨A4, d4, rfl, hr4, hb4⟩; have HB4 := Lib.hid (bl_call HB3.out hb4); clear hr4 hb4 tk4 _t)
          | (go_at_call 12; (with_reducible refine (awake_any _).mono ?_); rintro e w5 ⟨rfl, hb⟩; have HB5 := Lib.hid (bl_call HB4.out hb); clear hb))
        all_goals (go_ret; exact ⟨rfl, HB5.out⟩)
end Go.Proofs.Ytkidgijoopdidaa
