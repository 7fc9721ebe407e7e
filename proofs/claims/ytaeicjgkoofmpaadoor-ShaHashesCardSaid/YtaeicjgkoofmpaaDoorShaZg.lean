/- The reference's numbers of 128 bits. The reference's powers and roots. The reference's root. The reference's primes. The reference's constants. The reference's block: the schedule. The reference's block. -/
import Derived.Test.YtaeicjgkoofmpaaDoorShaT
import Derived.Test.YtaeicjgkoofmpaaDoorShaK
import Derived.Test.YtaeicjgkoofmpaaDoorShaD
namespace Go.Proofs.YtaeicjgkoofmpaaDoor
open Go.RowKit
set_option linter.unusedVariables false

def wideV (x : Nat) : Array Value := #[.int .u64 ((x / 18446744073709551616 : Nat) : Int), .int .u64 ((x % 18446744073709551616 : Nat) : Int)]
theorem wideV_size (x : Nat) : (wideV x).size = 2 := rfl
theorem and32 {n : Nat} (hn : n < 18446744073709551616) : bits .and .u64 (n : Int) 4294967295 = ((n % 4294967296 : Nat) : Int) := by
  rw [show (4294967295 : Int) = ((4294967295 : Nat) : Int) from rfl, u64_and_nat _ _ hn (by decide), show (4294967295 : Nat) = 2 ^ 32 - 1 from rfl, Nat.and_two_pow_sub_one_eq_mod]
theorem w64 {n : Nat} (hn : n < 18446744073709551616) : IntKind.u64.wrap (n : Int) = (n : Int) := by rw [IntKind.wrap_u64]; omega
theorem w64' (n : Nat) : IntKind.u64.wrap (n : Int) = ((n % 18446744073709551616 : Nat) : Int) := by rw [IntKind.wrap_u64]; omega
theorem mul_lt {a b : Nat} (ha : a < 4294967296) (hb : b < 4294967296) : a * b < 18446744065119617026 := by
  have := Nat.mul_le_mul (show a ≤ 4294967295 by omega) (show b ≤ 4294967295 by omega)
  omega
theorem times_hl (p q r s : Nat) (hp : p < 18446744065119617026) (hq : q < 18446744065119617026) (hr : r < 18446744065119617026) (hs : s < 18446744065119617026) (M : Nat) (hM : M = s / 4294967296 + q % 4294967296 + r % 4294967296) :
    (p * 18446744073709551616 + (q + r) * 4294967296 + s) % 18446744073709551616 = (M * 4294967296 % 18446744073709551616 + s % 4294967296) % 18446744073709551616 ∧
    (p * 18446744073709551616 + (q + r) * 4294967296 + s) / 18446744073709551616 = p + q / 4294967296 + r / 4294967296 + M / 4294967296 := by omega
theorem times_split (a b : Nat) : a * b = (a / 4294967296) * (b / 4294967296) * 18446744073709551616 + ((a / 4294967296) * (b % 4294967296) + (a % 4294967296) * (b / 4294967296)) * 4294967296 + (a % 4294967296) * (b % 4294967296) := by
  have ea : a = (a / 4294967296) * 4294967296 + a % 4294967296 := by omega
  have eb : b = (b / 4294967296) * 4294967296 + b % 4294967296 := by omega
  generalize a / 4294967296 = a1 at ea ⊢
  generalize a % 4294967296 = a0 at ea ⊢
  generalize b / 4294967296 = b1 at eb ⊢
  generalize b % 4294967296 = b0 at eb ⊢
  subst ea eb
  rw [show (18446744073709551616 : Nat) = 4294967296 * 4294967296 from rfl]
  generalize (4294967296 : Nat) = c
  grind
theorem cdiv (n : Nat) : (n : Int) / 4294967296 = ((n / 4294967296 : Nat) : Int) := by omega
theorem cmul (n : Nat) : (n : Int) * 4294967296 = ((n * 4294967296 : Nat) : Int) := by omega
theorem times_eq {a b : Nat} (ha : a < 18446744073709551616) (hb : b < 18446744073709551616) (P Q R S M X Y : Int)
    (hP : P = IntKind.u64.wrap ((a : Int) / 4294967296 * ((b : Int) / 4294967296))) (hQ : Q = IntKind.u64.wrap ((a : Int) / 4294967296 * bits .and .u64 (b : Int) 4294967295))
    (hR : R = IntKind.u64.wrap (bits .and .u64 (a : Int) 4294967295 * ((b : Int) / 4294967296))) (hS : S = IntKind.u64.wrap (bits .and .u64 (a : Int) 4294967295 * bits .and .u64 (b : Int) 4294967295))
    (hM : M = IntKind.u64.wrap (IntKind.u64.wrap (S / 4294967296 + bits .and .u64 Q 4294967295) + bits .and .u64 R 4294967295))
    (hX : X = IntKind.u64.wrap (IntKind.u64.wrap (IntKind.u64.wrap (P + Q / 4294967296) + R / 4294967296) + M / 4294967296))
    (hY : Y = IntKind.u64.wrap (IntKind.u64.wrap (M * 4294967296) + bits .and .u64 S 4294967295)) :
    X = ((a * b / 18446744073709551616 : Nat) : Int) ∧ Y = ((a * b % 18446744073709551616 : Nat) : Int) := by
  have a1 : a / 4294967296 < 4294967296 := by omega
  have a0 : a % 4294967296 < 4294967296 := by omega
  have b1 : b / 4294967296 < 4294967296 := by omega
  have b0 : b % 4294967296 < 4294967296 := by omega
  have lp := mul_lt a1 b1; have lq := mul_lt a1 b0; have lr := mul_lt a0 b1; have ls := mul_lt a0 b0
  rw [and32 hb] at hQ hS
  rw [and32 ha] at hR hS
  rw [cdiv, cdiv, ← Int.natCast_mul, w64 (by omega)] at hP
  rw [cdiv, ← Int.natCast_mul, w64 (by omega)] at hQ
  rw [cdiv, ← Int.natCast_mul, w64 (by omega)] at hR
  rw [← Int.natCast_mul, w64 (by omega)] at hS
  rw [times_split a b]
  generalize a / 4294967296 * (b / 4294967296) = p at *
  generalize a / 4294967296 * (b % 4294967296) = q at *
  generalize a % 4294967296 * (b / 4294967296) = r at *
  generalize a % 4294967296 * (b % 4294967296) = s at *
  subst hP hQ hR hS
  obtain ⟨e1, e2⟩ := times_hl p q r s lp lq lr ls _ rfl
  rw [e1, e2]
  rw [and32 (by omega), and32 (by omega), cdiv, ← Int.natCast_add, w64 (by omega), ← Int.natCast_add, w64 (by omega)] at hM
  generalize s / 4294967296 + q % 4294967296 + r % 4294967296 = m at *
  subst hM
  have e3 : (p * 18446744073709551616 + (q + r) * 4294967296 + s) / 18446744073709551616 < 18446744073709551616 := by omega
  rw [e2] at e3
  constructor
  · rw [hX, cdiv, ← Int.natCast_add, w64 (by omega), cdiv, ← Int.natCast_add, w64 (by omega), cdiv, ← Int.natCast_add, w64 (by omega)]
  · rw [hY, and32 (by omega), cmul, w64', ← Int.natCast_add, w64']
theorem infoWide : (Tryd.prog.info? 111).map (·.size) = some 2 := by kernel_rfl
set_option maxRecDepth 4000 in
set_option maxHeartbeats 1000000 in
theorem rtimes_any (a b : Nat) (w : World) (ha : a < 18446744073709551616) (hb : b < 18446744073709551616) : Calls Tryd.prog 79 #[.int .u64 a, .int .u64 b] w (Gives w (.agg (wideV (a * b)))) := by
  obtain ⟨eX, eY⟩ := times_eq ha hb _ _ _ _ _ _ _ rfl rfl rfl rfl rfl rfl rfl
  have EX := Lib.hid eX; have EY := Lib.hid eY; clear eX eY
  go_enter Tryd.func79, Tryd.ntmps79
  go_wp2_with fail
  rw [EX.out, EY.out]
  refine bodyPost_ret (v := .agg (wideV (a * b))) (results_cell_row Tryd.results79 _ _ w.heap.size 111 _ (0, 0) _ rfl (AR.made w _ _) Tryd.underlying111 rfl infoWide) rfl ⟨rfl, bl_self _ _⟩
theorem lex_lt (x y : Nat) : x < y ↔ (x / 18446744073709551616 < y / 18446744073709551616 ∨ x / 18446744073709551616 = y / 18446744073709551616 ∧ x % 18446744073709551616 < y % 18446744073709551616) := by omega
theorem rless_any (x y : Nat) (w : World) : Calls Tryd.prog 70 #[.agg (wideV x), .agg (wideV y)] w (Gives w (.bool (decide (x < y)))) := by
  have hl := lex_lt x y
  unfold wideV
  generalize x / 18446744073709551616 = a at *
  generalize x % 18446744073709551616 = b at *
  generalize y / 18446744073709551616 = c at *
  generalize y % 18446744073709551616 = d at *
  have HB : Hid (Below w.heap.size w ((w.alloc (.cells #[.int .u64 (a : Int), .int .u64 (b : Int)] 111)).alloc (.cells #[.int .u64 (c : Int), .int .u64 (d : Int)] 111))) := Lib.hid (bl_alloc _ (bl_alloc _ (Below.refl _ _)))
  by_cases h1 : a < c
  · have e : decide (x < y) = true := decide_eq_true (hl.2 (.inl h1))
    rw [e]
    have g1 : decide ((a : Int) < (c : Int)) = true := decide_eq_true (by omega)
    clear e hl
    go_enter Tryd.func70, Tryd.ntmps70
    go_wp2_with fail
    go_ret
    exact ⟨rfl, HB.out⟩
  · have g1 : decide ((a : Int) < (c : Int)) = false := decide_eq_false (by omega)
    by_cases h2 : a = c
    · subst h2
      by_cases h3 : b < d
      · have e : decide (x < y) = true := decide_eq_true (hl.2 (.inr ⟨rfl, h3⟩))
        rw [e]
        have g3 : decide ((b : Int) < (d : Int)) = true := decide_eq_true (by omega)
        clear e hl
        go_enter Tryd.func70, Tryd.ntmps70
        go_wp2_with fail
        go_ret
        exact ⟨rfl, HB.out⟩
      · have e : decide (x < y) = false := decide_eq_false (fun h => by rcases hl.1 h with h | ⟨_, h⟩ <;> omega)
        rw [e]
        have g3 : decide ((b : Int) < (d : Int)) = false := decide_eq_false (by omega)
        clear e hl
        go_enter Tryd.func70, Tryd.ntmps70
        go_wp2_with fail
        go_ret
        exact ⟨rfl, HB.out⟩
    · have e : decide (x < y) = false := decide_eq_false (fun h => by rcases hl.1 h with h | ⟨h, _⟩ <;> omega)
      rw [e]
      have g2 : ((a : Int) == (c : Int)) = false := by simp; omega
      clear e hl
      go_enter Tryd.func70, Tryd.ntmps70
      go_wp2_with fail
      go_ret
      exact ⟨rfl, HB.out⟩
theorem wideV_two (x : Nat) : wideV x = #[.int .u64 ((x / 18446744073709551616 : Nat) : Int), .int .u64 ((x % 18446744073709551616 : Nat) : Int)] := rfl
def powN (m : Nat) (t : Bool) : Nat := if t then m * m * m else m * m
theorem power_hi {m : Nat} (hm : m < 2199023255552) : IntKind.u64.wrap (((m * m % 18446744073709551616 * m / 18446744073709551616 : Nat) : Int) + IntKind.u64.wrap (((m * m / 18446744073709551616 : Nat) : Int) * (m : Int))) = ((m * m * m / 18446744073709551616 : Nat) : Int) ∧ m * m % 18446744073709551616 * m % 18446744073709551616 = m * m * m % 18446744073709551616 := by
  have h2 : m * m < 4835703278458516698824704 := by
    have := Nat.mul_le_mul (show m ≤ 2199023255551 by omega) (show m ≤ 2199023255551 by omega)
    omega
  have h3 : m * m / 18446744073709551616 * m < 18446744073709551616 := by
    have := Nat.mul_le_mul (show m * m / 18446744073709551616 ≤ 262144 by omega) (show m ≤ 2199023255551 by omega)
    omega
  have h4 : m * m % 18446744073709551616 * m < 18446744073709551616 * 2199023255552 := Nat.mul_lt_mul'' (Nat.mod_lt _ (by omega)) hm
  have e : m * m * m = m * m / 18446744073709551616 * m * 18446744073709551616 + m * m % 18446744073709551616 * m := by
    conv => lhs; rw [show m * m = m * m / 18446744073709551616 * 18446744073709551616 + m * m % 18446744073709551616 by omega]
    rw [Nat.add_mul, Nat.mul_right_comm]
  have h5 : m * m * m < 10633823966279326983230456482242756608 := by
    have := Nat.mul_le_mul (show m * m ≤ 4835703278458516698824703 by omega) (show m ≤ 2199023255551 by omega)
    omega
  rw [← Int.natCast_mul, w64 h3, ← Int.natCast_add]
  rw [e] at h5 ⊢
  generalize m * m / 18446744073709551616 * m = u at *
  generalize m * m % 18446744073709551616 * m = v at *
  rw [w64 (by omega)]
  omega
end Go.Proofs.YtaeicjgkoofmpaaDoor
namespace Go.Proofs.YtaeicjgkoofmpaaDoor
open Go.RowKit
set_option linter.unusedVariables false

theorem rtimes_at (a b x h l : Nat) (w : World) (ha : a < 18446744073709551616) (hb : b < 18446744073709551616) (hx : a * b = x) (hh : x / 18446744073709551616 = h) (hl : x % 18446744073709551616 = l) :
    Calls Tryd.prog 79 #[.int .u64 a, .int .u64 b] w (Gives w (.agg #[.int .u64 (h : Int), .int .u64 (l : Int)])) := by
  subst hx hh hl; exact rtimes_any a b w ha hb
set_option maxRecDepth 4000 in
set_option maxHeartbeats 1000000 in
theorem rpower_any (m : Nat) (t : Bool) (w : World) (hm : m < 2199023255552) : Calls Tryd.prog 71 #[.int .u64 m, .bool t] w (Gives w (.agg (wideV (powN m t)))) := by
  have hp := power_hi hm
  unfold powN
  obtain ⟨hq, hh⟩ : ∃ hq, m * m / 18446744073709551616 = hq := ⟨_, rfl⟩
  obtain ⟨l, hl⟩ : ∃ l, m * m % 18446744073709551616 = l := ⟨_, rfl⟩
  have hm6 : m < 18446744073709551616 := by omega
  have hl6 : l < 18446744073709551616 := by omega
  have zz : (#[.int .u64 0, .int .u64 0] : Array Value).size = 2 := rfl
  cases t with
  | false =>
    rw [if_neg (by simp), wideV_two, hh, hl]
    have H1 := Lib.hid hh; have H2 := Lib.hid hl; clear hp hh hl
    have A0 : Hid (AR (w.alloc (.cells #[.int .u64 0, .int .u64 0] 111)) w.heap.size 111 #[.int .u64 0, .int .u64 0]) := Lib.hid (AR.made _ _ _)
    go_enter Tryd.func71, Tryd.ntmps71
    go_wp2_with (first
      | (go_at_call 79; (with_reducible refine (rtimes_at m m (m * m) hq l _ hm6 hm6 rfl H1.out H2.out).mono ?_); rintro e w1 ⟨rfl, hb⟩; have HB := Lib.hid hb; have A1 := Lib.hid (A0.out.step hb); have B1 := Lib.hid (bl_call (bl_alloc _ (Below.refl w.heap.size w)) hb); clear hb)
      | ((with_reducible refine atOp ⟨none, .store 111 (.tmp 4) _, _, _, _, _⟩ ?_); refine wpList_store_row rfl 111 (.tmp 4) (.tmp 12) rfl w.heap.size #[.int .u64 (hq : Int), .int .u64 (l : Int)] rfl rfl 111 #[.int .u64 0, .int .u64 0] (A1.out.more _) infoWide rfl (by simp [Value.oneCell']) ?_))
    refine bodyPost_ret (v := .agg #[.int .u64 (hq : Int), .int .u64 (l : Int)]) (results_cell_row Tryd.results71 _ _ w.heap.size 111 _ (0, 0) _ rfl ((A1.out.more _).row _) Tryd.underlying111 rfl infoWide) rfl ⟨rfl, bl_row _ (bl_alloc _ B1.out) (Nat.le_refl _)⟩
  | true =>
    obtain ⟨e1, e2⟩ := hp
    rw [if_pos rfl, wideV_two, ← e1, ← e2, hh, hl]
    obtain ⟨h2, hh2⟩ : ∃ h2, l * m / 18446744073709551616 = h2 := ⟨_, rfl⟩
    obtain ⟨l2, hl2⟩ : ∃ l2, l * m % 18446744073709551616 = l2 := ⟨_, rfl⟩
    rw [hh2, hl2]
    have H1 := Lib.hid hh; have H2 := Lib.hid hl; have H3 := Lib.hid hh2; have H4 := Lib.hid hl2; clear e1 e2 hh hl hh2 hl2
    have A0 : Hid (AR (w.alloc (.cells #[.int .u64 0, .int .u64 0] 111)) w.heap.size 111 #[.int .u64 0, .int .u64 0]) := Lib.hid (AR.made _ _ _)
    have tk1 : True := trivial; have tk2 : True := trivial
    go_enter Tryd.func71, Tryd.ntmps71
    go_wp2_with (first
      | (go_at_call 79; have _t := tk1; (with_reducible refine (rtimes_at m m (m * m) hq l _ hm6 hm6 rfl H1.out H2.out).mono ?_); rintro e w1 ⟨rfl, hb⟩; have A1 := Lib.hid (A0.out.step hb); have B1 := Lib.hid (bl_call (bl_alloc _ (Below.refl w.heap.size w)) hb); clear hb tk1 _t)
      | (go_at_call 79; have _t := tk2; (with_reducible refine (rtimes_at l m (l * m) h2 l2 _ hl6 hm6 rfl H3.out H4.out).mono ?_); rintro e w2 ⟨rfl, hb⟩; have A2 := Lib.hid ((A1.out.more _).step hb); have S2 := Lib.hid ((AR.made w1 111 #[.int .u64 (hq : Int), .int .u64 (l : Int)]).step hb); have s0 := (S2.out.more (.cells #[.int .u64 (h2 : Int), .int .u64 (l2 : Int)] 111)).at (i := 0) (v := .int .u64 (hq : Int)) rfl; have B2 := Lib.hid (bl_call (bl_alloc _ B1.out) hb); clear hb tk2 _t)
      | ((with_reducible refine atOp ⟨none, .store 111 (.tmp 4) _, _, _, _, _⟩ ?_); refine wpList_store_row rfl 111 (.tmp 4) (.tmp 25) rfl w.heap.size #[.int .u64 _, .int .u64 (l2 : Int)] rfl rfl 111 #[.int .u64 0, .int .u64 0] (A2.out.more _) infoWide rfl (by simp [Value.oneCell']) ?_))
    refine bodyPost_ret (v := .agg #[.int .u64 _, .int .u64 (l2 : Int)]) (results_cell_row Tryd.results71 _ _ w.heap.size 111 _ (0, 0) _ rfl ((A2.out.more _).row _) Tryd.underlying111 rfl infoWide) rfl ⟨rfl, bl_row _ (bl_alloc _ B2.out) (Nat.le_refl _)⟩
end Go.Proofs.YtaeicjgkoofmpaaDoor
namespace Go.Proofs.YtaeicjgkoofmpaaDoor
open Go.RowKit
set_option linter.unusedVariables false

def rtN (W : Nat) (t : Bool) : Nat → Nat
  | 0 => 0
  | j + 1 => if W < powN (rtN W t j + 2 ^ (40 - j)) t then rtN W t j else rtN W t j + 2 ^ (40 - j)
theorem rtN_le (W : Nat) (t : Bool) : ∀ j, j ≤ 41 → rtN W t j + 2 ^ (41 - j) ≤ 2199023255552
  | 0, _ => by simp [rtN]
  | j + 1, h => by
    have ih := rtN_le W t j (by omega)
    rw [show 41 - j = (40 - j) + 1 by omega, Nat.pow_succ] at ih
    rw [show 41 - (j + 1) = 40 - j by omega]
    unfold rtN
    split <;> omega
def wantN (p : Nat) (t : Bool) : Nat := if t then p * 79228162514264337593543950336 else p * 18446744073709551616
structure RtI (w : World) (W : Nat) (wr : World) : Prop where
  row : AR wr w.heap.size 111 (wideV W)
  bel : Below w.heap.size w wr
theorem RtI.step {w wr W' : World} {W : Nat} (h : RtI w W wr) (hb : Below wr.heap.size wr W') : RtI w W W' := ⟨h.row.step hb, bl_call h.bel hb⟩
theorem root_start (p : Nat) (w : World) (hp : p < 4294967296) : RtI w (wantN p false) (w.alloc (.cells #[.int .u64 (p : Int), .int .u64 0] 111)) ∧ RtI w (wantN p true) (w.alloc (.cells #[.int .u64 ((p : Int) * 4294967296), .int .u64 0] 111)) := by
  have h := AR.made w 111
  refine ⟨⟨?_, bl_self _ _⟩, ⟨?_, bl_self _ _⟩⟩
  · have := h (wideV (wantN p false))
    unfold wideV wantN at this ⊢
    simp only [Bool.false_eq_true, if_false] at this ⊢
    rw [show p * 18446744073709551616 / 18446744073709551616 = p by omega, show p * 18446744073709551616 % 18446744073709551616 = 0 by omega] at this ⊢
    exact this
  · have := h (wideV (wantN p true))
    unfold wideV wantN at this ⊢
    simp only [if_true] at this ⊢
    rw [cmul]
    rw [show p * 79228162514264337593543950336 / 18446744073709551616 = p * 4294967296 by omega, show p * 79228162514264337593543950336 % 18446744073709551616 = 0 by omega] at this ⊢
    exact this
set_option maxRecDepth 4000 in
set_option maxHeartbeats 1000000 in
theorem root_any (p : Nat) (t : Bool) (w : World) (hp : p < 4294967296) : Calls Tryd.prog 64 #[.int .u64 p, .bool t] w (Gives w (.int .u64 (rtN (wantN p t) t 41))) := by
  have HS := Lib.hid (root_start p w hp)
  obtain ⟨W, hW⟩ : ∃ W, wantN p t = W := ⟨_, rfl⟩
  rw [hW]
  have HW := Lib.hid hW; clear hW
  go_enter Tryd.func64, Tryd.ntmps64
  go_upto_if 11 with fail
  go_cut [] (fun wc => Hid (RtI w W wc))
  case first =>
    cases t with
    | false =>
      go_wp2_with fail
      go_meet
      exact Lib.hid (HW.out ▸ HS.out.1)
    | true =>
      go_wp2_with fail
      go_meet
      exact Lib.hid (HW.out ▸ HS.out.2)
  case rest =>
    have HC := hcut
    clear hcut HS HW
    go_wp2_with fail
    go_loopw [6, 7] (fun m b wr => ∃ j : Nat, j ≤ 41 ∧ m = .int .u64 (rtN W t j) ∧ b = .int .i64 ((40 : Int) - j) ∧ Hid (RtI w W wr)) (fun _ b _ => (intOf b + 1).toNat)
    case atStart => exact ⟨0, by omega, rfl, by go_num, HC⟩
    case round =>
      obtain ⟨j, hj, rfl, rfl, HR⟩ := hrel
      have hle := rtN_le W t j hj
      by_cases hlt : j < 41
      · obtain ⟨b, hb⟩ : ∃ b : Nat, 40 - j = b := ⟨_, rfl⟩
        have eb : (40 : Int) - j = (b : Int) := by omega
        rw [show 41 - j = b + 1 by omega, Nat.pow_succ] at hle
        have hb40 : b ≤ 40 := by omega
        have hstep : rtN W t (j + 1) = if W < powN (rtN W t j + 2 ^ b) t then rtN W t j else rtN W t j + 2 ^ b := by rw [← hb]; rfl
        obtain ⟨M, hM⟩ : ∃ M, rtN W t j = M := ⟨_, rfl⟩
        rw [hM] at hle hstep ⊢
        rw [eb]
        obtain ⟨n, hn⟩ : ∃ n : Nat, M + 2 ^ b = n := ⟨_, rfl⟩
        have EN : IntKind.u64.wrap ((M : Int) + IntKind.u64.wrap (2 ^ b)) = (n : Int) := by
          rw [show (2 : Int) ^ b = ((2 ^ b : Nat) : Int) by rw [Int.natCast_pow]; rfl, w64 (by omega), ← Int.natCast_add, hn, w64 (by omega)]
        have hn41 : n < 2199023255552 := by have : 0 < 2 ^ b := Nat.two_pow_pos b; omega
        have HST := Lib.hid hstep; have HNN := Lib.hid hn; clear hstep hM hn hle
        go_upto_region 9 with fail
        skip
        have HRd : Hid (RtI w W wr.drew) := Lib.hid (HR.out.step (bl_drewN 1 (Below.refl _ _)))
        refine wp_region_held_drew (S := fun W' => AR W' w.heap.size 111 (wideV W)) (by kernel_rfl) HRd.out.row (fun hHeld => ?_)
        refine wpAnyH_take (i := 0) (oi := { dst := some 24, op := _, type := _, pos := _, after := _, guard := _ }) rfl (by kernel_rfl) (by kernel_rfl) (by kernel_rfl) (fun _ _ _ h => h) (yields_row (by rfl) 111 (.tmp 5) rfl w.heap.size rfl 111 (wideV W) _ (fun _ h => h) Tryd.underlying111 rfl infoWide) hHeld ?_
        (try simp only [Act.put, List.setIfInBounds_toArray, List.set_cons_zero, List.set_cons_succ])
        refine wpAnyH_take (i := 1) (oi := { dst := some 25, op := _, type := _, pos := _, after := _, guard := _ }) (v := ?v25) rfl (by kernel_rfl) (by kernel_rfl) (by kernel_rfl) (fun _ _ _ h => h) (Or.inl ⟨by rfl, ?y25⟩) (by assumption) ?r25
        case y25 => intro w9 hSw; go_simp <;> with_reducible rfl
        (try simp only [Act.put, List.setIfInBounds_toArray, List.set_cons_zero, List.set_cons_succ])
        refine wpAnyH_take (i := 2) (oi := { dst := some 26, op := _, type := _, pos := _, after := _, guard := _ }) (v := ?v26) rfl (by kernel_rfl) (by kernel_rfl) (by kernel_rfl) (fun _ _ _ h => h) (Or.inl ⟨by rfl, ?y26⟩) (by assumption) ?r26
        case y26 => intro w9 hSw; go_simp <;> with_reducible rfl
        (try simp only [Act.put, List.setIfInBounds_toArray, List.set_cons_zero, List.set_cons_succ])
        refine wpAnyH_ready (rs := [3]) (by kernel_rfl) (by simp) (AllReadyH.cons (o := { dst := some 27, op := _, type := _, pos := _, after := _, guard := _ }) rfl (fun K hK => ?_) AllReadyH.nil)
        go_simp
        go_at_call 71; refine (rpower_any n t _ hn41).mono ?_; rintro e w1 ⟨rfl, hb⟩; have HR1 := Lib.hid (HRd.out.step hb); clear hb
        refine hK.out _ _ ?_ (fun hHeld27 => ?_)
        · exact HR1.out.row
        clear hK K
        (try simp only [Act.put, List.setIfInBounds_toArray, List.set_cons_zero, List.set_cons_succ])
        refine wpAnyH_ready (rs := [4]) (by kernel_rfl) (by simp) (AllReadyH.cons (o := { dst := some 28, op := _, type := _, pos := _, after := _, guard := _ }) rfl (fun K hK => ?_) AllReadyH.nil)
        go_simp
        go_at_call 70; refine (rless_any W (powN n t) _).mono ?_; rintro e w2 ⟨rfl, hb⟩; have HR2 := Lib.hid (HR1.out.step hb); clear hb
        refine hK.out _ _ ?_ (fun hHeld28 => ?_)
        · exact HR2.out.row
        clear hK K
        (try simp only [Act.put, List.setIfInBounds_toArray, List.set_cons_zero, List.set_cons_succ])
        refine wpAnyH_take (i := 5) (oi := { dst := some 29, op := _, type := _, pos := _, after := _, guard := _ }) (v := ?v29) rfl (by kernel_rfl) (by kernel_rfl) (by kernel_rfl) (fun _ _ _ h => h) (Or.inl ⟨by rfl, ?y29⟩) (by assumption) ?r29
        case y29 => intro w9 hSw; go_simp <;> with_reducible rfl
        (try simp only [Act.put, List.setIfInBounds_toArray, List.set_cons_zero, List.set_cons_succ])
        refine wpAnyH_done (by kernel_rfl) ?_ _
        by_cases hc : W < powN n t
        · have hd : decide (W < powN n t) = true := decide_eq_true hc
          rw [hd]
          have HE : Hid (rtN W t (j + 1) = M) := Lib.hid (by rw [HST.out, HNN.out, if_pos hc])
          clear hc hd
          go_wp2_with fail
          go_roundw
          case rel => exact ⟨j + 1, by omega, by rw [HE.out], by go_num, HR2⟩
          case measure => simp [intOf]
        · have hd : decide (W < powN n t) = false := decide_eq_false hc
          rw [hd]
          have HE : Hid (rtN W t (j + 1) = n) := Lib.hid (by rw [HST.out, HNN.out, if_neg hc])
          clear hc hd
          go_wp2_with fail
          go_roundw
          case rel => exact ⟨j + 1, by omega, by rw [HE.out], by go_num, HR2⟩
          case measure => simp [intOf]
      · obtain rfl : j = 41 := by omega
        obtain ⟨Z, hZ⟩ : ∃ Z, rtN W t 41 = Z := ⟨_, rfl⟩
        rw [hZ]
        go_wp2_with fail
        go_ret
        exact ⟨by rw [hZ]; rfl, HR.out.bel⟩
end Go.Proofs.YtaeicjgkoofmpaaDoor
namespace Go.Proofs.YtaeicjgkoofmpaaDoor
open Go.RowKit
set_option linter.unusedVariables false

def prExt (l : List Nat) (n : Nat) : List Nat := if l.all (fun o => n % o != 0) then l ++ [n] else l
def prA : Nat → List Nat
  | 0 => []
  | k + 1 => prExt (prA k) (k + 2)
theorem prA_mono1 (k : Nat) : (prA k).length ≤ (prA (k + 1)).length := by
  show _ ≤ (prExt _ _).length
  unfold prExt
  split <;> simp
theorem prA_mono {a b : Nat} (h : a ≤ b) : (prA a).length ≤ (prA b).length := by
  induction h with
  | refl => exact Nat.le_refl _
  | step _ ih => exact Nat.le_trans ih (prA_mono1 _)
theorem prA_len : ∀ k, (prA k).length ≤ k
  | 0 => Nat.le_refl _
  | k + 1 => by
    have := prA_len k
    show (prExt _ _).length ≤ _
    unfold prExt
    split
    · rw [List.length_append]; show _ + 1 ≤ _; omega
    · omega
theorem prA_pos : ∀ k, ∀ o ∈ prA k, 2 ≤ o ∧ o < k + 2
  | 0, o, h => by simp [prA] at h
  | k + 1, o, h => by
    have ih := prA_pos k
    have h : o ∈ prExt (prA k) (k + 2) := h
    unfold prExt at h
    split at h
    · rcases List.mem_append.1 h with h | h
      · have := ih o h; omega
      · simp at h; omega
    · have := ih o h; omega
def qL (l : List Nat) : List Value := l.map fun (x : Nat) => Value.int .u64 x
theorem info_u64 : (Tryd.prog.info? 73).map (fun i => (i.zero, i.size, i.bytes)) = some (some (.int .u64 0), 1, 8) := by kernel_rfl
/-- The slice v holds the numbers xs, k of them, in memory from block B on. -/
def QO (w : World) (B : Nat) (v : Value) (k : Nat) (xs : List Nat) : Prop := w.ownsRow B 73 1 v k (qL xs)
theorem QO.k {w : World} {B : Nat} {v : Value} {k : Nat} {xs : List Nat} (h : QO w B v k xs) : xs.length = k := by
  have h' : w.ownsRow B 73 1 v k (qL xs) := h
  have := h'.1
  simp [qL] at this
  omega
theorem QO.len {w : World} {B : Nat} {v : Value} {k : Nat} {xs : List Nat} (h : QO w B v k xs) : ∃ A c, v = .slice A k c := by
  have h' : w.ownsRow B 73 1 v k (qL xs) := h
  rcases h'.2 with ⟨rfl, h0⟩ | ⟨g, c, cur, rfl, _⟩
  · rw [h0]; exact ⟨_, _, rfl⟩
  · exact ⟨_, _, rfl⟩
theorem QO.at {w : World} {B : Nat} {A : Option Addr} {c : Nat} {k : Nat} {xs : List Nat} (h : QO w B (.slice A k c) k xs) {i : Nat} (hi : i < k) : ∃ g, A = some ⟨g, 0, none⟩ ∧ B ≤ g ∧ g < w.heap.size ∧ w.cell? ⟨g, i, none⟩ = some (.int .u64 (xs.getD i 0 : Nat)) := by
  have hk := h.k
  have h' : w.ownsRow B 73 1 (.slice A k c) k (qL xs) := h
  rcases h'.2 with ⟨e, h0⟩ | ⟨g, c2, cur, e, _⟩
  · omega
  · simp only [Value.slice.injEq] at e
    obtain ⟨rfl, _, rfl⟩ := e
    refine ⟨g, rfl, (h'.lt g rfl).1, (h'.lt g rfl).2, ?_⟩
    rw [h'.cellAt i (by omega), qL, List.getElem?_map, List.getElem?_eq_getElem (by omega), List.getD_eq_getElem?_getD, List.getElem?_eq_getElem (by omega)]
    rfl
theorem QO.put {w : World} {B : Nat} {v : Value} {xs : List Nat} {k : Nat} {x : Nat} (h : w.ownsRow B 73 1 v (k + 1) (qL xs ++ [.int .u64 x])) : QO w B v (k + 1) (xs ++ [x]) := by
  unfold QO
  rw [show qL (xs ++ [x]) = qL xs ++ [.int .u64 x] by simp [qL]]
  exact h
/-- The slice v reads as the numbers xs. -/
def QN (w : World) (B : Nat) (v : Value) (xs : List Nat) : Prop := ∃ g c, v = .slice (some ⟨g, 0, none⟩) xs.length c ∧ B ≤ g ∧ g < w.heap.size ∧ ∀ i, i < xs.length → w.cell? ⟨g, i, none⟩ = some (.int .u64 (xs.getD i 0 : Nat))
theorem QN.step {w W : World} {B : Nat} {v : Value} {xs : List Nat} (h : QN w B v xs) (hb : Below w.heap.size w W) : QN W B v xs := by
  obtain ⟨g, c, rfl, hB, hg, h⟩ := h
  exact ⟨g, c, rfl, hB, Nat.lt_of_lt_of_le hg hb.size, fun i hi => (hb.cell (p := ⟨g, i, none⟩) hg).trans (h i hi)⟩
theorem QO.qn {w : World} {B : Nat} {v : Value} {xs : List Nat} {k : Nat} (h : QO w B v k xs) (h0 : 0 < k) : QN w B v xs := by
  obtain ⟨A, c, rfl⟩ := h.len
  obtain ⟨g, rfl, hB, hg, _⟩ := h.at h0
  have hk := h.k
  subst hk
  refine ⟨g, c, rfl, hB, hg, fun i hi => ?_⟩
  obtain ⟨g', e, _, _, hc⟩ := h.at hi
  cases e
  exact hc
theorem take_all (l : List Nat) (n i : Nat) (h : i < l.length) : (l.take (i + 1)).all (fun o => n % o != 0) = ((l.take i).all (fun o => n % o != 0) && (n % l.getD i 0 != 0)) := by
  rw [List.take_add_one, List.all_append, List.getElem?_eq_getElem h, List.getD_eq_getElem?_getD, List.getElem?_eq_getElem h]
  simp
theorem prE (l : List Nat) (n : Nat) (f : Bool) (h : l.all (fun o => n % o != 0) = f) : prExt l n = if f then l ++ [n] else l := by unfold prExt; rw [h]
set_option maxRecDepth 4000 in
set_option maxHeartbeats 2000000 in
theorem primes_any (N K : Nat) (w : World) (hN : N ≤ 64) (hK : K ≤ 310) (h1 : (prA K).length = N) (h2 : (prA (K - 1)).length < N) : Calls Tryd.prog 63 #[.int .i64 N] w fun e w' => ∃ v, e = .returned v ∧ QN w' w.heap.size v (prA K) ∧ Below w.heap.size w w' := by
  obtain ⟨i0, hi, hz0, hz1, hz2⟩ := info_parts info_u64
  have HH1 := Lib.hid h1; have HH2 := Lib.hid h2; clear h1 h2
  go_enter Tryd.func63, Tryd.ntmps63
  go_wp2_with fail
  go_loopw [3, 4] (fun v n wr => ∃ (k L : Nat) (A : Option Addr) (c : Nat), k ≤ K ∧ v = .slice A L c ∧ n = .int .u64 ((k : Int) + 2) ∧ Hid (QO wr w.heap.size (.slice A L c) L (prA k)) ∧ Hid (Below w.heap.size w wr)) (fun _ n _ => 1000 - (intOf n).toNat)
  case atStart => exact ⟨0, 0, none, 0, by omega, rfl, by go_num, Lib.hid (World.ownsRow_nil _ _ _ _), Lib.hid (Below.refl _ _)⟩
  case round =>
    obtain ⟨k, L, A, c, hk, rfl, rfl, HO, HB⟩ := hrel
    have hL := HO.out.k
    have hLk := prA_len k
    by_cases hlt : L < N
    · have hkK : k < K := by
        rcases Nat.lt_or_ge k K with h | h
        · exact h
        · obtain rfl : k = K := by omega
          have := HH1.out; omega
      have HL := Lib.hid hL; have HLK := Lib.hid hLk; clear hLk hL
      have hL6 : L ≤ 310 := by have := HL.out; have := HLK.out; omega
      go_wp2_with fail
      go_loopw [5, 6] (fun f i wi => ∃ (j : Nat), j ≤ L ∧ f = .bool (((prA k).take j).all (fun o => (k + 2) % o != 0)) ∧ i = .int .i64 j ∧ wi = wr) (fun _ i _ => L - (intOf i).toNat)
      case atStart => exact ⟨0, by omega, rfl, by go_num, rfl⟩
      case round =>
        obtain ⟨j, hj, rfl, rfl, rfl⟩ := hrel
        by_cases hjl : j < L
        · obtain ⟨g, rfl, _, hg, hc⟩ := HO.out.at hjl
          have hx2 : 2 ≤ (prA k).getD j 0 := by
            have hjL : j < (prA k).length := by rw [HL.out]; exact hjl
            rw [List.getD_eq_getElem?_getD, List.getElem?_eq_getElem hjL]
            exact (prA_pos k _ (List.getElem_mem hjL)).1
          have hta := take_all (prA k) (k + 2) j (by rw [HL.out]; exact hjl)
          obtain ⟨x, hx⟩ : ∃ x, (prA k).getD j 0 = x := ⟨_, rfl⟩
          rw [hx] at hc hx2 hta
          obtain ⟨f, hf⟩ : ∃ f, ((prA k).take j).all (fun o => (k + 2) % o != 0) = f := ⟨_, rfl⟩
          rw [hf] at hta ⊢
          have er : ((k : Int) + 2) % (x : Int) = (((k + 2) % x : Nat) : Int) := by rw [Int.natCast_emod]; rfl
          by_cases hr : (k + 2) % x = 0
          · have hb : (((k : Int) + 2) % (x : Int) == 0) = true := by rw [er, hr]; rfl
            have HT : Hid (((prA k).take (j + 1)).all (fun o => (k + 2) % o != 0) = false) := Lib.hid (by rw [hta, hr]; simp)
            clear hta hx hf er
            go_wp2_with fail
            go_roundw
            case rel => exact ⟨j + 1, by omega, by rw [HT.out], by go_num, trivial⟩
            case measure => simp [intOf]; omega
          · have hb : (((k : Int) + 2) % (x : Int) == 0) = false := by rw [er]; exact beq_eq_false_iff_ne.2 (by omega)
            have HT : Hid (((prA k).take (j + 1)).all (fun o => (k + 2) % o != 0) = f) := Lib.hid (by rw [hta, bne_iff_ne.2 hr, Bool.and_true])
            clear hta hx hf er
            go_wp2_with fail
            go_roundw
            case rel => exact ⟨j + 1, by omega, by rw [HT.out], by go_num, trivial⟩
            case measure => simp [intOf]; omega
        · obtain ⟨f, hf⟩ : ∃ f, ((prA k).take j).all (fun o => (k + 2) % o != 0) = f := ⟨_, rfl⟩
          rw [hf]
          have hE : prA (k + 1) = if f then prA k ++ [k + 2] else prA k := prE _ _ _ (by rw [← hf, List.take_of_length_le (by rw [HL.out]; omega)])
          clear hf
          have ek : IntKind.u64.wrap ((k : Int) + 2 + 1) = (k : Int) + 2 + 1 := by rw [IntKind.wrap_u64]; omega
          cases f with
          | false =>
            have HE : Hid (prA (k + 1) = prA k) := Lib.hid (by rw [hE]; rfl)
            clear hE
            go_wp2_with fail
            go_roundw
            case rel => exact ⟨k + 1, L, A, c, by omega, rfl, by go_num, Lib.hid (by rw [HE.out]; exact HO.out), HB⟩
            case measure => simp [intOf]; omega
          | true =>
            have HE : Hid (prA (k + 1) = prA k ++ [k + 2]) := Lib.hid (by rw [hE]; rfl)
            clear hE
            go_wp2_with (at_builtin; refine wpList_append_own _ rfl _ _ 99 rfl w.heap.size 73 i0 (.int .u64 0) 1 8 Tryd.underlying99 hi hz0 hz1 hz2 rfl (by decide) _ L (qL (prA k)) rfl (World.ownsRow.alloc HO.out _) ⟨wr.heap.size, 0, none⟩ 1 1 [.int .u64 ((k + 2 : Nat) : Int)] rfl rfl (cells_new _ _ [_]) (by simp [Value.oneCell']) (by unfold maxLen; omega) (by omega) (by have := HB.out.size; simp; omega) ?_; intro v2 w2 hown hgrow _; have hbw := (bl_alloc _ HB.out).grown hgrow (by have := HB.out.size; simp; omega) (fun k e => (World.ownsRow.lt HO.out k e).1); have HB2 := Lib.hid hbw; have HO2 : Hid (QO w2 w.heap.size v2 (L + 1) (prA (k + 1))) := Lib.hid (by rw [HE.out]; exact QO.put hown); clear hbw hown hgrow; obtain ⟨A2, c2, rfl⟩ := HO2.out.len)
            go_roundw
            case rel => exact ⟨k + 1, L + 1, A2, c2, by omega, rfl, by go_num, HO2, HB2⟩
            case measure => simp [intOf]; omega
    · have hkK : k = K := by
        rcases Nat.lt_or_ge k K with h | h
        · have h3 := prA_mono (show k ≤ K - 1 by omega)
          have := HH2.out; omega
        · omega
      subst hkK
      have HQ := Lib.hid (HO.out.qn (by have := HH2.out; omega))
      go_wp2_with fail
      go_ret
      exact ⟨_, rfl, HQ.out, HB.out⟩
end Go.Proofs.YtaeicjgkoofmpaaDoor
namespace Go.Proofs.YtaeicjgkoofmpaaDoor
open Go.RowKit
set_option linter.unusedVariables false

set_option maxRecDepth 100000 in
theorem pr64_len : (prA 310).length = 64 := by decide +kernel
set_option maxRecDepth 100000 in
theorem pr64_less : (prA 309).length < 64 := by decide +kernel
theorem pr8_len : (prA 18).length = 8 := by decide +kernel
theorem pr8_less : (prA 17).length < 8 := by decide +kernel
def rootL (t : Bool) (l : List Nat) : List Nat := l.map fun p => rtN (wantN p t) t 41 % 4294967296
set_option maxRecDepth 100000 in
theorem roots_k : rootL true (prA 310) = kL := by decide +kernel
set_option maxRecDepth 100000 in
theorem roots_h : rootL false (prA 18) = hL := by decide +kernel
theorem root_get {t : Bool} {l T : List Nat} (h : rootL t l = T) {i : Nat} (hi : i < l.length) : rtN (wantN (l.getD i 0) t) t 41 % 4294967296 = T.getD i 0 := by
  subst h
  unfold rootL
  rw [List.getD_eq_getElem?_getD, List.getD_eq_getElem?_getD, List.getElem?_map, List.getElem?_eq_getElem hi]
  rfl
theorem pr_small {k i : Nat} (hk : k ≤ 310) (hi : i < (prA k).length) : (prA k).getD i 0 < 4294967296 := by
  rw [List.getD_eq_getElem?_getD, List.getElem?_eq_getElem hi]
  have := prA_pos k _ (List.getElem_mem hi)
  simp only [Option.getD_some]
  omega
/-- The state of a table that is being made: k of its n entries. -/
structure CsI (w : World) (t : TypeId) (n : Nat) (T ps : List Nat) (v : Value) (k : Nat) (wr : World) : Prop where
  res : AR wr w.heap.size t (uV (List.replicate n 0))
  row : AR wr (w.heap.size + 1) t (uV (mix T (List.replicate n 0) k))
  qn : QN wr (w.heap.size + 2) v ps
  bel : Below w.heap.size w wr
theorem CsI.step {w wr W : World} {t : TypeId} {n k : Nat} {T ps : List Nat} {v : Value} (h : CsI w t n T ps v k wr) (hb : Below wr.heap.size wr W) : CsI w t n T ps v k W :=
  ⟨h.res.step hb, h.row.step hb, h.qn.step hb, bl_call h.bel hb⟩
theorem hole {T : List Nat} {n k : Nat} (hT : T.length = n) (hk : k < n) : (mix T (List.replicate n 0) k)[k]? = some 0 := by
  rw [mix_get (by omega) (by rw [List.length_replicate]; exact hk), List.getD_eq_getElem?_getD, List.getElem?_replicate, if_pos hk]; rfl
theorem CsI.put {w wr : World} {t : TypeId} {n k : Nat} {T ps : List Nat} {v : Value} (h : CsI w t n T ps v k wr) (hT : T.length = n) (hk : k < n) :
    CsI w t n T ps v (k + 1) (wr.setCell ⟨w.heap.size + 1, k, none⟩ (.int .u32 (T.getD k 0 : Nat))) := by
  refine ⟨h.res.kept (by simp) _, ?_, ?_, ?_⟩
  · have := h.row.put k (.int .u32 (T.getD k 0 : Nat))
    rw [uV_set, mix_set (by omega) (by simp; omega)] at this
    exact this
  · obtain ⟨g, c, rfl, hB, hg, hc⟩ := h.qn
    refine ⟨g, c, rfl, hB, by simpa using hg, fun i hi => ?_⟩
    have hne : g ≠ w.heap.size + 1 := by omega
    have e : (wr.setCell ⟨w.heap.size + 1, k, none⟩ (.int .u32 (T.getD k 0 : Nat))).heap[g]? = wr.heap[g]? := heap_setCell_other wr _ g _ hne
    rw [← hc i hi]
    exact World.cell?_of_block e
  · exact h.bel.setCell (by simp) _

set_option maxRecDepth 20000 in
set_option maxHeartbeats 2000000 in
theorem rconstants_any (w : World) : Calls Tryd.prog 45 #[] w (Gives w (.agg (uV kL))) := by
  have HI := Lib.hid (info64c kL rfl)
  have AZ0 : Hid (AR ((w.alloc (.cells (uV (List.replicate 64 0)) 68)).alloc (.cells (uV (List.replicate 64 0)) 68)) w.heap.size 68 (uV (List.replicate 64 0))) := Lib.hid ((AR.made _ _ _).more _)
  have AZ1 : Hid (AR ((w.alloc (.cells (uV (List.replicate 64 0)) 68)).alloc (.cells (uV (List.replicate 64 0)) 68)) (w.heap.size + 1) 68 (uV (List.replicate 64 0))) := Lib.hid (by have := AR.made (w.alloc (.cells (uV (List.replicate 64 0)) 68)) 68 (uV (List.replicate 64 0)); rw [size_more] at this; exact this)
  have BZ : Hid (Below w.heap.size w ((w.alloc (.cells (uV (List.replicate 64 0)) 68)).alloc (.cells (uV (List.replicate 64 0)) 68))) := Lib.hid (bl_alloc _ (bl_alloc _ (Below.refl _ _)))
  go_enter Tryd.func45, Tryd.ntmps45
  go_wp2_with (go_at_call 63; refine (primes_any 64 310 _ (by omega) (by omega) pr64_len pr64_less).mono ?_; rintro e w1 ⟨v, rfl, hq, hb⟩; rw [size_more, size_more] at hq; have HS : Hid (CsI w 68 64 kL (prA 310) v 0 w1) := Lib.hid ⟨AZ0.out.step hb, AZ1.out.step hb, hq, bl_call BZ.out hb⟩; clear hq hb)
  have hnn : (prA 310).length = 64 := pr64_len
  go_loopw [3] (fun i wr => ∃ k : Nat, k ≤ 64 ∧ i = .int .i64 k ∧ Hid (CsI w 68 64 kL (prA 310) v k wr)) (fun i _ => 64 - (intOf i).toNat)
  case atStart => exact ⟨0, by omega, rfl, HS⟩
  case round =>
    obtain ⟨k, hk, rfl, HC⟩ := hrel
    clear HS
    by_cases hlt : k < 64
    · obtain ⟨g, c, hv, hB, hg, hc⟩ := HC.out.qn
      subst hv
      rw [hnn] at hc ⊢
      have hck := hc k hlt
      clear hc
      have hp := pr_small (k := 310) (i := k) (by omega) (by rw [hnn]; exact hlt)
      have hr := root_get roots_k (i := k) (by rw [hnn]; exact hlt)
      obtain ⟨p, hpp⟩ : ∃ p, (prA 310).getD k 0 = p := ⟨_, rfl⟩
      rw [hpp] at hck hp hr
      obtain ⟨x, hx⟩ : ∃ x, rtN (wantN p true) true 41 = x := ⟨_, rfl⟩
      rw [hx] at hr
      have hx6 : x < 18446744073709551616 := by
        have := rtN_le (wantN p true) true 41 (by omega)
        rw [hx] at this; omega
      have HX := Lib.hid hx; have HR := Lib.hid hr
      clear hpp hx hr
      go_wp2_with (go_at_call 64; refine (root_any p true _ hp).mono ?_; rintro e w2 ⟨rfl, hb⟩; rw [HX.out]; have HC2 := Lib.hid (HC.out.step hb); have ck := HC2.out.row.at (i := k) (v := .int .u32 0) (uV_get (hole kL_len hlt)); have fk := HC2.out.row.free k; clear hb)
      go_roundw
      case rel => exact ⟨k + 1, by omega, by go_num, Lib.hid (by
        rw [show (x : Int) % 4294967296 = ((x % 4294967296 : Nat) : Int) by omega, HR.out]
        have := HC2.out.put kL_len hlt
        rw [hnn] at this
        exact this)⟩
      case measure => simp [intOf]; omega
    · have hkn : k = 64 := by omega
      have HF : Hid (AR wr (w.heap.size + 1) 68 (uV kL)) := Lib.hid (by have := HC.out.row; rw [hkn, mix_full kL_len (by rw [List.length_replicate])] at this; exact this)
      clear hkn
      go_wp2_with (first
        | ((with_reducible refine atOp ⟨some 18, _, _, _, _, _⟩ ?_); refine wpList_load_row rfl 68 _ rfl (w.heap.size + 1) rfl 68 (uV kL) (0, 0) _ HF.out Tryd.underlying68 rfl HI.out ?_)
        | ((with_reducible refine atOp ⟨none, .store 68 _ _, _, _, _, _⟩ ?_); refine wpList_store_row rfl 68 (.tmp 0) (.tmp 18) rfl w.heap.size (uV kL) rfl rfl 68 (uV (List.replicate 64 0)) HC.out.res HI.out rfl (uV_one _) ?_))
      refine bodyPost_ret (v := .agg (uV kL)) (results_cell_row Tryd.results45 _ _ w.heap.size 68 _ (0, 0) _ rfl (HC.out.res.row _) Tryd.underlying68 rfl HI.out) rfl ⟨rfl, bl_row _ HC.out.bel (by omega)⟩

set_option maxRecDepth 20000 in
set_option maxHeartbeats 2000000 in
theorem rstart_any (w : World) : Calls Tryd.prog 46 #[] w (Gives w (.agg (uV hL))) := by
  have HI := Lib.hid (info8 hL rfl)
  have AZ0 : Hid (AR ((w.alloc (.cells (uV (List.replicate 8 0)) 70)).alloc (.cells (uV (List.replicate 8 0)) 70)) w.heap.size 70 (uV (List.replicate 8 0))) := Lib.hid ((AR.made _ _ _).more _)
  have AZ1 : Hid (AR ((w.alloc (.cells (uV (List.replicate 8 0)) 70)).alloc (.cells (uV (List.replicate 8 0)) 70)) (w.heap.size + 1) 70 (uV (List.replicate 8 0))) := Lib.hid (by have := AR.made (w.alloc (.cells (uV (List.replicate 8 0)) 70)) 70 (uV (List.replicate 8 0)); rw [size_more] at this; exact this)
  have BZ : Hid (Below w.heap.size w ((w.alloc (.cells (uV (List.replicate 8 0)) 70)).alloc (.cells (uV (List.replicate 8 0)) 70))) := Lib.hid (bl_alloc _ (bl_alloc _ (Below.refl _ _)))
  go_enter Tryd.func46, Tryd.ntmps46
  go_wp2_with (go_at_call 63; refine (primes_any 8 18 _ (by omega) (by omega) pr8_len pr8_less).mono ?_; rintro e w1 ⟨v, rfl, hq, hb⟩; rw [size_more, size_more] at hq; have HS : Hid (CsI w 70 8 hL (prA 18) v 0 w1) := Lib.hid ⟨AZ0.out.step hb, AZ1.out.step hb, hq, bl_call BZ.out hb⟩; clear hq hb)
  have hnn : (prA 18).length = 8 := pr8_len
  go_loopw [3] (fun i wr => ∃ k : Nat, k ≤ 8 ∧ i = .int .i64 k ∧ Hid (CsI w 70 8 hL (prA 18) v k wr)) (fun i _ => 8 - (intOf i).toNat)
  case atStart => exact ⟨0, by omega, rfl, HS⟩
  case round =>
    obtain ⟨k, hk, rfl, HC⟩ := hrel
    clear HS
    by_cases hlt : k < 8
    · obtain ⟨g, c, hv, hB, hg, hc⟩ := HC.out.qn
      subst hv
      rw [hnn] at hc ⊢
      have hck := hc k hlt
      clear hc
      have hp := pr_small (k := 18) (i := k) (by omega) (by rw [hnn]; exact hlt)
      have hr := root_get roots_h (i := k) (by rw [hnn]; exact hlt)
      obtain ⟨p, hpp⟩ : ∃ p, (prA 18).getD k 0 = p := ⟨_, rfl⟩
      rw [hpp] at hck hp hr
      obtain ⟨x, hx⟩ : ∃ x, rtN (wantN p false) false 41 = x := ⟨_, rfl⟩
      rw [hx] at hr
      have hx6 : x < 18446744073709551616 := by
        have := rtN_le (wantN p false) false 41 (by omega)
        rw [hx] at this; omega
      have HX := Lib.hid hx; have HR := Lib.hid hr
      clear hpp hx hr
      go_wp2_with (go_at_call 64; refine (root_any p false _ hp).mono ?_; rintro e w2 ⟨rfl, hb⟩; rw [HX.out]; have HC2 := Lib.hid (HC.out.step hb); have ck := HC2.out.row.at (i := k) (v := .int .u32 0) (uV_get (hole hL_len hlt)); have fk := HC2.out.row.free k; clear hb)
      go_roundw
      case rel => exact ⟨k + 1, by omega, by go_num, Lib.hid (by
        rw [show (x : Int) % 4294967296 = ((x % 4294967296 : Nat) : Int) by omega, HR.out]
        have := HC2.out.put hL_len hlt
        rw [hnn] at this
        exact this)⟩
      case measure => simp [intOf]; omega
    · have hkn : k = 8 := by omega
      have HF : Hid (AR wr (w.heap.size + 1) 70 (uV hL)) := Lib.hid (by have := HC.out.row; rw [hkn, mix_full hL_len (by rw [List.length_replicate])] at this; exact this)
      clear hkn
      go_wp2_with (first
        | ((with_reducible refine atOp ⟨some 18, _, _, _, _, _⟩ ?_); refine wpList_load_row rfl 70 _ rfl (w.heap.size + 1) rfl 70 (uV hL) (0, 0) _ HF.out Tryd.underlying70 rfl HI.out ?_)
        | ((with_reducible refine atOp ⟨none, .store 70 _ _, _, _, _, _⟩ ?_); refine wpList_store_row rfl 70 (.tmp 0) (.tmp 18) rfl w.heap.size (uV hL) rfl rfl 70 (uV (List.replicate 8 0)) HC.out.res HI.out rfl (uV_one _) ?_))
      refine bodyPost_ret (v := .agg (uV hL)) (results_cell_row Tryd.results46 _ _ w.heap.size 70 _ (0, 0) _ rfl (HC.out.res.row _) Tryd.underlying70 rfl HI.out) rfl ⟨rfl, bl_row _ HC.out.bel (by omega)⟩
end Go.Proofs.YtaeicjgkoofmpaaDoor
namespace Go.Proofs.YtaeicjgkoofmpaaDoor
open Go.RowKit
set_option linter.unusedVariables false

theorem rrot_any (x n : Nat) (w : World) (hx : x < 4294967296) (h0 : 1 ≤ n) (h1 : n ≤ 31) : Calls Tryd.prog 65 #[.int .u32 x, .int .u64 n] w fun e w' => e = .returned (.int .u32 (rotN x n)) ∧ w = w' := by
  obtain ⟨m, hm⟩ : ∃ m : Nat, (32 : Int) - n = m := ⟨32 - n, by omega⟩
  have hb := rot_bits (n := n) (m := m) hx (by omega)
  have HB := Lib.hid hb; clear hb
  go_enter Tryd.func65, Tryd.ntmps65
  go_wp2_with fail
  go_ret
  exact ⟨ret_int (by first | exact HB.out | (rw [IntKind.wrap_u32]; exact HB.out)), rfl⟩
theorem rrot_at (x n r : Nat) (k : Int) (w : World) (hx : x < 4294967296) (hk : k = n) (h0 : 1 ≤ n) (h1 : n ≤ 31) (hr : rotN x n = r) : Calls Tryd.prog 65 #[.int .u32 x, .int .u64 k] w fun e w' => e = .returned (.int .u32 r) ∧ w = w' := by
  subst hk hr; exact rrot_any x n w hx h0 h1

/-- The memory of the reference's block, before the rounds: l is what is known of the schedule. -/
structure RbW (w : World) (st bs l : List Nat) (W : World) : Prop where
  ks : AR W w.heap.size 68 (uV kL)
  st : AR W (w.heap.size + 1) 70 (uV st)
  bx : AR W (w.heap.size + 1 + 1) 43 (yV bs)
  rs : AR W (w.heap.size + 1 + 1 + 1) 70 (uV (List.replicate 8 0))
  row : AR W (w.heap.size + 1 + 1 + 1 + 1) 68 (uV (pre64 l))
  bel : Below w.heap.size w W
theorem RbW.drawn {w W : World} {st bs l : List Nat} (h : RbW w st bs l W) (n : Nat) : RbW w st bs l (W.drewN n) := ⟨h.ks, h.st, h.bx, h.rs, h.row, bl_drewN n h.bel⟩
theorem RbW.put {w W : World} {st bs l : List Nat} (h : RbW w st bs l W) (hl : l.length < 64) (x : Nat) {i : Nat} (hi : i = l.length) : RbW w st bs (l ++ [x]) (W.setCell ⟨w.heap.size + 1 + 1 + 1 + 1, i, none⟩ (.int .u32 x)) := by
  subst hi
  refine ⟨h.ks.kept (show w.heap.size ≠ w.heap.size + 1 + 1 + 1 + 1 by omega) _, h.st.kept (show w.heap.size + 1 ≠ w.heap.size + 1 + 1 + 1 + 1 by omega) _, h.bx.kept (show w.heap.size + 1 + 1 ≠ w.heap.size + 1 + 1 + 1 + 1 by omega) _,
    h.rs.kept (show w.heap.size + 1 + 1 + 1 ≠ w.heap.size + 1 + 1 + 1 + 1 by omega) _, ?_, bl_set _ h.bel (show w.heap.size ≤ w.heap.size + 1 + 1 + 1 + 1 by omega)⟩
  have := h.row.put l.length (.int .u32 x)
  rw [uV_set, pre64_set hl] at this
  exact this
theorem RbW.get {w W : World} {st bs l : List Nat} (h : RbW w st bs l W) {i : Nat} (hi : i < l.length) : W.cell? ⟨w.heap.size + 1 + 1 + 1 + 1, i, none⟩ = some (.int .u32 (l.getD i 0)) := h.row.at (uV_get (pre64_get hi))
theorem RbW.byte {w W : World} {st bs l : List Nat} (h : RbW w st bs l W) {i : Nat} (hi : i < bs.length) : W.cell? ⟨w.heap.size + 1 + 1, i, none⟩ = some (.int .u8 (bs.getD i 0)) :=
  h.bx.at (yV_get (by rw [List.getD_eq_getElem?_getD, List.getElem?_eq_getElem hi]; rfl))
theorem RbW.start (w : World) (st bs : List Nat) {Z Y : Array Value} (hZ : Z = uV (List.replicate 8 0)) (hY : Y = uV (List.replicate 64 0)) :
    RbW w st bs [] (((((w.alloc (.cells (uV kL) 68)).alloc (.cells (uV st) 70)).alloc (.cells (yV bs) 43)).alloc (.cells Z 70)).alloc (.cells Y 68)) := by
  subst hZ hY
  refine ⟨((((AR.made _ _ _).more _).more _).more _).more _, ?_, ?_, ?_, ?_, bl_alloc _ (bl_alloc _ (bl_alloc _ (bl_alloc _ (bl_alloc _ (Below.refl _ _)))))⟩
  · have := AR.made (w.alloc (.cells (uV kL) 68)) 70 (uV st)
    rw [size_more] at this
    exact ((this.more _).more _).more _
  · have := AR.made ((w.alloc (.cells (uV kL) 68)).alloc (.cells (uV st) 70)) 43 (yV bs)
    rw [size_more, size_more] at this
    exact (this.more _).more _
  · have := AR.made (((w.alloc (.cells (uV kL) 68)).alloc (.cells (uV st) 70)).alloc (.cells (yV bs) 43)) 70 (uV (List.replicate 8 0))
    rw [size_more, size_more, size_more] at this
    exact this.more _
  · have := AR.made ((((w.alloc (.cells (uV kL) 68)).alloc (.cells (uV st) 70)).alloc (.cells (yV bs) 43)).alloc (.cells (uV (List.replicate 8 0)) 70)) 68 (uV (List.replicate 64 0))
    rw [size_more, size_more, size_more, size_more] at this
    exact this
end Go.Proofs.YtaeicjgkoofmpaaDoor
namespace Go.Proofs.YtaeicjgkoofmpaaDoor
open Go.RowKit
set_option linter.unusedVariables false

/-- The memory of the reference's block in the rounds: the state s lies at d. -/
structure RtW (w : World) (st bs : List Nat) (d : Nat) (s : List Nat) (W : World) : Prop where
  lo : w.heap.size + 1 + 1 + 1 + 1 < d
  ks : AR W w.heap.size 68 (uV kL)
  st : AR W (w.heap.size + 1) 70 (uV st)
  rs : AR W (w.heap.size + 1 + 1 + 1) 70 (uV (List.replicate 8 0))
  row : AR W (w.heap.size + 1 + 1 + 1 + 1) 68 (uV (sched bs))
  sx : AR W d 70 (uV s)
  bel : Below w.heap.size w W
theorem RtW.start {w W : World} {st bs : List Nat} (h : RbW w st bs (sched bs) W) : RtW w st bs W.heap.size st (W.alloc (.cells (uV st) 70)) := by
  have hr := h.row
  rw [pre64_full (sched_len bs)] at hr
  exact ⟨hr.inside, h.ks.more _, h.st.more _, h.rs.more _, hr.more _, AR.made _ _ _, bl_alloc _ h.bel⟩
theorem RtW.drawn {w W : World} {st bs s : List Nat} {d : Nat} (h : RtW w st bs d s W) (n : Nat) : RtW w st bs d s (W.drewN n) := ⟨h.lo, h.ks, h.st, h.rs, h.row, h.sx, bl_drewN n h.bel⟩
theorem RtW.rowS {w W : World} {st bs s : List Nat} {d : Nat} (h : RtW w st bs d s W) (s' : List Nat) : RtW w st bs d s' (W.setRow d (uV s')) := by
  have hl := h.lo
  exact ⟨h.lo, h.ks.apart (show w.heap.size ≠ d by omega) _, h.st.apart (show w.heap.size + 1 ≠ d by omega) _, h.rs.apart (show w.heap.size + 1 + 1 + 1 ≠ d by omega) _, h.row.apart (show w.heap.size + 1 + 1 + 1 + 1 ≠ d by omega) _, h.sx.row _, bl_row _ h.bel (by omega)⟩
theorem RtW.put {w W : World} {st bs s : List Nat} {d : Nat} (h : RtW w st bs d s W) (i x : Nat) : RtW w st bs d (s.set i x) (W.setCell ⟨d, i, none⟩ (.int .u32 x)) := by
  have hl := h.lo
  refine ⟨h.lo, h.ks.kept (show w.heap.size ≠ d by omega) _, h.st.kept (show w.heap.size + 1 ≠ d by omega) _, h.rs.kept (show w.heap.size + 1 + 1 + 1 ≠ d by omega) _, h.row.kept (show w.heap.size + 1 + 1 + 1 + 1 ≠ d by omega) _, ?_, bl_set _ h.bel (show w.heap.size ≤ d by omega)⟩
  have := h.sx.put i (.int .u32 x)
  rw [uV_set] at this
  exact this
theorem getD_at {l : List Nat} {i : Nat} (h : i < l.length) : l[i]? = some (l.getD i 0) := by rw [List.getD_eq_getElem?_getD, List.getElem?_eq_getElem h]; rfl
set_option maxRecDepth 20000 in
set_option maxHeartbeats 4000000 in
theorem rblock_any (st bs : List Nat) (w : World) (hst : st.length = 8) (hsw : WW st) (hbs : BB bs) (hlen : bs.length = 64) :
    Calls Tryd.prog 47 #[.agg (uV kL), .agg (uV st), .agg (yV bs)] w (Gives w (.agg (uV (blockL st bs)))) := by
  have HST := Lib.hid hst; have HL := Lib.hid hlen; have HBB := Lib.hid hbs; have HSW := Lib.hid hsw
  clear hst hlen hbs hsw
  go_enter Tryd.func47, Tryd.ntmps47
  go_wp2_with fail
  go_loopw [8] (fun i wr => ∃ k : Nat, k ≤ 16 ∧ i = .int .i64 k ∧ Hid (RbW w st bs ((List.range k).map (w0N bs)) wr)) (fun i _ => 16 - (intOf i).toNat)
  case atStart => exact ⟨0, by omega, rfl, Lib.hid (RbW.start w st bs (by kernel_rfl) (by kernel_rfl))⟩
  case round =>
    obtain ⟨k, hk, rfl, HS⟩ := hrel
    by_cases hlt : k < 16
    · obtain ⟨p, hp⟩ : ∃ p : Nat, p = 4 * k := ⟨_, rfl⟩
      obtain ⟨p1, hp1⟩ : ∃ p1 : Nat, p1 = 4 * k + 1 := ⟨_, rfl⟩
      obtain ⟨p2, hp2⟩ : ∃ p2 : Nat, p2 = 4 * k + 2 := ⟨_, rfl⟩
      obtain ⟨p3, hp3⟩ : ∃ p3 : Nat, p3 = 4 * k + 3 := ⟨_, rfl⟩
      have g0 := HS.out.byte (i := p) (by have := HL.out; omega)
      have g1 := HS.out.byte (i := p1) (by have := HL.out; omega)
      have g2 := HS.out.byte (i := p2) (by have := HL.out; omega)
      have g3 := HS.out.byte (i := p3) (by have := HL.out; omega)
      obtain ⟨x0, hx0⟩ : ∃ x, bs.getD p 0 = x := ⟨_, rfl⟩
      obtain ⟨x1, hx1⟩ : ∃ x, bs.getD p1 0 = x := ⟨_, rfl⟩
      obtain ⟨x2, hx2⟩ : ∃ x, bs.getD p2 0 = x := ⟨_, rfl⟩
      obtain ⟨x3, hx3⟩ : ∃ x, bs.getD p3 0 = x := ⟨_, rfl⟩
      rw [hx0] at g0; rw [hx1] at g1; rw [hx2] at g2; rw [hx3] at g3
      have b0 : x0 < 256 := by rw [← hx0]; exact HBB.out.get _
      have b1 : x1 < 256 := by rw [← hx1]; exact HBB.out.get _
      have b2 : x2 < 256 := by rw [← hx2]; exact HBB.out.get _
      have b3 : x3 < 256 := by rw [← hx3]; exact HBB.out.get _
      have HX : (x0 * 2 ^ 24 ||| x1 * 2 ^ 16 ||| x2 * 2 ^ 8 ||| x3 = w0N bs k) := (by rw [← hx0, ← hx1, ← hx2, ← hx3, hp, hp1, hp2, hp3]; rfl)
      have EX := or4_wrap b0 b1 b2 b3
      rw [HX] at EX
      clear HX
      have e0 : IntKind.i64.wrap (4 * (k : Int)) = (p : Int) := by rw [IntKind.wrap_i64]; omega
      have e1 : IntKind.i64.wrap ((p : Int) + 1) = (p1 : Int) := by rw [IntKind.wrap_i64]; omega
      have e2 : IntKind.i64.wrap ((p : Int) + 2) = (p2 : Int) := by rw [IntKind.wrap_i64]; omega
      have e3 : IntKind.i64.wrap ((p : Int) + 3) = (p3 : Int) := by rw [IntKind.wrap_i64]; omega
      have q0 : (p : Int) < 64 := by omega
      have q1 : (p1 : Int) < 64 := by omega
      have q2 : (p2 : Int) < 64 := by omega
      have q3 : (p3 : Int) < 64 := by omega
      have qk : (k : Int) < 64 := by omega
      clear hp hp1 hp2 hp3 hx0 hx1 hx2 hx3
      go_wp2_with fail
      go_still_tail 31, (by kernel_rfl)
      change wpList _ _ _ _ _ wr.drew
      have gk := HS.out.row.at (i := k) (v := .int .u32 0) (uV_get (pre64_hole (by simp) (by omega)))
      have fk := HS.out.row.free k
      go_wp2_with fail
      go_roundw
      case rel => exact ⟨k + 1, by omega, by go_num, Lib.hid (by rw [range_map_succ]; exact (HS.out.drawn 1).put (by simp; omega) _ (by simp))⟩
      case measure => simp [intOf]; omega
    · have HK16 : Hid (k = 16) := Lib.hid (by omega)
      replace HS : Hid (RbW w st bs (schN bs 0) wr) := Lib.hid (by have := HS.out; rw [HK16.out] at this; exact this)
      go_wp2_with fail
      go_loopw [9] (fun i wr => ∃ n : Nat, n ≤ 48 ∧ i = .int .i64 ((16 + n : Nat) : Int) ∧ Hid (RbW w st bs (schN bs n) wr)) (fun i _ => 64 - (intOf i).toNat)
      case atStart => exact ⟨0, by omega, rfl, HS⟩
      case round =>
        clear HS HK16
        obtain ⟨n, hn, rfl, HT⟩ := hrel
        have HSL := Lib.hid (schN_len bs n)
        by_cases hlt : n < 48
        · obtain ⟨j2, hj2⟩ : ∃ j : Nat, j = n + 14 := ⟨_, rfl⟩
          obtain ⟨j7, hj7⟩ : ∃ j : Nat, j = n + 9 := ⟨_, rfl⟩
          obtain ⟨j15, hj15⟩ : ∃ j : Nat, j = n + 1 := ⟨_, rfl⟩
          obtain ⟨j, hj⟩ : ∃ j : Nat, j = 16 + n := ⟨_, rfl⟩
          rw [← hj]
          obtain ⟨y2, hy2⟩ : ∃ y, (schN bs n).getD j2 0 = y := ⟨_, rfl⟩
          obtain ⟨y7, hy7⟩ : ∃ y, (schN bs n).getD j7 0 = y := ⟨_, rfl⟩
          obtain ⟨y15, hy15⟩ : ∃ y, (schN bs n).getD j15 0 = y := ⟨_, rfl⟩
          obtain ⟨y16, hy16⟩ : ∃ y, (schN bs n).getD n 0 = y := ⟨_, rfl⟩
          have hww := schN_ww HBB.out n
          have b2 : y2 < 4294967296 := by rw [← hy2]; exact hww.get _
          have b7 : y7 < 4294967296 := by rw [← hy7]; exact hww.get _
          have b15 : y15 < 4294967296 := by rw [← hy15]; exact hww.get _
          have b16 : y16 < 4294967296 := by rw [← hy16]; exact hww.get _
          have q2 := HT.out.get (i := j2) (by have := HSL.out; omega); have q7 := HT.out.get (i := j7) (by have := HSL.out; omega); have q15 := HT.out.get (i := j15) (by have := HSL.out; omega); have q16 := HT.out.get (i := n) (by have := HSL.out; omega)
          rw [hy2] at q2; rw [hy7] at q7; rw [hy15] at q15; rw [hy16] at q16
          have HX : Hid (addN (addN (addN (sm1 y2) y7) (sm0 y15)) y16 = extN (schN bs n)) := Lib.hid (by
            unfold extN
            rw [HSL.out, ← hy2, ← hy7, ← hy15, ← hy16, hj2, hj7, hj15, show 16 + n - 2 = n + 14 by omega, show 16 + n - 7 = n + 9 by omega, show 16 + n - 15 = n + 1 by omega, show 16 + n - 16 = n by omega])
          have e2 : IntKind.i64.wrap ((j : Int) - 2) = (j2 : Int) := by rw [IntKind.wrap_i64]; omega
          have e7 : IntKind.i64.wrap ((j : Int) - 7) = (j7 : Int) := by rw [IntKind.wrap_i64]; omega
          have e15 : IntKind.i64.wrap ((j : Int) - 15) = (j15 : Int) := by rw [IntKind.wrap_i64]; omega
          have e16 : IntKind.i64.wrap ((j : Int) - 16) = (n : Int) := by rw [IntKind.wrap_i64]; omega
          have r2 : (j2 : Int) < 64 := by omega
          have r7 : (j7 : Int) < 64 := by omega
          have r15 : (j15 : Int) < 64 := by omega
          have r16 : (n : Int) < 64 := by omega
          have rj : (j : Int) < 64 := by omega
          have HJ : Hid (j = 16 + n) := Lib.hid hj
          have gk := HT.out.row.at (i := j) (v := .int .u32 0) (uV_get (pre64_hole (by rw [HSL.out]; omega) (by omega)))
          have fk := HT.out.row.free j
          obtain ⟨r17, h17⟩ : ∃ r, rotN y2 17 = r := ⟨_, rfl⟩
          obtain ⟨r19, h19⟩ : ∃ r, rotN y2 19 = r := ⟨_, rfl⟩
          obtain ⟨r07, h07⟩ : ∃ r, rotN y15 7 = r := ⟨_, rfl⟩
          obtain ⟨r18, h18⟩ : ∃ r, rotN y15 18 = r := ⟨_, rfl⟩
          have HSM1 := xor3_bits (rotN_lt 17 b2) (rotN_lt 19 b2) (div_lt (n := 10) b2)
          have HSM0 := xor3_bits (rotN_lt 7 b15) (rotN_lt 18 b15) (div_lt (n := 3) b15)
          rw [h17, h19] at HSM1; rw [h07, h18] at HSM0
          have H17 := Lib.hid h17; have H19 := Lib.hid h19; have H07 := Lib.hid h07; have H18 := Lib.hid h18
          obtain ⟨m1, hm1⟩ : ∃ m, sm1 y2 = m := ⟨_, rfl⟩
          obtain ⟨m0, hm0⟩ : ∃ m, sm0 y15 = m := ⟨_, rfl⟩
          have E1 : bits .xor .u32 (bits .xor .u32 (r17 : Int) (r19 : Int)) ((y2 : Int) / 1024) = (m1 : Int) := by
            rw [← hm1, show (y2 : Int) / 1024 = ((y2 / 2 ^ 10 : Nat) : Int) by omega, HSM1, ← h17, ← h19]; rfl
          have E0 : bits .xor .u32 (bits .xor .u32 (r07 : Int) (r18 : Int)) ((y15 : Int) / 8) = (m0 : Int) := by
            rw [← hm0, show (y15 : Int) / 8 = ((y15 / 2 ^ 3 : Nat) : Int) by omega, HSM0, ← h07, ← h18]; rfl
          rw [hm1, hm0] at HX
          have tk1 : True := trivial; have tk2 : True := trivial; have tk3 : True := trivial; have tk4 : True := trivial
          clear hj hj2 hj7 hj15 hy2 hy7 hy15 hy16 hww h17 h19 h07 h18 HSM1 HSM0 hm1 hm0
          go_wp2_with fail
          go_region_held3 (fun W => W.cell? ⟨w.heap.size + 1 + 1 + 1 + 1, j2, none⟩ = some (.int .u32 y2) ∧ W.cell? ⟨w.heap.size + 1 + 1 + 1 + 1, j15, none⟩ = some (.int .u32 y15)) (exact ⟨q2, q15⟩) (fail)
          replace HT : Hid (RbW w st bs (schN bs n) wr.drew) := Lib.hid (HT.out.drawn 1)
          replace q7 : wr.drew.cell? ⟨w.heap.size + 1 + 1 + 1 + 1, j7, none⟩ = some (.int .u32 y7) := q7
          replace q16 : wr.drew.cell? ⟨w.heap.size + 1 + 1 + 1 + 1, n, none⟩ = some (.int .u32 y16) := q16
          replace gk : wr.drew.cell? ⟨w.heap.size + 1 + 1 + 1 + 1, j, none⟩ = some (.int .u32 0) := gk
          replace fk : wr.drew.frozen? ⟨w.heap.size + 1 + 1 + 1 + 1, j, none⟩ = false := fk
          clear q2 q15
          generalize wr.drew = wq at *
          go_wp2_with (first
            | (go_at_call 65; have _t := tk1; (with_reducible refine (rrot_at y2 17 r17 _ _ b2 (by omega) (by omega) (by omega) H17.out).mono ?_); rintro e w' ⟨rfl, rfl⟩; clear tk1 _t)
            | (go_at_call 65; have _t := tk2; (with_reducible refine (rrot_at y2 19 r19 _ _ b2 (by omega) (by omega) (by omega) H19.out).mono ?_); rintro e w' ⟨rfl, rfl⟩; clear tk2 _t)
            | (go_at_call 65; have _t := tk3; (with_reducible refine (rrot_at y15 7 r07 _ _ b15 (by omega) (by omega) (by omega) H07.out).mono ?_); rintro e w' ⟨rfl, rfl⟩; clear tk3 _t)
            | (go_at_call 65; have _t := tk4; (with_reducible refine (rrot_at y15 18 r18 _ _ b15 (by omega) (by omega) (by omega) H18.out).mono ?_); rintro e w' ⟨rfl, rfl⟩; clear tk4 _t))
          go_still_tail 15, (by kernel_rfl)
          have gkd : wq.drew.cell? ⟨w.heap.size + 1 + 1 + 1 + 1, j, none⟩ = some (.int .u32 0) := gk
          have fkd : wq.drew.frozen? ⟨w.heap.size + 1 + 1 + 1 + 1, j, none⟩ = false := fk
          change wpList _ _ _ _ _ wq.drew
          go_wp2_with fail
          go_roundw
          case rel => exact ⟨n + 1, by omega, by rw [HJ.out]; go_num, Lib.hid (by
            rw [show ((m1 : Int) + y7 + m0 + y16) % 4294967296 = ((addN (addN (addN m1 y7) m0) y16 : Nat) : Int) by unfold addN; omega, HX.out]
            exact (HT.out.put (by rw [HSL.out]; omega) _ (by rw [HSL.out, HJ.out])).drawn 1)⟩
          case measure => simp [intOf]; omega
        · have HN : Hid (n = 48) := Lib.hid (by omega)
          have HF : Hid (RbW w st bs (sched bs) wr) := Lib.hid (by have := HT.out; rw [HN.out] at this; exact this)
          clear HT HN HSL
          go_wp2_with (first
            | ((with_reducible refine atOp ⟨some 103, _, _, _, _, _⟩ ?_); refine wpList_load_row rfl 70 _ rfl (w.heap.size + 1) rfl 70 (uV st) (0, 0) _ HF.out.st Tryd.underlying70 rfl (info8 st HST.out) ?_)
            | ((with_reducible refine atOp ⟨none, .store 70 _ _, _, _, _, _⟩ ?_); refine wpList_store_row rfl 70 (.tmp 14) (.tmp 103) rfl wr.heap.size (uV st) rfl rfl 70 (uV (List.replicate 8 0)) (AR.made wr _ _) (info8 _ HST.out) (by rw [uV_size, uV_size, HST.out]; rfl) (uV_one _) ?_; rw [World.setRow_alloc_new]))
          obtain ⟨d, hd⟩ : ∃ d, wr.heap.size = d := ⟨_, rfl⟩
          have HR : Hid (RtW w st bs d st (wr.alloc (.cells (uV st) 70))) := Lib.hid (by rw [← hd]; exact RtW.start HF.out)
          rw [hd]
          clear HF
          go_loopw [15] (fun i wx => ∃ t : Nat, t ≤ 64 ∧ i = .int .i64 t ∧ Hid (RtW w st bs d (runL (sched bs) st t) wx)) (fun i _ => 64 - (intOf i).toNat)
          case atStart => exact ⟨0, by omega, rfl, HR⟩
          case round =>
            clear HR hd
            obtain ⟨t, ht, rfl, HT⟩ := hrel
            by_cases hlt2 : t < 64
            · obtain ⟨x, hx⟩ : ∃ x, (sched bs).getD t 0 = x := ⟨_, rfl⟩
              obtain ⟨y, hy⟩ : ∃ y, kL.getD t 0 = y := ⟨_, rfl⟩
              have cx := HT.out.row.at (i := t) (v := .int .u32 x) (uV_get (by rw [getD_at (by rw [sched_len]; exact hlt2), hx]))
              have cy := HT.out.ks.at (i := t) (v := .int .u32 y) (uV_get (by rw [getD_at (by rw [kL_len]; exact hlt2), hy]))
              have hx4 : x < 4294967296 := by rw [← hx]; exact (sched_ww HBB.out).get _
              have hy4 : y < 4294967296 := by rw [← hy]; exact kL_ww.get _
              obtain ⟨s1, hs1⟩ : ∃ s1, runL (sched bs) st t = s1 := ⟨_, rfl⟩
              have h8 : s1.length = 8 := by rw [← hs1]; exact runL_len _ HST.out t
              have hw8 : WW s1 := by rw [← hs1]; exact runL_ww _ HST.out HSW.out t
              have hnext : runL (sched bs) st (t + 1) = stepL s1 y x := by rw [← hs1, ← hx, ← hy]; rfl
              rw [hs1] at HT
              obtain ⟨s0, s2, s3, s4, s5, s6, s7, s8, rfl⟩ := len8 h8
              have hm : ∀ z ∈ [s0, s2, s3, s4, s5, s6, s7, s8], z < 4294967296 := hw8
              simp only [List.mem_cons, List.not_mem_nil, or_false] at hm
              have l0 := hm s0 (by simp); have l2 := hm s2 (by simp); have l3 := hm s3 (by simp); have l4 := hm s4 (by simp)
              have l5 := hm s5 (by simp); have l6 := hm s6 (by simp); have l7 := hm s7 (by simp); have l8 := hm s8 (by simp)
              have c0 := HT.out.sx.at (i := 0) (v := .int .u32 s0) rfl
              have c1 := HT.out.sx.at (i := 1) (v := .int .u32 s2) rfl
              have c2 := HT.out.sx.at (i := 2) (v := .int .u32 s3) rfl
              have c3 := HT.out.sx.at (i := 3) (v := .int .u32 s4) rfl
              have c4 := HT.out.sx.at (i := 4) (v := .int .u32 s5) rfl
              have c5 := HT.out.sx.at (i := 5) (v := .int .u32 s6) rfl
              have c6 := HT.out.sx.at (i := 6) (v := .int .u32 s7) rfl
              have c7 := HT.out.sx.at (i := 7) (v := .int .u32 s8) rfl
              have rt : (t : Int) < 64 := by omega
              have HN := Lib.hid hnext
              clear hx hy hs1 h8 hw8 hm hnext
              have hsg : IntKind.u32.signed = false := rfl
              obtain ⟨r6, h6⟩ : ∃ r, rotN s5 6 = r := ⟨_, rfl⟩
              obtain ⟨r11, h11⟩ : ∃ r, rotN s5 11 = r := ⟨_, rfl⟩
              obtain ⟨r25, h25⟩ : ∃ r, rotN s5 25 = r := ⟨_, rfl⟩
              obtain ⟨r2, h2⟩ : ∃ r, rotN s0 2 = r := ⟨_, rfl⟩
              obtain ⟨r13, h13⟩ : ∃ r, rotN s0 13 = r := ⟨_, rfl⟩
              obtain ⟨r22, h22⟩ : ∃ r, rotN s0 22 = r := ⟨_, rfl⟩
              obtain ⟨g1, hg1⟩ : ∃ m, lg1 s5 = m := ⟨_, rfl⟩
              obtain ⟨g0, hg0⟩ : ∃ m, lg0 s0 = m := ⟨_, rfl⟩
              obtain ⟨ch, hch⟩ : ∃ m, chN s5 s6 s7 = m := ⟨_, rfl⟩
              obtain ⟨mj, hmj⟩ : ∃ m, mjN s0 s2 s3 = m := ⟨_, rfl⟩
              have EG1 : bits .xor .u32 (bits .xor .u32 (r6 : Int) (r11 : Int)) (r25 : Int) = (g1 : Int) := by
                rw [← h6, ← h11, ← h25, xor3_bits (rotN_lt 6 l5) (rotN_lt 11 l5) (rotN_lt 25 l5), ← hg1]; rfl
              have EG0 : bits .xor .u32 (bits .xor .u32 (r2 : Int) (r13 : Int)) (r22 : Int) = (g0 : Int) := by
                rw [← h2, ← h13, ← h22, xor3_bits (rotN_lt 2 l0) (rotN_lt 13 l0) (rotN_lt 22 l0), ← hg0]; rfl
              have ECH : bits .xor .u32 (bits .and .u32 (s5 : Int) (s6 : Int)) (bits .and .u32 (bits .xor .u32 IntKind.u32.max (s5 : Int)) (s7 : Int)) = (ch : Int) := by
                rw [not_u32 l5, u32_and_nat _ _ l5 l6, u32_and_nat _ _ (by omega) l7, u32_xor_nat _ _ (and_lt _ l5) (and_lt _ (by omega)), chN_xor l5, hch]
              have EMJ : bits .xor .u32 (bits .xor .u32 (bits .and .u32 (s0 : Int) (s2 : Int)) (bits .and .u32 (s0 : Int) (s3 : Int))) (bits .and .u32 (s2 : Int) (s3 : Int)) = (mj : Int) := by
                rw [u32_and_nat _ _ l0 l2, u32_and_nat _ _ l0 l3, u32_and_nat _ _ l2 l3, u32_xor_nat _ _ (and_lt _ l0) (and_lt _ l0), u32_xor_nat _ _ (xor_lt (and_lt _ l0) (and_lt _ l0)) (and_lt _ l2), mjN_xor, hmj]
              have H6 := Lib.hid h6; have H11 := Lib.hid h11; have H25 := Lib.hid h25; have H2 := Lib.hid h2; have H13 := Lib.hid h13; have H22 := Lib.hid h22
              have HG1 := Lib.hid hg1; have HG0 := Lib.hid hg0; have HCH := Lib.hid hch; have HMJ := Lib.hid hmj
              clear h6 h11 h25 h2 h13 h22 hg1 hg0 hch hmj
              go_wp2_with fail
              go_region_held3 (fun W => W.cell? ⟨d, 0, none⟩ = some (.int .u32 s0) ∧ W.cell? ⟨d, 1, none⟩ = some (.int .u32 s2) ∧ W.cell? ⟨d, 2, none⟩ = some (.int .u32 s3) ∧ W.cell? ⟨d, 4, none⟩ = some (.int .u32 s5) ∧ W.cell? ⟨d, 5, none⟩ = some (.int .u32 s6) ∧ W.cell? ⟨d, 6, none⟩ = some (.int .u32 s7)) (exact ⟨c0, c1, c2, c4, c5, c6⟩) (fail)
              replace HT : Hid (RtW w st bs d [s0, s2, s3, s4, s5, s6, s7, s8] wr.drew) := Lib.hid (HT.out.drawn 1)
              replace c3 : wr.drew.cell? ⟨d, 3, none⟩ = some (.int .u32 s4) := c3
              replace c7 : wr.drew.cell? ⟨d, 7, none⟩ = some (.int .u32 s8) := c7
              replace cx : wr.drew.cell? ⟨w.heap.size + 1 + 1 + 1 + 1, t, none⟩ = some (.int .u32 x) := cx
              replace cy : wr.drew.cell? ⟨w.heap.size, t, none⟩ = some (.int .u32 y) := cy
              clear c0 c1 c2 c4 c5 c6
              generalize wr.drew = wq at *
              go_wp2_with fail
              go_region_held3 (fun W => W.cell? ⟨d, 7, none⟩ = some (.int .u32 s8) ∧ W.cell? ⟨w.heap.size + 1 + 1 + 1 + 1, t, none⟩ = some (.int .u32 x) ∧ W.cell? ⟨w.heap.size, t, none⟩ = some (.int .u32 y)) (exact ⟨c7, cx, cy⟩) (first
                | (go_at_call 65; (with_reducible refine (rrot_at s5 6 r6 _ _ l5 (by omega) (by omega) (by omega) H6.out).mono ?_); rintro e w' ⟨rfl, rfl⟩)
                | (go_at_call 65; (with_reducible refine (rrot_at s5 11 r11 _ _ l5 (by omega) (by omega) (by omega) H11.out).mono ?_); rintro e w' ⟨rfl, rfl⟩)
                | (go_at_call 65; (with_reducible refine (rrot_at s5 25 r25 _ _ l5 (by omega) (by omega) (by omega) H25.out).mono ?_); rintro e w' ⟨rfl, rfl⟩))
              rw [add_wrap, add_wrap, add_wrap, add_wrap]
              obtain ⟨u, hu⟩ : ∃ u, addN (addN (addN (addN s8 g1) ch) y) x = u := ⟨_, rfl⟩
              obtain ⟨v, hv⟩ : ∃ v, addN g0 mj = v := ⟨_, rfl⟩
              obtain ⟨n0, hn0⟩ : ∃ v', addN u v = v' := ⟨_, rfl⟩
              obtain ⟨n4, hn4⟩ : ∃ v', addN s4 u = v' := ⟨_, rfl⟩
              rw [hu]
              have v1 : IntKind.u32.wrap ((g0 : Int) + mj) = (v : Int) := by rw [add_wrap, hv]
              have v2 : IntKind.u32.wrap ((u : Int) + v) = (n0 : Int) := by rw [add_wrap, hn0]
              have v3 : IntKind.u32.wrap ((s4 : Int) + u) = (n4 : Int) := by rw [add_wrap, hn4]
              have v4 : ((g0 : Int) + mj) % 4294967296 = (v : Int) := by rw [add_bits, hv]
              have v5 : ((u : Int) + v) % 4294967296 = (n0 : Int) := by rw [add_bits, hn0]
              have v6 : ((s4 : Int) + u) % 4294967296 = (n4 : Int) := by rw [add_bits, hn4]
              have HNX : Hid (stepL [s0, s2, s3, s4, s5, s6, s7, s8] y x = [n0, s0, s2, s3, n4, s5, s6, s7]) := Lib.hid (by
                rw [← hn0, ← hn4, ← hu, ← hv, ← HG1.out, ← HG0.out, ← HCH.out, ← HMJ.out]; rfl)
              replace HT : Hid (RtW w st bs d [s0, s2, s3, s4, s5, s6, s7, s8] wq.drew) := Lib.hid (HT.out.drawn 1)
              replace c3 : wq.drew.cell? ⟨d, 3, none⟩ = some (.int .u32 s4) := c3
              clear c7 cx cy EG1 ECH hu hv hn0 hn4
              generalize wq.drew = wp at *
              go_wp2_with (first
                | (go_at_call 65; (with_reducible refine (rrot_at s0 2 r2 _ _ l0 (by omega) (by omega) (by omega) H2.out).mono ?_); rintro e w' ⟨rfl, rfl⟩)
                | (go_at_call 65; (with_reducible refine (rrot_at s0 13 r13 _ _ l0 (by omega) (by omega) (by omega) H13.out).mono ?_); rintro e w' ⟨rfl, rfl⟩)
                | (go_at_call 65; (with_reducible refine (rrot_at s0 22 r22 _ _ l0 (by omega) (by omega) (by omega) H22.out).mono ?_); rintro e w' ⟨rfl, rfl⟩)
                | ((with_reducible refine atOp ⟨none, .store 70 _ _, _, _, _, _⟩ ?_); refine wpList_store_row rfl 70 (.tmp 14) (.tmp 181) rfl d (uV [n0, s0, s2, s3, n4, s5, s6, s7]) rfl rfl 70 (uV [s0, s2, s3, s4, s5, s6, s7, s8]) HT.out.sx (info8 _ rfl) rfl (uV_one _) ?_))
              go_roundw
              case rel => exact ⟨t + 1, by omega, by go_num, Lib.hid (by rw [HN.out, HNX.out]; exact HT.out.rowS _)⟩
              case measure => simp [intOf]; omega
            · have HK64 : Hid (t = 64) := Lib.hid (by omega)
              obtain ⟨z8, hz8⟩ : ∃ z8, runL (sched bs) st 64 = z8 := ⟨_, rfl⟩
              have h8 : z8.length = 8 := by rw [← hz8]; exact runL_len _ HST.out 64
              replace HT : Hid (RtW w st bs d z8 wr) := Lib.hid (by have := HT.out; rw [HK64.out, hz8] at this; exact this)
              obtain ⟨tt, htt⟩ : ∃ tt, blockL st bs = tt := ⟨_, rfl⟩
              have hg8 : ∀ k, k < 8 → addN (z8.getD k 0) (st.getD k 0) = tt.getD k 0 := fun k hk => by
                rw [← htt, ← hz8]
                have := (blockL_get (bs := bs) HST.out hk).symm
                rw [← this]; unfold addN; rw [Nat.add_comm]
              have ht8 : tt.length = 8 := by rw [← htt]; exact blockL_len _ HST.out
              have H8 := Lib.hid h8; have HG8 := Lib.hid hg8; have HT8 := Lib.hid ht8; have HTT := Lib.hid htt
              clear hz8 h8 hg8 ht8 htt
              go_wp2_with fail
              go_loopw [24] (fun i wr => ∃ k : Nat, k ≤ 8 ∧ i = .int .i64 k ∧ Hid (RtW w st bs d (mix tt z8 k) wr)) (fun i _ => 8 - (intOf i).toNat)
              case atStart => exact ⟨0, by omega, rfl, HT⟩
              case round =>
                clear HT
                obtain ⟨k2, hk2, rfl, HU⟩ := hrel
                by_cases hlt3 : k2 < 8
                · obtain ⟨x, hx⟩ : ∃ x, z8.getD k2 0 = x := ⟨_, rfl⟩
                  obtain ⟨y, hy⟩ : ∃ y, st.getD k2 0 = y := ⟨_, rfl⟩
                  have hg := HU.out.sx.at (i := k2) (v := .int .u32 x) (uV_get (by rw [mix_get (by rw [HT8.out]; omega) (by rw [H8.out]; omega), hx]))
                  have hf := HU.out.sx.free k2
                  have hs := HU.out.st.at (i := k2) (v := .int .u32 y) (uV_get (by rw [getD_at (by rw [HST.out]; omega), hy]))
                  have rk : (k2 : Int) < 8 := by omega
                  have HA := HG8.out k2 hlt3
                  rw [hx, hy] at HA
                  obtain ⟨z, hz⟩ : ∃ z, tt.getD k2 0 = z := ⟨_, rfl⟩
                  rw [hz] at HA
                  have v1 : IntKind.u32.wrap ((x : Int) + y) = (z : Int) := by rw [add_wrap, HA]
                  have v2 : ((x : Int) + y) % 4294967296 = (z : Int) := by rw [add_bits, HA]
                  have HZ := Lib.hid hz
                  clear hx hy HA hz
                  go_wp2_with fail
                  go_still_tail 9, (by kernel_rfl)
                  have hgd : wr.drew.cell? ⟨d, k2, none⟩ = some (.int .u32 x) := hg
                  have hfd : wr.drew.frozen? ⟨d, k2, none⟩ = false := hf
                  change wpList _ _ _ _ _ wr.drew
                  go_wp2_with fail
                  go_roundw
                  case rel => exact ⟨k2 + 1, by omega, by go_num, Lib.hid (by
                    have := (HU.out.put k2 z).drawn 1
                    rw [← HZ.out, mix_set (by rw [HT8.out]; omega) (by rw [H8.out]; omega)] at this
                    rw [← HZ.out]
                    exact this)⟩
                  case measure => simp [intOf]; omega
                · have HK3 : Hid (k2 = 8) := Lib.hid (by omega)
                  replace HU : Hid (RtW w st bs d tt wr) := Lib.hid (by have := HU.out; rw [HK3.out, mix_full HT8.out H8.out] at this; exact this)
                  go_wp2_with (first
                    | ((with_reducible refine atOp ⟨some 195, _, _, _, _, _⟩ ?_); refine wpList_load_row rfl 70 _ rfl d rfl 70 (uV tt) (0, 0) _ HU.out.sx Tryd.underlying70 rfl (info8 tt HT8.out) ?_)
                    | ((with_reducible refine atOp ⟨none, .store 70 _ _, _, _, _, _⟩ ?_); refine wpList_store_row rfl 70 (.tmp 6) (.tmp 195) rfl (w.heap.size + 1 + 1 + 1) (uV tt) rfl rfl 70 (uV (List.replicate 8 0)) HU.out.rs (info8 _ HT8.out) (by rw [uV_size, uV_size, HT8.out]; rfl) (uV_one _) ?_))
                  refine bodyPost_ret (v := .agg (uV tt)) (results_cell_row Tryd.results47 _ _ (w.heap.size + 1 + 1 + 1) 70 _ (0, 0) _ rfl (HU.out.rs.row _) Tryd.underlying70 rfl (info8 tt HT8.out)) rfl ⟨by rw [HTT.out], bl_row _ HU.out.bel (by omega)⟩
end Go.Proofs.YtaeicjgkoofmpaaDoor
