/- Plain mathematics: the block of a key, its pads, the tag of bytes. Slices that are cut; the program's collecting and comparing of bytes. The program's Equal. Copies into bytes of one's own; the block of a key. The program's padOf. The inner hash of a mac, by value: write, sum. Structs that are built of rows. The program's newInner. A mac in memory; the program's New. A mac's methods: isMade, tag. A mac's methods: tag, Write, Tag, Reset. A mac's methods: Write, Tag, Reset, Verify; Tag, Verify. -/
import Derived.Test.YtaeicjgkoofmpaaDoorShaN
import Derived.Test.YtaeicjgkoofmpaaDoorShaH
import Derived.Test.YtaeicjgkoofmpaaDoorShaU
import Derived.Test.YtaeicjgkoofmpaaDoorShaT
namespace Go.Proofs.YtaeicjgkoofmpaaDoor
set_option linter.unusedVariables false

/-! ### the block of a key -/
def kbL (key : List Nat) : List Nat := if 64 < key.length then shaL key ++ List.replicate 32 0 else key ++ List.replicate (64 - key.length) 0
theorem kbL_long {key : List Nat} (h : 64 < key.length) : kbL key = shaL key ++ List.replicate 32 0 := if_pos h
theorem kbL_short {key : List Nat} (h : key.length ≤ 64) : kbL key = key ++ List.replicate (64 - key.length) 0 := if_neg (by omega)
theorem kbL_len (key : List Nat) : (kbL key).length = 64 := by
  rcases Nat.lt_or_ge 64 key.length with h | h
  · rw [kbL_long h, List.length_append, shaL_len, List.length_replicate]
  · rw [kbL_short h, List.length_append, List.length_replicate]; omega
theorem BB.zeros (n : Nat) : BB (List.replicate n 0) := fun x hx => by rw [List.eq_of_mem_replicate hx]; decide
theorem kbL_bb {key : List Nat} (hb : BB key) : BB (kbL key) := by
  rcases Nat.lt_or_ge 64 key.length with h | h
  · rw [kbL_long h]; exact (shaL_bb _).app (BB.zeros _)
  · rw [kbL_short h]; exact hb.app (BB.zeros _)
theorem kbL_sha {key : List Nat} (h : 64 < key.length) : kbL (shaL key) = kbL key := by
  rw [kbL_long h, kbL_short (by rw [shaL_len]; omega), shaL_len]
theorem kbL_zeros {key : List Nat} {n : Nat} (h : key.length + n ≤ 64) : kbL (key ++ List.replicate n 0) = kbL key := by
  rw [kbL_short (by rw [List.length_append, List.length_replicate]; omega), kbL_short (by omega), List.append_assoc, List.replicate_append_replicate, List.length_append, List.length_replicate]
  congr 2; omega

/-! ### the pads -/
def xorL (l : List Nat) (x : Nat) : List Nat := l.map (· ^^^ x)
theorem xorL_len (l : List Nat) (x : Nat) : (xorL l x).length = l.length := by simp [xorL]
theorem xorL_bb {l : List Nat} (h : BB l) {x : Nat} (hx : x < 256) : BB (xorL l x) := fun y hy => by
  obtain ⟨z, hz, rfl⟩ := List.mem_map.1 hy
  exact Nat.xor_lt_two_pow (n := 8) (h z hz) hx
theorem xorL_get {l : List Nat} {i : Nat} (x : Nat) (h : i < l.length) : (xorL l x).getD i 0 = l.getD i 0 ^^^ x := by
  rw [List.getD_eq_getElem?_getD, List.getD_eq_getElem?_getD, xorL, List.getElem?_map, List.getElem?_eq_getElem h]; rfl
def ipL (key : List Nat) : List Nat := xorL (kbL key) 54
def opL (key : List Nat) : List Nat := xorL (kbL key) 92
theorem ipL_len (key : List Nat) : (ipL key).length = 64 := (xorL_len _ _).trans (kbL_len key)
theorem opL_len (key : List Nat) : (opL key).length = 64 := (xorL_len _ _).trans (kbL_len key)
theorem ipL_bb {key : List Nat} (h : BB key) : BB (ipL key) := xorL_bb (kbL_bb h) (by decide)
theorem opL_bb {key : List Nat} (h : BB key) : BB (opL key) := xorL_bb (kbL_bb h) (by decide)

/-! ### the tag -/
def tagL (key b : List Nat) : List Nat := shaL (opL key ++ shaL (ipL key ++ b))
theorem tagL_len (key b : List Nat) : (tagL key b).length = 32 := shaL_len _
theorem tagL_bb (key b : List Nat) : BB (tagL key b) := shaL_bb _
theorem tagL_sha {key : List Nat} (b : List Nat) (h : 64 < key.length) : tagL (shaL key) b = tagL key b := by unfold tagL opL ipL; rw [kbL_sha h]
theorem tagL_zeros {key : List Nat} {n : Nat} (b : List Nat) (h : key.length + n ≤ 64) : tagL (key ++ List.replicate n 0) b = tagL key b := by unfold tagL opL ipL; rw [kbL_zeros h]

/-! ### comparing -/
/-- The bits in which two strings of bytes differ, up to the n-th byte. -/
def difL (a b : List Nat) : Nat → Nat
  | 0 => 0
  | n + 1 => difL a b n ||| (a.getD n 0 ^^^ b.getD n 0)
theorem difL_lt {a b : List Nat} (ha : BB a) (hb : BB b) : ∀ n, difL a b n < 256
  | 0 => Nat.zero_lt_succ _
  | n + 1 => Nat.or_lt_two_pow (n := 8) (difL_lt ha hb n) (Nat.xor_lt_two_pow (n := 8) (ha.get n) (hb.get n))
theorem or_zero {a b : Nat} : a ||| b = 0 ↔ a = 0 ∧ b = 0 := by
  constructor
  · intro h
    have h1 : a ≤ a ||| b := Nat.left_le_or
    have h2 : b ≤ a ||| b := Nat.right_le_or
    omega
  · rintro ⟨rfl, rfl⟩; rfl
theorem xor_zero {a b : Nat} : a ^^^ b = 0 ↔ a = b := by
  constructor
  · intro h
    have h2 : (a ^^^ b) ^^^ b = 0 ^^^ b := by rw [h]
    rwa [Nat.xor_assoc, Nat.xor_self, Nat.xor_zero, Nat.zero_xor] at h2
  · rintro rfl; exact Nat.xor_self a
theorem difL_zero {a b : List Nat} : ∀ n, difL a b n = 0 ↔ ∀ i, i < n → a.getD i 0 = b.getD i 0
  | 0 => ⟨fun _ i hi => by omega, fun _ => rfl⟩
  | n + 1 => by
    show difL a b n ||| _ = 0 ↔ _
    rw [or_zero, difL_zero n, xor_zero]
    constructor
    · rintro ⟨h1, h2⟩ i hi
      rcases Nat.lt_or_ge i n with h | h
      · exact h1 i h
      · obtain rfl : i = n := by omega
        exact h2
    · intro h
      exact ⟨fun i hi => h i (by omega), h n (by omega)⟩
/-- All that is collected. -/
def allD (a b : List Nat) : Nat := difL a b (max a.length b.length) ||| (a.length ^^^ b.length)
theorem allD_zero {a b : List Nat} : allD a b = 0 ↔ a = b := by
  unfold allD
  rw [or_zero, difL_zero, xor_zero]
  constructor
  · rintro ⟨h1, h2⟩
    apply List.ext_getElem h2
    intro i hi hj
    have := h1 i (by omega)
    rwa [List.getD_eq_getElem?_getD, List.getD_eq_getElem?_getD, List.getElem?_eq_getElem hi, List.getElem?_eq_getElem hj] at this
  · rintro rfl; exact ⟨fun _ _ => rfl, rfl⟩
theorem difL_comm (a b : List Nat) : ∀ n, difL a b n = difL b a n
  | 0 => rfl
  | n + 1 => by show difL a b n ||| _ = difL b a n ||| _; rw [difL_comm a b n, Nat.xor_comm]
end Go.Proofs.YtaeicjgkoofmpaaDoor
namespace Go.Proofs.YtaeicjgkoofmpaaDoor
open Go.RowKit Go.Lib
set_option linter.unusedVariables false

section
variable {P : Program} {w : World} {ops : Array Oper} {rest : List Oper} {o : Oper} {a : Act} {Q : Exit → Act → World → Prop}
/-- A slice is cut, to a value that is known. -/
theorem wpList_slice_at (hgd : o.guard = none) (ty : TypeId) (x : Operand) (lo hi : Option Operand) (ho : o.op = .slice ty x lo hi none) (v : Value)
    (hv : (Instr.sliceAt ty (a.eval x) (lo.map a.eval) (hi.map a.eval) none).run P w = .ok v w)
    (h : wpList P ops Q rest (a.put o.dst v) w) : wpList P ops Q (o :: rest) a w := by
  refine wpList_plain hgd fun K hK => ?_
  unfold Oper.wp execOp
  simp only [ho, Option.map_none, hv, Sem.run_bind, Sem.run_pure, Result.andThen_ok]
  exact hK _ _ h
end
theorem sizeB (w : World) : (sizeOf (Tryd.prog.elem 27)).run Tryd.prog w = .ok 1 w := by kernel_rfl
theorem slice_l (A : Option Addr) (n c k : Nat) (hk : k ≤ n) (w : World) : (Instr.sliceAt 27 (.slice A n c) (some (.int .i64 (k : Int))) none none).run Tryd.prog w = .ok (sliced A k n c 1) w := by
  rw [run_sliceAt_slice (P := Tryd.prog) w 27 _ _ _ _ (by kernel_rfl), run_slice_l (P := Tryd.prog) w 27 A n c (by kernel_rfl) .i64 (k : Int) (by omega) (by omega), sizeB]
  simp only [Result.andThen_ok, Int.toNat_natCast]
theorem slice_h (A : Option Addr) (n c k : Nat) (hk : k ≤ c) (w : World) : (Instr.sliceAt 27 (.slice A n c) none (some (.int .i64 (k : Int))) none).run Tryd.prog w = .ok (sliced A 0 k c 1) w := by
  rw [run_sliceAt_slice (P := Tryd.prog) w 27 _ _ _ _ (by kernel_rfl), run_slice_h (P := Tryd.prog) w 27 A n c (by kernel_rfl) .i64 (k : Int) (by omega) (by omega), sizeB]
  simp only [Result.andThen_ok, Int.toNat_natCast]
theorem RN.sliced {w : World} {A : Option Addr} {n c k : Nat} {xs : List Nat} (h : RN w (.slice A n c) xs) (hn : xs.length = n) (hk : k ≤ n) : RN w (Go.sliced A k n c 1) (xs.drop k) := by
  unfold Go.sliced
  rcases h with ⟨A', c', e, rfl, hA⟩ | ⟨g, off, c', e, hg, h0, h1, h2, h3⟩
  · simp only [Value.slice.injEq] at e
    obtain ⟨rfl, rfl, rfl⟩ := e
    obtain rfl : k = 0 := by omega
    refine .inl ⟨_, _, rfl, by simp, fun h => ?_⟩
    have : A = none := by
      split at h
      · exact h
      · cases A with
        | none => rfl
        | some a => simp at h
    rw [hA this]
  · simp only [Value.slice.injEq] at e
    obtain ⟨rfl, hn', rfl⟩ := e
    by_cases hlt : k = n
    · subst hlt
      rw [List.drop_of_length_le (by omega), Nat.sub_self]
      exact .inl ⟨_, _, rfl, rfl, fun h => by split at h <;> cases h⟩
    · rw [if_neg (by omega)]
      refine .inr ⟨g, off + k, c - k, ?_, hg, by rw [List.length_drop]; omega, by rw [List.length_drop]; omega, by omega, fun i hi => ?_⟩
      · rw [List.length_drop, hn]; simp [Addr.add_mid]
      · rw [List.length_drop] at hi
        rw [Nat.add_assoc, h3 (k + i) (by omega), List.getD_eq_getElem?_getD, List.getD_eq_getElem?_getD, List.getElem?_drop]
/-- What is read of a slice's i-th byte. -/
theorem RN.byte {w : World} {A : Option Addr} {n c i : Nat} {xs : List Nat} (h : RN w (.slice A n c) xs) (hn : xs.length = n) (hi : i < n) : ∃ g off, A = some ⟨g, off, none⟩ ∧ g < w.heap.size ∧ w.cell? ⟨g, off + i, none⟩ = some (.int .u8 (xs.getD i 0 : Nat)) := by
  rcases h with ⟨A', c', e, rfl, hA⟩ | ⟨g, off, c', e, hg, h0, h1, h2, h3⟩
  · simp at hn; omega
  · simp only [Value.slice.injEq] at e
    exact ⟨g, off, e.1, hg, h3 i (by omega)⟩

theorem collected8_any (d x y : Nat) (w : World) (hd : d < 256) (hx : x < 256) (hy : y < 256) : Calls Tryd.prog 52 #[.int .u8 d, .int .u8 x, .int .u8 y] w fun e w' => e = .returned (.int .u8 ((d ||| (x ^^^ y) : Nat) : Int)) ∧ w = w' := by
  have HB : Hid (bits .or .u8 (d : Int) (bits .xor .u8 (x : Int) (y : Int)) = ((d ||| (x ^^^ y) : Nat) : Int)) := Lib.hid (by rw [u8_xor_nat _ _ hx hy, u8_or_nat _ _ hd (Nat.xor_lt_two_pow (n := 8) hx hy)])
  go_enter Tryd.func52, Tryd.ntmps52
  go_wp2_with fail
  go_ret
  exact ⟨ret_int HB.out, rfl⟩
theorem collected8_at (d x y : Nat) (b : Int) (w : World) (hb : b = x) (hd : d < 256) (hx : x < 256) (hy : y < 256) : Calls Tryd.prog 52 #[.int .u8 d, .int .u8 b, .int .u8 y] w fun e w' => e = .returned (.int .u8 ((d ||| (x ^^^ y) : Nat) : Int)) ∧ w = w' := by
  subst hb; exact collected8_any d x y w hd hx hy
theorem collected64_any (d x y : Nat) (w : World) (hd : d < 18446744073709551616) (hx : x < 18446744073709551616) (hy : y < 18446744073709551616) : Calls Tryd.prog 53 #[.int .u64 d, .int .u64 x, .int .u64 y] w fun e w' => e = .returned (.int .u64 ((d ||| (x ^^^ y) : Nat) : Int)) ∧ w = w' := by
  have HB : Hid (bits .or .u64 (d : Int) (bits .xor .u64 (x : Int) (y : Int)) = ((d ||| (x ^^^ y) : Nat) : Int)) := Lib.hid (by rw [u64_xor_nat _ _ hx hy, u64_or_nat _ _ hd (Nat.xor_lt_two_pow (n := 64) hx hy)])
  go_enter Tryd.func53, Tryd.ntmps53
  go_wp2_with fail
  go_ret
  exact ⟨ret_int HB.out, rfl⟩
end Go.Proofs.YtaeicjgkoofmpaaDoor
namespace Go.Proofs.YtaeicjgkoofmpaaDoor
open Go.RowKit
set_option linter.unusedVariables false

/-- The shorter and the longer one of two strings of bytes. -/
structure EqS (w : World) (xs ys : List Nat) (s l : Value) (S L : List Nat) : Prop where
  rs : RN w s S
  rl : RN w l L
  bs : BB S
  bl : BB L
  le : S.length ≤ L.length
  top : L.length = max xs.length ys.length
  iff : allD S L = 0 ↔ xs = ys
  sz : L.length ≤ 1000000
def EqR (w : World) (xs ys : List Nat) (s l : Value) : Prop := ∃ S L, EqS w xs ys s l S L
theorem EqR.plain {w : World} {xs ys : List Nat} {va vb : Value} (ha : RN w va xs) (hb : RN w vb ys) (hx : BB xs) (hy : BB ys) (sx : xs.length ≤ 1000000) (sy : ys.length ≤ 1000000) (h : xs.length ≤ ys.length) : EqR w xs ys va vb :=
  ⟨xs, ys, ha, hb, hx, hy, h, by omega, allD_zero, sy⟩
theorem EqR.swapped {w : World} {xs ys : List Nat} {va vb : Value} (ha : RN w va xs) (hb : RN w vb ys) (hx : BB xs) (hy : BB ys) (sx : xs.length ≤ 1000000) (sy : ys.length ≤ 1000000) (h : ys.length < xs.length) : EqR w xs ys vb va :=
  ⟨ys, xs, hb, ha, hy, hx, by omega, by omega, by rw [allD_zero]; exact eq_comm, sx⟩
theorem dif_step {S L : List Nat} {k d x y : Nat} (hd : difL S L k = d) (hx : S.getD k 0 = x) (hy : L.getD k 0 = y) : difL S L (k + 1) = (d ||| (x ^^^ y)) := by
  subst hd hx hy; rfl
theorem getD_out {l : List Nat} {k : Nat} (h : l.length ≤ k) : l.getD k 0 = 0 := by rw [List.getD_eq_getElem?_getD, List.getElem?_eq_none h]; rfl
theorem getD_dropN (l : List Nat) (k j : Nat) : (l.drop k).getD j 0 = l.getD (k + j) 0 := by rw [List.getD_eq_getElem?_getD, List.getD_eq_getElem?_getD, List.getElem?_drop]
theorem all_of {S L : List Nat} {d : Nat} (h : S.length ≤ L.length) (hd : difL S L L.length = d) : allD S L = (d ||| (S.length ^^^ L.length)) := by
  subst hd; unfold allD; rw [show max S.length L.length = L.length by omega]
def EqOut (xs ys : List Nat) (w : World) (e : Ending) (w' : World) : Prop := ∃ b : Bool, (b = true ↔ xs = ys) ∧ e = .returned (.tuple #[.bool b, .int .i64 ((max xs.length ys.length : Nat) : Int)]) ∧ w = w'

set_option maxRecDepth 20000 in
set_option maxHeartbeats 2000000 in
theorem equal_tail (xs ys : List Nat) (va vb : Value) (w : World) (ha : RN w va xs) (hb : RN w vb ys) (hx : BB xs) (hy : BB ys) (sx : xs.length ≤ 1000000) (sy : ys.length ≤ 1000000) :
    Calls Tryd.prog 25 #[va, vb] w (EqOut xs ys w) := by
  have HP := Lib.hid (fun h => EqR.plain ha hb hx hy sx sy h)
  have HW := Lib.hid (fun h => EqR.swapped ha hb hx hy sx sy h)
  obtain ⟨A, c, rfl⟩ := ha.len
  obtain ⟨B, d, rfl⟩ := hb.len
  clear ha hb hx hy sx sy
  obtain ⟨p, hp⟩ : ∃ p, xs.length = p := ⟨_, rfl⟩
  obtain ⟨q, hq⟩ : ∃ q, ys.length = q := ⟨_, rfl⟩
  rw [hp, hq] at HP HW ⊢
  have HPL := Lib.hid hp; have HQL := Lib.hid hq
  clear hp hq
  go_enter Tryd.func25, Tryd.ntmps25
  go_upto_if 20 with fail
  go_cut [6, 7] (fun s6 s7 wc => wc = w ∧ Hid (EqR w xs ys s6 s7))
  case first =>
    rcases Nat.lt_or_ge q p with hlt | hge
    · go_wp2_with fail
      go_meet
      exact ⟨rfl, Lib.hid (HW.out hlt)⟩
    · go_wp2_with fail
      go_meet
      exact ⟨rfl, Lib.hid (HP.out hge)⟩
  case rest =>
    obtain ⟨rfl, HE⟩ := hcut
    obtain ⟨S, L, hE⟩ := HE.out
    obtain ⟨As, cs, rfl⟩ := hE.rs.len
    obtain ⟨Al, cl, rfl⟩ := hE.rl.len
    clear HE HP HW
    have hle := hE.le
    have hsz := hE.sz
    obtain ⟨m, hm⟩ : ∃ m, S.length = m := ⟨_, rfl⟩
    obtain ⟨n, hn⟩ : ∃ n, L.length = n := ⟨_, rfl⟩
    have hrs := hE.rs; have hrl := hE.rl
    have HT : Hid (n = max p q) := Lib.hid (by rw [← hn, ← HPL.out, ← HQL.out]; exact hE.top)
    rw [hm, hn] at hle
    rw [hn] at hsz
    rw [hm] at hrs ⊢
    rw [hn] at hrl ⊢
    have HS := Lib.hid hrs; have HL := Lib.hid hrl; have HE := Lib.hid hE; have HM := Lib.hid hm; have HN := Lib.hid hn
    clear hrs hrl hE hm hn
    go_wp2_with fail
    go_loop [8, 25] (fun d i => ∃ k D : Nat, k ≤ m ∧ i = .int .i64 k ∧ d = .int .u8 D ∧ D < 256 ∧ Hid (difL S L k = D)) (fun _ i => m - (intOf i).toNat)
    case atStart => exact ⟨0, 0, by omega, rfl, rfl, by omega, Lib.hid rfl⟩
    case round =>
      obtain ⟨k, D, hk, rfl, rfl, hD, HD⟩ := hrel
      by_cases hlt : k < m
      · obtain ⟨g1, o1, rfl, hg1, c1⟩ := HS.out.byte HM.out hlt
        obtain ⟨g2, o2, rfl, hg2, c2⟩ := HL.out.byte HN.out (show k < n by omega)
        obtain ⟨x, hx⟩ : ∃ x, S.getD k 0 = x := ⟨_, rfl⟩
        obtain ⟨y, hy⟩ : ∃ y, L.getD k 0 = y := ⟨_, rfl⟩
        have hx8 : x < 256 := by rw [← hx]; exact HE.out.bs.get k
        have hy8 : y < 256 := by rw [← hy]; exact HE.out.bl.get k
        have HST := Lib.hid (dif_step HD.out hx hy)
        have HLT : Hid (difL S L (k + 1) < 256) := Lib.hid (difL_lt HE.out.bs HE.out.bl (k + 1))
        rw [hx] at c1
        rw [hy] at c2
        clear hx hy
        go_wp2_with (go_at_call 52; refine (collected8_any D x y _ hD hx8 hy8).mono ?_; rintro e w1 ⟨rfl, rfl⟩)
        go_round
        case rel => exact ⟨k + 1, _, by omega, by go_num, rfl, by rw [← HST.out]; exact HLT.out, HST⟩
        case measure => simp [intOf]; omega
      · obtain ⟨r, hr⟩ : ∃ r, n - m = r := ⟨_, rfl⟩
        obtain ⟨A2, c2, hv2⟩ : ∃ A2 c2, Go.sliced Al m n cl 1 = .slice A2 r c2 := ⟨_, _, by unfold Go.sliced; rw [hr]⟩
        have hr2 := HL.out.sliced HN.out hle
        have hsl := slice_l Al n cl m hle wc
        rw [hv2] at hr2 hsl
        have R2 := Lib.hid hr2; have SL := Lib.hid hsl
        have HRL : Hid ((L.drop m).length = r) := Lib.hid (by rw [List.length_drop, HN.out]; exact hr)
        have HDM : Hid (difL S L m = D) := Lib.hid (by have := HD.out; rw [show k = m by omega] at this; exact this)
        have HR := Lib.hid hr
        have hr6 : r ≤ 1000000 := by omega
        clear hv2 hr2 hsl hr
        go_wp2_with ((with_reducible refine atOp ⟨some 41, _, _, _, _, _⟩ ?_); refine wpList_slice_at rfl 27 (.tmp 38) (some (.tmp 40)) none rfl (.slice A2 r c2) SL.out ?_)
        go_loop [8, 43] (fun d i => ∃ k D : Nat, k ≤ r ∧ i = .int .i64 k ∧ d = .int .u8 D ∧ D < 256 ∧ Hid (difL S L (m + k) = D)) (fun _ i => r - (intOf i).toNat)
        case atStart => exact ⟨0, D, by omega, rfl, rfl, hD, HDM⟩
        case round =>
          clear hD HDM HD
          obtain ⟨k, D, hk, rfl, rfl, hD, HD⟩ := hrel
          by_cases hlt2 : k < r
          · obtain ⟨g2, o2, rfl, hg2, c2⟩ := R2.out.byte HRL.out hlt2
            obtain ⟨y, hy⟩ : ∃ y, L.getD (m + k) 0 = y := ⟨_, rfl⟩
            rw [getD_dropN, hy] at c2
            have hy8 : y < 256 := by rw [← hy]; exact HE.out.bl.get _
            have HST : Hid (difL S L (m + (k + 1)) = (D ||| y)) := Lib.hid (by have := dif_step HD.out (getD_out (l := S) (show S.length ≤ m + k by rw [HM.out]; omega)) hy; rw [Nat.zero_xor] at this; exact this)
            have HLT : Hid (difL S L (m + (k + 1)) < 256) := Lib.hid (difL_lt HE.out.bs HE.out.bl _)
            clear hy
            go_wp2_with (go_at_call 52; refine (collected8_at D 0 y _ _ rfl hD (by omega) hy8).mono ?_; rintro e w1 ⟨rfl, rfl⟩)
            go_round
            case rel => exact ⟨k + 1, _, by omega, by go_num, rfl, by rw [← HST.out]; exact HLT.out, HST⟩
            case measure => simp [intOf]; omega
          · have HF : Hid (allD S L = (D ||| (m ^^^ n))) := Lib.hid (by
              have h1 := HD.out
              rw [show m + k = L.length by rw [HN.out]; have := HR.out; omega] at h1
              rw [all_of HE.out.le h1, HM.out, HN.out])
            have HI := Lib.hid HE.out.iff
            obtain ⟨Z, hZ⟩ : ∃ Z, allD S L = Z := ⟨_, rfl⟩
            rw [hZ] at HF HI
            have zz : Z = (D ||| (m ^^^ n)) := HF.out
            clear hZ HD
            have w1 : IntKind.u64.wrap (D : Int) = (D : Int) := by rw [IntKind.wrap_u64]; omega
            have w2 : IntKind.u64.wrap (m : Int) = (m : Int) := by rw [IntKind.wrap_u64]; omega
            have w3 : IntKind.u64.wrap (n : Int) = (n : Int) := by rw [IntKind.wrap_u64]; omega
            have ZZ := Lib.hid zz
            clear zz
            go_wp2_with (go_at_call 53; refine (collected64_any D m n _ (by omega) (by omega) (by omega)).mono ?_; rintro e w1 ⟨rfl, rfl⟩; rw [← ZZ.out])
            go_ret2
            refine ⟨(Z : Int) == 0, ?_, ?_, rfl⟩
            · rw [← HI.out, beq_iff_eq]; omega
            · rw [HPL.out, HQL.out, ← HT.out]; rfl
/-- Whether two strings of bytes are equal. -/
def sameN (xs ys : List Nat) : Bool := decide (xs = ys)
theorem sameN_true {xs ys : List Nat} (h : xs = ys) : sameN xs ys = true := decide_eq_true h
theorem sameN_false {xs ys : List Nat} (h : xs ≠ ys) : sameN xs ys = false := decide_eq_false h
theorem sameN_of {xs ys : List Nat} {b : Bool} (h : b = true ↔ xs = ys) : b = sameN xs ys := by
  rw [Bool.eq_iff_iff, h]; unfold sameN; simp
theorem equal_any (xs ys : List Nat) (n : Nat) (va vb : Value) (w : World) (ha : RN w va xs) (hb : RN w vb ys) (hx : BB xs) (hy : BB ys) (sx : xs.length ≤ 1000000) (sy : ys.length ≤ 1000000) (hn : max xs.length ys.length = n) :
    Calls Tryd.prog 25 #[va, vb] w fun e w' => e = .returned (.tuple #[.bool (sameN xs ys), .int .i64 (n : Int)]) ∧ w = w' := by
  refine (equal_tail xs ys va vb w ha hb hx hy sx sy).mono ?_
  rintro e w' ⟨b, h1, rfl, rfl⟩
  rw [sameN_of h1, hn]
  exact ⟨rfl, rfl⟩
end Go.Proofs.YtaeicjgkoofmpaaDoor
namespace Go.Proofs.YtaeicjgkoofmpaaDoor
open Go.RowKit
set_option linter.unusedVariables false

section
variable {w : World} {ops : Array Oper} {rest : List Oper} {o : Oper} {a : Act} {Q : Exit → Act → World → Prop}
/-- Bytes are copied into a row that is known whole, and is long enough. -/
theorem wpList_copy_rn (hgd : o.guard = none) (d s : Operand) (ho : o.op = .call { callee := .builtin .copy, args := #[d, s], argTypes := #[27, 27] })
    (g off dLen dCap : Nat) (hd : a.eval d = .slice (some ⟨g, off, none⟩) dLen dCap) (v : Value) (xs : List Nat) (hs : a.eval s = v) (hr : RN w v xs)
    (t : TypeId) (old : List Value) (hg : AR w g t old.toArray) (hle : xs.length ≤ dLen) (hfit : off + xs.length ≤ old.length)
    (h : ∀ w', AR w' g t (splice old off (yL xs)).toArray → w.grownBy w' (some g) → wpList Tryd.prog ops Q rest (a.put o.dst (goInt xs.length)) w') : wpList Tryd.prog ops Q (o :: rest) a w := by
  obtain ⟨A, c, rfl⟩ := hr.len
  by_cases h0 : xs.length = 0
  · obtain rfl : xs = [] := List.eq_nil_of_length_eq_zero h0
    refine wpList_copy_nothing hgd d s 27 27 ho 5 Tryd.underlying27 (by kernel_rfl) _ _ dLen dCap _ c hd hs (by simp) ?_
    exact h w (by simpa [splice, yL] using hg) ⟨rfl, rfl, rfl, Nat.le_refl _, fun _ _ _ => rfl⟩
  · rcases hr.two with ⟨e, rfl⟩ | ⟨ad, c', e, hc⟩
    · exact absurd rfl h0
    · simp only [Value.slice.injEq] at e
      obtain ⟨rfl, _, rfl⟩ := e
      have hk := wpList_copy_own (P := Tryd.prog) (w := w) (ops := ops) (rest := rest) (Q := Q) hgd d s 27 27 ho 5 Tryd.underlying27 (by kernel_rfl) g off dLen dCap ad xs.length c hd hs old.toArray t hg (yL xs)
        (by rw [yL_len]; exact (Nat.min_eq_left hle).symm) hc (by rw [yL_len]; simpa using hfit) (yL_one xs)
      refine hk ?_
      have := h (w.setRow g (splice old off (yL xs)).toArray) (hg.row _) (grow_self w g _)
      rw [yL_len]
      simpa [splice, yL_len] using this
end
theorem splice_y (l xs : List Nat) (o : Nat) : splice (yL l) o (yL xs) = yL (put l o xs) := by
  unfold splice put
  rw [yL_len, yL_app, yL_app, yL_take, yL_drop, List.append_assoc]
theorem put_zeros {xs : List Nat} (h : xs.length ≤ 64) : put (List.replicate 64 0) 0 xs = xs ++ List.replicate (64 - xs.length) 0 := by
  unfold put; rw [List.take_zero, List.nil_append, Nat.zero_add, List.drop_replicate]
theorem kbL_put {key : List Nat} : put (List.replicate 64 0) 0 (if 64 < key.length then shaL key else key) = kbL key := by
  unfold kbL
  split
  · rw [put_zeros (by rw [shaL_len]; omega), shaL_len]
  · rw [put_zeros (by omega)]
theorem yV_yL (l : List Nat) : yV l = (yL l).toArray := rfl
/-- A row of bytes, read as a slice of all of it. -/
theorem RN.whole {w : World} {g : Nat} {t : TypeId} {l : List Nat} {n : Nat} (h : AR w g t (yV l)) (hn : l.length = n) (h0 : 0 < n) (hm : n ≤ 100000) : RN w (.slice (some ⟨g, 0, none⟩) n n) l := by
  subst hn
  refine .inr ⟨g, 0, l.length, rfl, h.inside, h0, Nat.le_refl _, by unfold maxLen; omega, fun i hi => ?_⟩
  rw [Nat.zero_add]
  exact h.at (yV_get (by rw [List.getD_eq_getElem?_getD, List.getElem?_eq_getElem hi]; rfl))

/-- The memory of Block: its result and its block. -/
structure KbA (w : World) (l : List Nat) (W : World) : Prop where
  res : AR W w.heap.size 43 (yV (List.replicate 64 0))
  box : AR W (w.heap.size + 1) 43 (yV l)
  bel : Below w.heap.size w W
theorem KbA.step {w W W' : World} {l : List Nat} (h : KbA w l W) (hb : Below W.heap.size W W') : KbA w l W' := ⟨h.res.step hb, h.box.step hb, bl_call h.bel hb⟩
theorem KbA.start (w : World) : KbA w (List.replicate 64 0) ((w.alloc (.cells (yV (List.replicate 64 0)) 43)).alloc (.cells (yV (List.replicate 64 0)) 43)) := by
  refine ⟨(AR.made _ _ _).more _, ?_, bl_alloc _ (bl_alloc _ (Below.refl _ _))⟩
  have := AR.made (w.alloc (.cells (yV (List.replicate 64 0)) 43)) 43 (yV (List.replicate 64 0))
  rw [size_more] at this
  exact this
theorem AR.grownX {w w' : World} {g k : Nat} {t : TypeId} {cs : Array Value} (h : AR w g t cs) (hg : w.grownBy w' (some k)) (hne : g ≠ k) : AR w' g t cs := (hg.block g h.inside (fun e => hne (by cases e; rfl))).trans h
theorem KbA.copied {w W W' : World} {l l' : List Nat} (h : KbA w l W) (hg : W.grownBy W' (some (w.heap.size + 1))) (hb : AR W' (w.heap.size + 1) 43 (yV l')) : KbA w l' W' :=
  ⟨h.res.grownX hg (by omega), hb, h.bel.grown hg h.bel.size (fun k e => by cases e; omega)⟩

def KbS (w : World) (xs : List Nat) (s : Value) (W : World) : Prop := ∃ ks, RN W s ks ∧ ks.length ≤ 64 ∧ put (List.replicate 64 0) 0 ks = kbL xs ∧ KbA w (List.replicate 64 0) W
set_option maxRecDepth 20000 in
set_option maxHeartbeats 2000000 in
theorem hblock_any (xs : List Nat) (v : Value) (w : World) (hv : RN w v xs) (hb : BB xs) (hsz : xs.length ≤ 1000000) (hV : VK w) :
    Calls Tryd.prog 21 #[v] w (Gives w (.agg (yV (kbL xs)))) := by
  obtain ⟨q, hq⟩ : ∃ q, xs.length = q := ⟨_, rfl⟩
  obtain ⟨A, c, rfl⟩ := hv.len
  rw [hq] at hv hsz ⊢
  have HX := Lib.hid hv; have HBB := Lib.hid hb; have HQ := Lib.hid hq; have HV := Lib.hid hV
  have HS := Lib.hid (KbA.start w)
  clear hv hb hq hV
  go_enter Tryd.func21, Tryd.ntmps21
  go_upto_if 7 with fail
  go_cut [0] (fun s0 wc => Hid (KbS w xs s0 wc))
  case first =>
    by_cases hlt : 64 < q
    · go_wp2_with (first
        | (go_at_call 34; refine (sum_any xs _ _ (HX.out.later HS.out.bel) HBB.out (by rw [HQ.out]; exact hsz) (HV.out.below HS.out.bel)).mono ?_; rintro e w1 ⟨rfl, hb⟩; have H1 := Lib.hid (HS.out.step hb); clear hb)
        | ((with_reducible refine atOp ⟨none, .store 36 _ _, _, _, _, _⟩ ?_); refine wpList_store_row rfl 36 (.tmp 4) (.tmp 9) rfl w1.heap.size (yV (shaL xs)) rfl rfl 36 (yV (List.replicate 32 0)) (AR.made _ _ _) (info32 _ (shaL_len _)) (by rw [yV_size, yV_size, shaL_len]; rfl) (yV_one _) ?_; rw [World.setRow_alloc_new]))
      go_meet
      refine Lib.hid ⟨shaL xs, RN.whole (AR.made w1 _ _) (shaL_len _) (by omega) (by omega), by rw [shaL_len]; omega, ?_, H1.out.step (bl_self _ _)⟩
      rw [← kbL_put, if_pos (by rw [HQ.out]; exact hlt)]
    · go_wp2_with fail
      go_meet
      refine Lib.hid ⟨xs, HX.out.later HS.out.bel, by rw [HQ.out]; omega, ?_, HS.out⟩
      rw [← kbL_put, if_neg (by rw [HQ.out]; exact hlt)]
  case rest =>
    clear HS
    obtain ⟨ks, hks, hkl, hput, hS⟩ := hcut
    have HK := Lib.hid hks; have HKL := Lib.hid hkl; have HP := Lib.hid hput; have HS := Lib.hid hS
    clear hks hkl hput hS
    go_wp2_with (first
      | ((with_reducible refine atOp ⟨some 13, _, _, _, _, _⟩ ?_); refine wpList_copy_rn rfl (.tmp 11) (.tmp 12) rfl (w.heap.size + 1) 0 64 64 rfl _ ks rfl HK.out 43 (yL (List.replicate 64 0)) HS.out.box HKL.out (by rw [yL_len]; have := HKL.out; simp; omega) ?_; intro w2 ha hg; rw [splice_y, HP.out] at ha; have H2 := Lib.hid (HS.out.copied hg ha); clear ha hg)
      | ((with_reducible refine atOp ⟨some 14, _, _, _, _, _⟩ ?_); refine wpList_load_row rfl 43 _ rfl (w.heap.size + 1) rfl 43 (yV (kbL xs)) (0, 0) _ H2.out.box Tryd.underlying43 rfl (info64 _ (kbL_len _)) ?_)
      | ((with_reducible refine atOp ⟨none, .store 43 _ _, _, _, _, _⟩ ?_); refine wpList_store_row rfl 43 (.tmp 2) (.tmp 14) rfl w.heap.size (yV (kbL xs)) rfl rfl 43 (yV (List.replicate 64 0)) H2.out.res (info64 _ (kbL_len _)) (by rw [yV_size, yV_size, kbL_len]; rfl) (yV_one _) ?_))
    refine bodyPost_ret (v := .agg (yV (kbL xs))) (results_cell_row Tryd.results21 _ _ w.heap.size 43 _ (0, 0) _ rfl (H2.out.res.row _) Tryd.underlying43 rfl (info64 _ (kbL_len _))) rfl ⟨rfl, bl_row _ H2.out.bel (Nat.le_refl _)⟩
end Go.Proofs.YtaeicjgkoofmpaaDoor
namespace Go.Proofs.YtaeicjgkoofmpaaDoor
open Go.RowKit
set_option linter.unusedVariables false

structure PoA (w : World) (l : List Nat) (W : World) : Prop where
  box : AR W w.heap.size 43 (yV l)
  res : AR W (w.heap.size + 1) 43 (yV (List.replicate 64 0))
  bel : Below w.heap.size w W
theorem PoA.start (w : World) (l : List Nat) : PoA w l ((w.alloc (.cells (yV l) 43)).alloc (.cells (yV (List.replicate 64 0)) 43)) := by
  refine ⟨(AR.made _ _ _).more _, ?_, bl_alloc _ (bl_alloc _ (Below.refl _ _))⟩
  have := AR.made (w.alloc (.cells (yV l) 43)) 43 (yV (List.replicate 64 0))
  rw [size_more] at this
  exact this
theorem PoA.put {w W : World} {l : List Nat} (h : PoA w l W) (i x : Nat) : PoA w (l.set i x) (W.setCell ⟨w.heap.size, i, none⟩ (.int .u8 x)) := by
  refine ⟨?_, h.res.kept (show w.heap.size + 1 ≠ w.heap.size by omega) _, bl_set _ h.bel (Nat.le_refl _)⟩
  have := h.box.put i (.int .u8 x)
  rw [yV_set] at this
  exact this
set_option maxRecDepth 20000 in
set_option maxHeartbeats 2000000 in
theorem padOf_any (bs : List Nat) (x : Nat) (w : World) (hl : bs.length = 64) (hb : BB bs) (hx : x < 256) :
    Calls Tryd.prog 56 #[.agg (yV bs), .int .u8 x] w (Gives w (.agg (yV (xorL bs x)))) := by
  have HS := Lib.hid (PoA.start w bs)
  have HL := Lib.hid hl; have HB := Lib.hid hb
  clear hl hb
  go_enter Tryd.func56, Tryd.ntmps56
  go_wp2_with fail
  go_loopw [6] (fun i wr => ∃ k : Nat, k ≤ 64 ∧ i = .int .i64 k ∧ Hid (PoA w (mix (xorL bs x) bs k) wr)) (fun i _ => 64 - (intOf i).toNat)
  case atStart => exact ⟨0, by omega, rfl, HS⟩
  case round =>
    clear HS
    obtain ⟨k, hk, rfl, HR⟩ := hrel
    by_cases hlt : k < 64
    · obtain ⟨b, hbk⟩ : ∃ b, bs.getD k 0 = b := ⟨_, rfl⟩
      have hb8 : b < 256 := by rw [← hbk]; exact HB.out.get k
      have c1 := HR.out.box.at (i := k) (v := .int .u8 b) (yV_get (by rw [mix_get (by rw [xorL_len, HL.out]; exact hlt) (by rw [HL.out]; exact hlt), hbk]))
      have f1 := HR.out.box.free k
      have HE : Hid (bits .xor .u8 (b : Int) (x : Int) = ((b ^^^ x : Nat) : Int)) := Lib.hid (u8_xor_nat _ _ hb8 hx)
      have HG : Hid ((xorL bs x).getD k 0 = b ^^^ x) := Lib.hid (by rw [xorL_get x (by rw [HL.out]; exact hlt), hbk])
      have hk64 : (k : Int) < 64 := by omega
      clear hbk
      go_wp2_with fail
      go_roundw
      case rel => exact ⟨k + 1, by omega, by go_num, Lib.hid (by
        have h := HR.out.put k (b ^^^ x)
        rw [← HG.out, mix_set (by rw [xorL_len, HL.out]; exact hlt) (by rw [HL.out]; exact hlt), HG.out] at h
        rw [HE.out]
        exact h)⟩
      case measure => simp [intOf]; omega
    · have HF : Hid (AR wr w.heap.size 43 (yV (xorL bs x))) := Lib.hid (by have := HR.out.box; rw [show k = 64 by omega, mix_full (by rw [xorL_len, HL.out]) HL.out] at this; exact this)
      go_wp2_with (first
        | ((with_reducible refine atOp ⟨some 16, _, _, _, _, _⟩ ?_); refine wpList_load_row rfl 43 _ rfl w.heap.size rfl 43 (yV (xorL bs x)) (0, 0) _ HF.out Tryd.underlying43 rfl (info64 _ (by rw [xorL_len, HL.out])) ?_)
        | ((with_reducible refine atOp ⟨none, .store 43 _ _, _, _, _, _⟩ ?_); refine wpList_store_row rfl 43 (.tmp 4) (.tmp 16) rfl (w.heap.size + 1) (yV (xorL bs x)) rfl rfl 43 (yV (List.replicate 64 0)) HR.out.res (info64 _ (by rw [xorL_len, HL.out])) (by rw [yV_size, yV_size, xorL_len, HL.out]; rfl) (yV_one _) ?_))
      refine bodyPost_ret (v := .agg (yV (xorL bs x))) (results_cell_row Tryd.results56 _ _ (w.heap.size + 1) 43 _ (0, 0) _ rfl (HR.out.res.row _) Tryd.underlying43 rfl (info64 _ (by rw [xorL_len, HL.out]))) rfl ⟨rfl, bl_row _ HR.out.bel (by omega)⟩
end Go.Proofs.YtaeicjgkoofmpaaDoor
namespace Go.Proofs.YtaeicjgkoofmpaaDoor
open Go.RowKit
set_option linter.unusedVariables false

def inL (pad : List Nat) (p : Option Addr) : List Value := yL pad ++ [.pointer p]
def inV (pad : List Nat) (p : Option Addr) : Array Value := (inL pad p).toArray
theorem inL_len {pad : List Nat} (p : Option Addr) (h : pad.length = 64) : (inL pad p).length = 65 := by simp [inL, yL_len, h]
theorem inV_size {pad : List Nat} (p : Option Addr) (h : pad.length = 64) : (inV pad p).size = 65 := by simp [inV, inL_len p h]
theorem inV_ptr {pad : List Nat} (p : Option Addr) (h : pad.length = 64) : (inV pad p)[64]? = some (.pointer p) := by
  unfold inV inL; rw [List.getElem?_toArray, List.getElem?_append_right (by rw [yL_len, h]; omega), yL_len, h]; rfl
/-- The first bytes of a row, read as a slice of them. -/
theorem RN.front {w : World} {g off : Nat} {t : TypeId} {cs : Array Value} {l : List Nat} {n : Nat} (h : AR w g t cs) (hn : l.length = n) (h0 : 0 < n) (hm : n ≤ 100000) (hc : ∀ i, i < n → cs[off + i]? = some (.int .u8 (l.getD i 0 : Nat))) : RN w (.slice (some ⟨g, off, none⟩) n n) l := by
  subst hn
  exact .inr ⟨g, off, l.length, rfl, h.inside, h0, Nat.le_refl _, by unfold maxLen; omega, fun i hi => h.at (hc i hi)⟩
theorem yL_get {l : List Nat} {i : Nat} (h : i < l.length) : (yL l)[i]? = some (.int .u8 (l.getD i 0 : Nat)) := by
  rw [yL, List.getElem?_map, List.getElem?_eq_getElem h, List.getD_eq_getElem?_getD, List.getElem?_eq_getElem h]; rfl
theorem inV_byte {pad : List Nat} (p : Option Addr) {i : Nat} (h : i < pad.length) : (inV pad p)[0 + i]? = some (.int .u8 (pad.getD i 0 : Nat)) := by
  unfold inV inL; rw [Nat.zero_add, List.getElem?_toArray, List.getElem?_append_left (by rw [yL_len]; exact h), yL_get h]
theorem inL_one (pad : List Nat) (p : Option Addr) : ∀ v ∈ inL pad p, v.oneCell' = true := fun v hv => by
  rcases List.mem_append.1 hv with h | h
  · exact yL_one _ v h
  · rw [List.mem_singleton.1 h]; rfl
theorem inV_one (pad : List Nat) (p : Option Addr) : (inV pad p).all (·.oneCell') = true := by
  rw [Array.all_eq_true_iff_forall_mem]
  intro v hv
  exact inL_one pad p v (by simpa [inV] using hv)
theorem info65 {pad : List Nat} (p : Option Addr) (h : pad.length = 64) : (Tryd.prog.info? 60).map (·.size) = some (inV pad p).size := by rw [inV_size p h]; kernel_rfl
theorem zero65 : ∀ w : World, (zeroValue 60).run Tryd.prog w = .ok (.agg (inV (List.replicate 64 0) none)) w := (zero_of_info (n := 65) (by kernel_rfl)).1

theorem grown_below {w w1 w2 : World} {row : Option Nat} (h : Below w.heap.size w w1) (g : w1.grownBy w2 row) : w.grownBy w2 row :=
  ⟨g.os.trans h.os, g.tape.trans h.tape, g.output.trans h.output, Nat.le_trans h.size g.size, fun k hk hne => (g.block k (Nat.lt_of_lt_of_le hk h.size) hne).trans (h.block k hk)⟩
theorem grown_more {w w1 w2 : World} {row : Option Nat} (g : w.grownBy w1 row) (h : Below w1.heap.size w1 w2) : w.grownBy w2 row :=
  ⟨h.os.trans g.os, h.tape.trans g.tape, h.output.trans g.output, Nat.le_trans g.size h.size, fun k hk hne => (h.block k (Nat.lt_of_lt_of_le hk g.size)).trans (g.block k hk hne)⟩
theorem grown_two {w w1 w2 : World} {row : Option Nat} (g : w.grownBy w1 row) (h : w1.grownBy w2 row) : w.grownBy w2 row :=
  ⟨h.os.trans g.os, h.tape.trans g.tape, h.output.trans g.output, Nat.le_trans g.size h.size, fun k hk hne => (h.block k (Nat.lt_of_lt_of_le hk g.size) hne).trans (g.block k hk hne)⟩
/-- Blocks of other sizes than the program's variables are none of them. -/
theorem VK.grown {w w' : World} {g : Nat} {m : List Nat} (h : VK w) (hh : HA w g m) (hg : w.grownBy w' (some g)) : VK w' := by
  obtain ⟨n, st, last, h1, hR⟩ := hh
  obtain ⟨⟨t, fr, hk⟩, u, gr, hs⟩ := h
  have hsz := hashL_len (some ⟨g, 0, none⟩) n hR.st8 hR.len
  have n1 : 0 ≠ g := fun e => by
    rw [e] at hk
    have := (Option.some.inj (hk.symm.trans h1))
    simp only [Obj.cells.injEq] at this
    have h2 : (uV kL).size = (hashL (some ⟨g, 0, none⟩) n st last).toArray.size := congrArg Array.size this.1
    have h3 : (hashL (some ⟨g, 0, none⟩) n st last).toArray.size = 74 := by rw [List.size_toArray]; exact hsz
    rw [h3] at h2
    exact absurd h2 (by decide)
  have n2 : 1 ≠ g := fun e => by
    rw [e] at hs
    have := (Option.some.inj (hs.symm.trans h1))
    simp only [Obj.cells.injEq] at this
    have h2 : (uV hL).size = (hashL (some ⟨g, 0, none⟩) n st last).toArray.size := congrArg Array.size this.1
    have h3 : (hashL (some ⟨g, 0, none⟩) n st last).toArray.size = 74 := by rw [List.size_toArray]; exact hsz
    rw [h3] at h2
    exact absurd h2 (by decide)
  exact ⟨⟨t, fr, (hg.block _ (Array.getElem?_eq_some_iff.1 hk).1 (fun e => n1 (Option.some.inj e))).trans hk⟩, u, gr, (hg.block _ (Array.getElem?_eq_some_iff.1 hs).1 (fun e => n2 (Option.some.inj e))).trans hs⟩
/-- What the inner hash's methods leave: only the hash has changed. -/
def Moved (w : World) (g : Nat) (m : List Nat) (e : Ending) (w' : World) : Prop := e = .returned (.tuple #[]) ∧ HA w' g m ∧ w.grownBy w' (some g)

set_option maxRecDepth 20000 in
set_option maxHeartbeats 2000000 in
theorem iwrite_any (pad : List Nat) (g : Nat) (m xs : List Nat) (v : Value) (w : World) (hp : pad.length = 64) (hh : HA w g m) (hv : RN w v xs) (hb : BB xs) (hsz : m.length + xs.length < 9223372036854775808) (hV : VK w) :
    Calls Tryd.prog 49 #[.agg (inV pad (some ⟨g, 0, none⟩)), v] w (Moved w g (m ++ xs)) := by
  have hb1 := bl_self w (.cells (inV pad (some ⟨g, 0, none⟩)) 60)
  have HH := Lib.hid (hh.step hb1); have HR := Lib.hid (hv.later hb1); have HV := Lib.hid (hV.below hb1)
  have c1 := (AR.made w 60 (inV pad (some ⟨g, 0, none⟩))).at (inV_ptr (some ⟨g, 0, none⟩) hp)
  have HBB := Lib.hid hb; have HSZ := Lib.hid hsz; have HP := Lib.hid hp; have HB1 := Lib.hid hb1
  clear hh hv hV hb hsz hp hb1
  go_enter Tryd.func49, Tryd.ntmps49
  go_wp2_with (go_at_call 14; refine (write_any g m xs _ _ HH.out HR.out HBB.out HSZ.out HV.out).mono ?_; rintro e w1 ⟨rfl, hh, hg⟩; have H1 := Lib.hid hh; have HG := Lib.hid (grown_below HB1.out hg); clear hh hg)
  refine bodyPost_end (results_none rfl _ _ _) rfl ⟨rfl, H1.out, HG.out⟩

set_option maxRecDepth 20000 in
set_option maxHeartbeats 2000000 in
theorem isum_any (pad : List Nat) (g : Nat) (m : List Nat) (w : World) (hp : pad.length = 64) (hh : HA w g m) (hsz : m.length ≤ 1000000) (hV : VK w) :
    Calls Tryd.prog 66 #[.agg (inV pad (some ⟨g, 0, none⟩))] w (Gives w (.agg (yV (shaL m)))) := by
  obtain ⟨w0, hw0⟩ : ∃ w0, w0 = (w.alloc (.cells (inV pad (some ⟨g, 0, none⟩)) 60)).alloc (.cells (yV (List.replicate 32 0)) 36) := ⟨_, rfl⟩
  have hb1 : Below w.heap.size w w0 := by rw [hw0]; exact bl_alloc _ (bl_self w _)
  have hres : AR w0 (w.heap.size + 1) 36 (yV (List.replicate 32 0)) := by
    rw [hw0]
    have := AR.made (w.alloc (.cells (inV pad (some ⟨g, 0, none⟩)) 60)) 36 (yV (List.replicate 32 0))
    rw [size_more] at this
    exact this
  have c1 := inV_ptr (some ⟨g, 0, none⟩) hp
  have HH := Lib.hid (hh.step hb1); have HV := Lib.hid (hV.below hb1); have HB1 := Lib.hid hb1; have HRES := Lib.hid hres
  subst hw0
  have HSZ := Lib.hid hsz; have HP := Lib.hid hp
  clear hh hV hsz hp hb1 hres
  go_enter Tryd.func66, Tryd.ntmps66
  go_wp2_with (first
    | (go_at_call 17; refine (hsum_any g m _ HH.out HSZ.out HV.out).mono ?_; rintro e w1 ⟨rfl, hb⟩; have B1 := Lib.hid (bl_call HB1.out hb); have R1 := Lib.hid (HRES.out.step hb); clear hb)
    | ((with_reducible refine atOp ⟨none, .store 36 (.tmp 3) _, _, _, _, _⟩ ?_); refine wpList_store_row rfl 36 (.tmp 3) (.tmp 9) rfl w1.heap.size (yV (shaL m)) rfl rfl 36 (yV (List.replicate 32 0)) (AR.made _ _ _) (info32 _ (shaL_len _)) (by rw [yV_size, yV_size, shaL_len]; rfl) (yV_one _) ?_; rw [World.setRow_alloc_new])
    | ((with_reducible refine atOp ⟨some 11, _, _, _, _, _⟩ ?_); refine wpList_load_row rfl 36 _ rfl w1.heap.size rfl 36 (yV (shaL m)) (0, 0) _ (AR.made _ _ _) Tryd.underlying36 rfl (info32 _ (shaL_len _)) ?_)
    | ((with_reducible refine atOp ⟨none, .store 36 (.tmp 2) _, _, _, _, _⟩ ?_); refine wpList_store_row rfl 36 (.tmp 2) (.tmp 11) rfl (w.heap.size + 1) (yV (shaL m)) rfl rfl 36 (yV (List.replicate 32 0)) (R1.out.more _) (info32 _ (shaL_len _)) (by rw [yV_size, yV_size, shaL_len]; rfl) (yV_one _) ?_))
  refine bodyPost_ret (v := .agg (yV (shaL m))) (results_cell_row Tryd.results66 _ _ (w.heap.size + 1) 36 _ (0, 0) _ rfl ((R1.out.more _).row _) Tryd.underlying36 rfl (info32 _ (shaL_len _))) rfl ⟨rfl, bl_row _ (bl_alloc _ B1.out) (by omega)⟩

set_option maxRecDepth 20000 in
set_option maxHeartbeats 2000000 in
theorem irestart_any (pad : List Nat) (g : Nat) (m : List Nat) (w : World) (hp : pad.length = 64) (hpb : BB pad) (hh : HA w g m) (hV : VK w) :
    Calls Tryd.prog 58 #[.agg (inV pad (some ⟨g, 0, none⟩))] w (Moved w g pad) := by
  have hb1 := bl_self w (.cells (inV pad (some ⟨g, 0, none⟩)) 60)
  have hbox := AR.made w 60 (inV pad (some ⟨g, 0, none⟩))
  have hne := hh.inside
  have c1 := hbox.at (inV_ptr (some ⟨g, 0, none⟩) hp)
  have HH := Lib.hid (hh.step hb1); have HV := Lib.hid (hV.below hb1); have HB1 := Lib.hid hb1; have HBOX := Lib.hid hbox; have HP := Lib.hid hp; have HPB := Lib.hid hpb
  clear hh hV hp hb1 hbox hpb
  go_enter Tryd.func58, Tryd.ntmps58
  go_upto_region 2 with (go_at_call 15; refine (reset_any g m _ HH.out HV.out).mono ?_; rintro e w1 ⟨rfl, hh, hg⟩; have H1 := Lib.hid hh; have G1 := Lib.hid (grown_below HB1.out hg); have HV1 := Lib.hid (HV.out.grown HH.out hg); have BX := Lib.hid (HBOX.out.grownX hg (by omega)); clear hh hg)
  have BXd : Hid (AR w1.drew w.heap.size 60 (inV pad (some ⟨g, 0, none⟩))) := Lib.hid (BX.out.step (bl_drewN 1 (Below.refl _ _)))
  have H1d : Hid (HA w1.drew g []) := Lib.hid (H1.out.step (bl_drewN 1 (Below.refl _ _)))
  have HVd : Hid (VK w1.drew) := Lib.hid (HV1.out.below (bl_drewN 1 (Below.refl _ _)))
  refine wp_region_held_drew (S := fun W => AR W w.heap.size 60 (inV pad (some ⟨g, 0, none⟩))) (by kernel_rfl) BXd.out (fun hHeld => ?_)
  refine wpAnyH_take (i := 0) (oi := { dst := some 5, op := _, type := _, pos := _, after := _, guard := _ }) rfl (by kernel_rfl) (by kernel_rfl) (by kernel_rfl) (fun _ _ _ h => h) (yields_row (by rfl) 60 (.tmp 1) rfl w.heap.size rfl 60 (inV pad (some ⟨g, 0, none⟩)) _ (fun _ h => h) Tryd.underlying60 rfl (info65 _ HP.out)) hHeld ?_
  (try simp only [Act.put, List.setIfInBounds_toArray, List.set_cons_zero, List.set_cons_succ])
  refine wpAnyH_take (i := 1) (oi := { dst := some 6, op := _, type := _, pos := _, after := _, guard := _ }) (v := ?v6) rfl (by kernel_rfl) (by kernel_rfl) (by kernel_rfl) (fun _ _ _ h => h) (Or.inl ⟨by rfl, ?y6⟩) hHeld ?r6
  case y6 => intro w9 hSw; go_simp <;> with_reducible rfl
  (try simp only [Act.put, List.setIfInBounds_toArray, List.set_cons_zero, List.set_cons_succ])
  refine wpAnyH_take (i := 2) (oi := { dst := some 7, op := _, type := _, pos := _, after := _, guard := _ }) (v := ?v7) rfl (by kernel_rfl) (by kernel_rfl) (by kernel_rfl) (fun _ _ _ h => h) (Or.inl ⟨by rfl, ?y7⟩) hHeld ?r7
  case y7 => intro w9 hSw; go_simp <;> with_reducible rfl
  (try simp only [Act.put, List.setIfInBounds_toArray, List.set_cons_zero, List.set_cons_succ])
  refine wpAnyH_ready (rs := [3]) (by kernel_rfl) (by simp) (AllReadyH.cons (o := { dst := some 8, op := _, type := _, pos := _, after := _, guard := _ }) rfl (fun K hK => ?_) AllReadyH.nil)
  go_simp
  go_at_call 49
  refine (iwrite_any pad g [] pad _ _ HP.out H1d.out (RN.front BXd.out HP.out (by omega) (by omega) (fun i hi => inV_byte _ (by rw [HP.out]; exact hi))) HPB.out (by simp [HP.out]) HVd.out).mono ?_
  rintro e w2 ⟨rfl, hh, hg⟩
  have H2 := Lib.hid hh; have G2 := Lib.hid hg
  refine hK.out _ _ (BXd.out.grownX hg (by omega)) (fun hH2 => ?_)
  clear hK K hh hg
  refine wpAnyH_done (by kernel_rfl) ?_ _
  refine bodyPost_end (results_none rfl _ _ _) rfl ⟨rfl, H2.out, grown_two (grown_more G1.out (bl_drewN 1 (Below.refl _ _))) G2.out⟩
end Go.Proofs.YtaeicjgkoofmpaaDoor
namespace Go.Proofs.YtaeicjgkoofmpaaDoor
open Go.RowKit
set_option linter.unusedVariables false

theorem fill_step (place : Nat → Option (Nat × Nat)) (cells : List Value) (i off : Nat) (l : List Value) (v : Value) (rest : List (Nat × Value)) (hp : place i = some (off, l.length)) (hv : v.cells = l.toArray) (hfit : off + l.length ≤ cells.length) :
    Instr.fill place cells.toArray ((i, v) :: rest) = Instr.fill place (splice cells off l).toArray rest := by
  have hf := fold_set off l 0 cells.toArray (by simpa using hfit)
  rw [Instr.fill]
  simp only [hp, hv, List.size_toArray]
  rw [← Array.foldl_toList, Array.toList_zipIdx, hf]
  simp [splice]
  intro hh; omega
theorem built_inner {pad : List Nat} (p : Option Addr) (h : pad.length = 64) : Tryd.prog.built 60 [(0, .agg (yV pad)), (1, .pointer p)] = some (inV pad p) := by
  have hp : ∀ (c : Array Value) (v : Value), Tryd.prog.built 60 [(0, .agg c), (1, v)] = Instr.fill (fun i => if i = 0 then some (0, 64) else if i = 1 then some (64, 1) else none) (inL (List.replicate 64 0) none).toArray [(0, .agg c), (1, v)] := fun c v => by kernel_rfl
  have hz : (inL (List.replicate 64 0) none).length = 65 := inL_len none (by simp)
  have hy : (yL pad).length = 64 := by rw [yL_len, h]
  rw [hp, fill_step _ (inL (List.replicate 64 0) none) 0 0 (yL pad) _ _ (by rw [hy]; rfl) rfl (by rw [hz, hy]; omega)]
  have hs : splice (inL (List.replicate 64 0) none) 0 (yL pad) = inL pad none := by
    unfold splice inL
    rw [List.take_zero, List.nil_append, Nat.zero_add, hy, List.drop_append_of_le_length (by rw [yL_len]; simp), List.drop_of_length_le (by rw [yL_len]; simp), List.nil_append]
  rw [hs, fill_step _ (inL pad none) 1 64 [.pointer p] _ _ rfl rfl (by rw [inL_len none h]; simp)]
  have hs2 : splice (inL pad none) 64 [.pointer p] = inL pad p := by
    unfold splice inL
    rw [List.take_append_of_le_length (by omega), List.take_of_length_le (by omega), List.drop_of_length_le (by simp [hy]), List.append_nil]
  rw [hs2]
  rfl
end Go.Proofs.YtaeicjgkoofmpaaDoor
namespace Go.Proofs.YtaeicjgkoofmpaaDoor
open Go.RowKit
set_option linter.unusedVariables false

/-- A struct is built, in a region that draws its order. -/
theorem yields_build {P : Program} {ops : Array Oper} {S : World → Prop} {op : Oper} {a : Act} (hw : Region.wanted op (yielded ops a.tmps) = true) (t : TypeId) (parts : Array (Nat × Operand)) (ho : op.op = .build t parts) (cells : Array Value)
    (hf : P.built t (parts.map fun (i, x) => (i, a.eval x)).toList = some cells) : YieldsIf P ops S op (.agg cells) a :=
  .inl ⟨hw, fun w hw' => by
    unfold execOp
    simp only [ho, run_build w t _ cells hf, Sem.run_bind, Sem.run_pure, Result.andThen_ok]⟩
theorem built_pair {P : Program} {t : TypeId} {i1 i2 : Nat} {o1 o2 : Operand} {a : Act} {v1 v2 : Value} {cells : Array Value} (h1 : a.eval o1 = v1) (h2 : a.eval o2 = v2) (h : P.built t [(i1, v1), (i2, v2)] = some cells) :
    P.built t ((#[(i1, o1), (i2, o2)] : Array (Nat × Operand)).map fun (i, x) => (i, a.eval x)).toList = some cells := by
  subst h1 h2; simpa using h
structure NiA (w : World) (pad : List Nat) (W : World) : Prop where
  box : AR W w.heap.size 43 (yV pad)
  res : AR W (w.heap.size + 1) 60 (inV (List.replicate 64 0) none)
  bel : Below w.heap.size w W
theorem NiA.step {w W W' : World} {pad : List Nat} (h : NiA w pad W) (hb : Below W.heap.size W W') : NiA w pad W' := ⟨h.box.step hb, h.res.step hb, bl_call h.bel hb⟩
theorem NiA.start (w : World) (pad : List Nat) : NiA w pad ((w.alloc (.cells (yV pad) 43)).alloc (.cells (inV (List.replicate 64 0) none) 60)) := by
  refine ⟨(AR.made _ _ _).more _, ?_, bl_alloc _ (bl_alloc _ (Below.refl _ _))⟩
  have := AR.made (w.alloc (.cells (yV pad) 43)) 60 (inV (List.replicate 64 0) none)
  rw [size_more] at this
  exact this
/-- What the first statement leaves. -/
def NiB (w : World) (pad : List Nat) (s : Value) (W : World) : Prop := ∃ d g, s = .pointer (some ⟨d, 0, none⟩) ∧ AR W d 60 (inV pad (some ⟨g, 0, none⟩)) ∧ HA W g [] ∧ w.heap.size + 1 < d ∧ w.heap.size + 1 < g ∧ d ≠ g ∧ NiA w pad W
theorem NiA.row {w W : World} {pad : List Nat} (h : NiA w pad W) {d : Nat} (hd : w.heap.size + 1 < d) (cs : Array Value) : NiA w pad (W.setRow d cs) :=
  ⟨h.box.apart (show w.heap.size ≠ d by omega) _, h.res.apart (show w.heap.size + 1 ≠ d by omega) _, bl_row _ h.bel (by omega)⟩
theorem HA.rowed {W : World} {g d : Nat} {m : List Nat} (h : HA W g m) (hne : d ≠ g) (cs : Array Value) : HA (W.setRow d cs) g m := by
  obtain ⟨n, st, last, h1, h2⟩ := h; exact ⟨n, st, last, h1.apart (Ne.symm hne) _, h2⟩
/-- What newInner returns. -/
def Inner (w : World) (pad : List Nat) (e : Ending) (w' : World) : Prop := ∃ g, e = .returned (.agg (inV pad (some ⟨g, 0, none⟩))) ∧ HA w' g pad ∧ w.heap.size ≤ g ∧ Below w.heap.size w w'

set_option maxRecDepth 20000 in
set_option maxHeartbeats 2000000 in
theorem newInner_any (pad : List Nat) (w : World) (hp : pad.length = 64) (hpb : BB pad) (hV : VK w) :
    Calls Tryd.prog 55 #[.agg (yV pad)] w (Inner w pad) := by
  have HP := Lib.hid hp; have HPB := Lib.hid hpb; have HV := Lib.hid hV
  clear hp hpb hV
  have zz := zero65
  have HS := Lib.hid (NiA.start w pad)
  go_enter Tryd.func55, Tryd.ntmps55
  go_upto_region 0 with fail
  go_cut [1, 2] (fun s1 s2 wc => s1 = .pointer (some ⟨w.heap.size, 0, none⟩) ∧ s2 = .pointer (some ⟨w.heap.size + 1, 0, none⟩) ∧ Hid (NiA w pad wc))
  case first =>
    go_wp2_with fail
    go_meet
    case rel => exact ⟨rfl, rfl, HS⟩
  case rest =>
    obtain ⟨rfl, rfl, HD⟩ := hcut
    clear HS
    go_upto_region 1 with fail
    go_cut [3] (fun s3 wc => Hid (NiB w pad s3 wc))
    case first =>
      have HDd : Hid (NiA w pad wc.drew) := Lib.hid (HD.out.step (bl_drewN 1 (Below.refl _ _)))
      refine wp_region_held_drew (S := fun W => AR W w.heap.size 43 (yV pad)) (by kernel_rfl) HDd.out.box (fun hHeld => ?_)
      refine wpAnyH_take (i := 0) (oi := { dst := some 4, op := _, type := _, pos := _, after := _, guard := _ }) rfl (by kernel_rfl) (by kernel_rfl) (by kernel_rfl) (fun _ _ _ h => h) (yields_row (by rfl) 43 (.tmp 1) rfl w.heap.size rfl 43 (yV pad) _ (fun _ h => h) Tryd.underlying43 rfl (info64 pad HP.out)) hHeld ?_
      (try simp only [Act.put, List.setIfInBounds_toArray, List.set_cons_zero, List.set_cons_succ])
      refine wpAnyH_ready (rs := [1, 3]) (by kernel_rfl) (by simp) (AllReadyH.cons (o := { dst := some 5, op := _, type := _, pos := _, after := _, guard := _ }) rfl (fun K hK => ?a1_1) (AllReadyH.cons (o := { dst := some 3, op := _, type := _, pos := _, after := _, guard := _ }) rfl (fun K hK => ?a1_3) AllReadyH.nil))
      case a1_1 =>
        go_simp
        go_at_call 13
        refine (new_any _ (HV.out.below HDd.out.bel)).mono ?_
        rintro e w1 ⟨g, rfl, hh, hg, hb⟩
        have D1 := Lib.hid (HDd.out.step hb); have H1 := Lib.hid hh
        have N1 : Hid (w.heap.size + 1 < g) := Lib.hid (by have := HDd.out.res.inside; omega)
        clear hh hg hb
        refine hK.out _ _ D1.out.box (fun hH1 => ?_)
        clear hK K
        (try simp only [Act.put, List.setIfInBounds_toArray, List.set_cons_zero, List.set_cons_succ])
        refine wpAnyH_take (i := 2) (oi := { dst := some 6, op := _, type := _, pos := _, after := _, guard := _ }) rfl (by kernel_rfl) (by kernel_rfl) (by kernel_rfl) (fun _ _ _ h => h) (yields_build (by rfl) 60 #[(0, .tmp 4), (1, .tmp 5)] rfl (inV pad (some ⟨g, 0, none⟩)) (built_pair rfl rfl (built_inner (some ⟨g, 0, none⟩) HP.out))) hH1 ?_
        (try simp only [Act.put, List.setIfInBounds_toArray, List.set_cons_zero, List.set_cons_succ])
        refine wpAnyH_ready (rs := [3]) (by kernel_rfl) (by simp) (AllReadyH.cons (o := { dst := some 3, op := _, type := _, pos := _, after := _, guard := _ }) rfl (fun K hK => ?a2) AllReadyH.nil)
        case a2 =>
          go_simp
          refine hK.out _ _ (D1.out.step (bl_self _ _)).box (fun hH2 => ?_)
          have D2 := Lib.hid (D1.out.step (bl_self _ (.cells (inV (List.replicate 64 0) none) 60)))
          have G2 := Lib.hid (AR.made w1 60 (inV (List.replicate 64 0) none))
          have H2 := Lib.hid (H1.out.step (bl_self w1 (.cells (inV (List.replicate 64 0) none) 60)))
          have N2 : Hid (w.heap.size + 1 < w1.heap.size ∧ w1.heap.size ≠ g) := Lib.hid ⟨D1.out.res.inside, by have := H1.out.inside; omega⟩
          clear hK K
          (try simp only [Act.put, List.setIfInBounds_toArray, List.set_cons_zero, List.set_cons_succ])
          refine wpAnyH_ready (rs := [4]) (by kernel_rfl) (by simp) (AllReadyH.cons (o := { dst := none, op := _, type := _, pos := _, after := _, guard := _ }) rfl (fun K hK => ?a3) AllReadyH.nil)
          case a3 =>
            rw [if_pos (by rfl)]
            refine wp_store_row 60 (.tmp 3) (.tmp 6) rfl w1.heap.size (inV pad (some ⟨g, 0, none⟩)) rfl rfl 60 (inV (List.replicate 64 0) none) G2.out (info65 _ HP.out) (by rw [inV_size _ HP.out]; rfl) (inV_one _ _) ?_
            refine hK.out _ _ (D2.out.row N2.out.1 _).box (fun hH3 => ?_)
            clear hK K
            refine wpAnyH_done (by kernel_rfl) ?_ _
            go_wp2_with fail
            go_meet
            case rel => exact Lib.hid ⟨w1.heap.size, g, rfl, G2.out.row _, H2.out.rowed N2.out.2 _, N2.out.1, N1.out, N2.out.2, D2.out.row N2.out.1 _⟩
      case a1_3 =>
        go_simp
        refine hK.out _ _ (HDd.out.step (bl_self _ _)).box (fun hH1 => ?_)
        have D1 := Lib.hid (HDd.out.step (bl_self _ (.cells (inV (List.replicate 64 0) none) 60)))
        have G1 := Lib.hid (AR.made wc.drew 60 (inV (List.replicate 64 0) none))
        have N1 : Hid (w.heap.size + 1 < wc.drew.heap.size) := Lib.hid HDd.out.res.inside
        clear hK K
        (try simp only [Act.put, List.setIfInBounds_toArray, List.set_cons_zero, List.set_cons_succ])
        refine wpAnyH_ready (rs := [1]) (by kernel_rfl) (by simp) (AllReadyH.cons (o := { dst := some 5, op := _, type := _, pos := _, after := _, guard := _ }) rfl (fun K hK => ?a4) AllReadyH.nil)
        case a4 =>
          go_simp
          go_at_call 13
          refine (new_any _ (HV.out.below D1.out.bel)).mono ?_
          rintro e w2 ⟨g, rfl, hh, hg, hb⟩
          have D2 := Lib.hid (D1.out.step hb); have H2 := Lib.hid hh; have G2 := Lib.hid (G1.out.step hb)
          have N2 : Hid (wc.drew.heap.size ≠ g ∧ w.heap.size + 1 < g) := Lib.hid (by have h1 := G1.out.inside; have h2 := N1.out; omega)
          clear hh hg hb
          refine hK.out _ _ D2.out.box (fun hH2 => ?_)
          clear hK K
          (try simp only [Act.put, List.setIfInBounds_toArray, List.set_cons_zero, List.set_cons_succ])
          refine wpAnyH_take (i := 2) (oi := { dst := some 6, op := _, type := _, pos := _, after := _, guard := _ }) rfl (by kernel_rfl) (by kernel_rfl) (by kernel_rfl) (fun _ _ _ h => h) (yields_build (by rfl) 60 #[(0, .tmp 4), (1, .tmp 5)] rfl (inV pad (some ⟨g, 0, none⟩)) (built_pair rfl rfl (built_inner (some ⟨g, 0, none⟩) HP.out))) hH2 ?_
          (try simp only [Act.put, List.setIfInBounds_toArray, List.set_cons_zero, List.set_cons_succ])
          refine wpAnyH_ready (rs := [4]) (by kernel_rfl) (by simp) (AllReadyH.cons (o := { dst := none, op := _, type := _, pos := _, after := _, guard := _ }) rfl (fun K hK => ?a5) AllReadyH.nil)
          case a5 =>
            rw [if_pos (by rfl)]
            refine wp_store_row 60 (.tmp 3) (.tmp 6) rfl wc.drew.heap.size (inV pad (some ⟨g, 0, none⟩)) rfl rfl 60 (inV (List.replicate 64 0) none) G2.out (info65 _ HP.out) (by rw [inV_size _ HP.out]; rfl) (inV_one _ _) ?_
            refine hK.out _ _ (D2.out.row N1.out _).box (fun hH3 => ?_)
            clear hK K
            refine wpAnyH_done (by kernel_rfl) ?_ _
            go_wp2_with fail
            go_meet
            case rel => exact Lib.hid ⟨wc.drew.heap.size, g, rfl, G2.out.row _, H2.out.rowed N2.out.1 _, N1.out, N2.out.2, N2.out.1, D2.out.row N1.out _⟩
    case rest =>
      obtain ⟨d, g, rfl, hd, hh, n1, n2, n3, hA⟩ := hcut
      rename_i wd _
      have HI := Lib.hid hd; have HH := Lib.hid hh; have HN := Lib.hid (And.intro n1 (And.intro n2 n3)); have HNA := Lib.hid hA
      clear hd hh n1 n2 n3 hA
      go_upto_region 2 with fail
      have HAd : Hid (NiA w pad wc.drew) := Lib.hid (HNA.out.step (bl_drewN 1 (Below.refl _ _)))
      have HId : Hid (AR wc.drew d 60 (inV pad (some ⟨g, 0, none⟩))) := Lib.hid (HI.out.step (bl_drewN 1 (Below.refl _ _)))
      have HHd : Hid (HA wc.drew g []) := Lib.hid (HH.out.step (bl_drewN 1 (Below.refl _ _)))
      refine wp_region_held_drew (S := fun W => AR W d 60 (inV pad (some ⟨g, 0, none⟩))) (by kernel_rfl) HId.out (fun hHeld => ?_)
      refine wpAnyH_take (i := 0) (oi := { dst := some 7, op := _, type := _, pos := _, after := _, guard := _ }) rfl (by kernel_rfl) (by kernel_rfl) (by kernel_rfl) (fun _ _ _ h => h) (yields_row (by rfl) 60 (.tmp 3) rfl d rfl 60 (inV pad (some ⟨g, 0, none⟩)) _ (fun _ h => h) Tryd.underlying60 rfl (info65 _ HP.out)) hHeld ?_
      (try simp only [Act.put, List.setIfInBounds_toArray, List.set_cons_zero, List.set_cons_succ])
      refine wpAnyH_take (i := 1) (oi := { dst := some 8, op := _, type := _, pos := _, after := _, guard := _ }) (v := ?v8) rfl (by kernel_rfl) (by kernel_rfl) (by kernel_rfl) (fun _ _ _ h => h) (Or.inl ⟨by rfl, ?y8⟩) hHeld ?r8
      case y8 => intro w9 hSw; go_simp <;> with_reducible rfl
      (try simp only [Act.put, List.setIfInBounds_toArray, List.set_cons_zero, List.set_cons_succ])
      refine wpAnyH_ready (rs := [2]) (by kernel_rfl) (by simp) (AllReadyH.cons (o := { dst := some 9, op := _, type := _, pos := _, after := _, guard := _ }) rfl (fun K hK => ?_) AllReadyH.nil)
      go_simp
      go_at_call 49
      refine (iwrite_any pad g [] pad _ _ HP.out HHd.out (RN.front HAd.out.box HP.out (by omega) (by omega) (fun i hi => by rw [Nat.zero_add]; exact yV_get (by rw [List.getD_eq_getElem?_getD, List.getElem?_eq_getElem (by rw [HP.out]; exact hi)]; rfl))) HPB.out (by simp [HP.out]) (HV.out.below HAd.out.bel)).mono ?_
      rintro e w2 ⟨rfl, hh, hg⟩
      have H2 := Lib.hid hh; have G2 := Lib.hid (HId.out.grownX hg HN.out.2.2)
      have R2 := Lib.hid (HAd.out.res.grownX hg (by have := HN.out; omega))
      have B2 := Lib.hid (HAd.out.bel.grown hg HAd.out.bel.size (fun k e => by cases e; have := HN.out; omega))
      refine hK.out _ _ G2.out (fun hH2 => ?_)
      clear hK K hh hg
      refine wpAnyH_done (by kernel_rfl) ?_ _
      go_wp2_with (first
        | ((with_reducible refine atOp ⟨some 10, _, _, _, _, _⟩ ?_); refine wpList_load_row rfl 60 _ rfl d rfl 60 (inV pad (some ⟨g, 0, none⟩)) (0, 0) _ G2.out Tryd.underlying60 rfl (info65 _ HP.out) ?_)
        | ((with_reducible refine atOp ⟨none, .store 60 _ _, _, _, _, _⟩ ?_); refine wpList_store_row rfl 60 (.tmp 2) (.tmp 10) rfl (w.heap.size + 1) (inV pad (some ⟨g, 0, none⟩)) rfl rfl 60 (inV (List.replicate 64 0) none) R2.out (info65 _ HP.out) (by rw [inV_size _ HP.out]; rfl) (inV_one _ _) ?_))
      refine bodyPost_ret (v := .agg (inV pad (some ⟨g, 0, none⟩))) (results_cell_row Tryd.results55 _ _ (w.heap.size + 1) 60 _ (0, 0) _ rfl (R2.out.row _) Tryd.underlying60 rfl (info65 _ HP.out)) rfl ⟨g, rfl, ?_, by have := HN.out; omega, bl_row _ B2.out (by omega)⟩
      exact H2.out.rowed (by have := HN.out; omega) _
end Go.Proofs.YtaeicjgkoofmpaaDoor
namespace Go.Proofs.YtaeicjgkoofmpaaDoor
open Go.RowKit
set_option linter.unusedVariables false

def macL (p : Option Addr) (pad : List Nat) (h : Option Addr) (out : List Nat) : List Value := .pointer p :: (inL pad h ++ yL out)
theorem macL_len {pad out : List Nat} (p h : Option Addr) (h1 : pad.length = 64) (h2 : out.length = 64) : (macL p pad h out).length = 130 := by simp [macL, inL_len h h1, yL_len, h2]
theorem macL_in {pad out : List Nat} (p h : Option Addr) (h1 : pad.length = 64) : ((macL p pad h out).drop 1).take 65 = inL pad h := by
  show (inL pad h ++ yL out).take 65 = _
  rw [List.take_append_of_le_length (by rw [inL_len h h1]; omega), List.take_of_length_le (by rw [inL_len h h1]; omega)]
theorem macL_out {pad out : List Nat} (p h : Option Addr) (h1 : pad.length = 64) {i : Nat} (hi : i < out.length) : (macL p pad h out).toArray[66 + i]? = some (.int .u8 (out.getD i 0 : Nat)) := by
  rw [List.getElem?_toArray]
  show (Value.pointer p :: (inL pad h ++ yL out))[66 + i]? = _
  rw [show 66 + i = (65 + i) + 1 by omega, List.getElem?_cons_succ, List.getElem?_append_right (by rw [inL_len h h1]; omega), inL_len h h1, show 65 + i - 65 = i by omega, yL_get hi]
theorem infoMac : (Tryd.prog.info? 62).map (·.size) = some 130 := by kernel_rfl
theorem built_mac {pad out : List Nat} (h : Option Addr) (h1 : pad.length = 64) (h2 : out.length = 64) : Tryd.prog.built 62 [(1, .agg (inV pad h)), (2, .agg (yV out))] = some (macL none pad h out).toArray := by
  have hp : ∀ (c e : Array Value), Tryd.prog.built 62 [(1, .agg c), (2, .agg e)] = Instr.fill (fun i => if i = 1 then some (1, 65) else if i = 2 then some (66, 64) else none) (macL none (List.replicate 64 0) none (List.replicate 64 0)).toArray [(1, .agg c), (2, .agg e)] := fun c e => by kernel_rfl
  have hz : (macL none (List.replicate 64 0) none (List.replicate 64 0)).length = 130 := macL_len none none (by simp) (by simp)
  have hi : (inL pad h).length = 65 := inL_len h h1
  have hy : (yL out).length = 64 := by rw [yL_len, h2]
  rw [hp, fill_step _ (macL none (List.replicate 64 0) none (List.replicate 64 0)) 1 1 (inL pad h) _ _ (by rw [hi]; rfl) rfl (by rw [hz, hi]; omega)]
  have hs : splice (macL none (List.replicate 64 0) none (List.replicate 64 0)) 1 (inL pad h) = macL none pad h (List.replicate 64 0) := by
    unfold splice macL
    rw [hi, List.take_succ_cons, List.take_zero, show 1 + 65 = 65 + 1 from rfl, List.drop_succ_cons, List.drop_append_of_le_length (by rw [inL_len none (by simp)]; omega), List.drop_of_length_le (by rw [inL_len none (by simp)]; omega)]
    rfl
  rw [hs, fill_step _ (macL none pad h (List.replicate 64 0)) 2 66 (yL out) _ _ (by rw [hy]; rfl) rfl (by rw [macL_len none h h1 (by simp), hy]; omega)]
  have hs2 : splice (macL none pad h (List.replicate 64 0)) 66 (yL out) = macL none pad h out := by
    unfold splice macL
    rw [hy, show 66 = 65 + 1 from rfl, List.take_succ_cons, List.take_append_of_le_length (by rw [hi]; omega), List.take_of_length_le (by rw [hi]; omega), List.drop_of_length_le (by rw [List.length_cons, List.length_append, hi, yL_len]; simp), List.append_nil]
    rfl
  rw [hs2]
  rfl

/-- Block g is a mac that New returned, with a key, and the bytes m. -/
def MA (W : World) (g : Nat) (key m : List Nat) : Prop := ∃ h, AR W g 62 (macL (some ⟨g, 0, none⟩) (ipL key) (some ⟨h, 0, none⟩) (opL key)).toArray ∧ HA W h (ipL key ++ m)
theorem MA.inside {W : World} {g : Nat} {key m : List Nat} (h : MA W g key m) : g < W.heap.size := by obtain ⟨k, h1, _⟩ := h; exact h1.inside
theorem MA.step {W W' : World} {g : Nat} {key m : List Nat} (h : MA W g key m) (hb : Below W.heap.size W W') : MA W' g key m := by obtain ⟨k, h1, h2⟩ := h; exact ⟨k, h1.step hb, h2.step hb⟩
theorem MA.self {W : World} {g : Nat} {key m : List Nat} (h : MA W g key m) : W.cell? ⟨g, 0, none⟩ = some (.pointer (some ⟨g, 0, none⟩)) := by obtain ⟨k, h1, _⟩ := h; exact h1.at rfl
theorem mac_ne {W : World} {g h : Nat} {cs : Array Value} {m : List Nat} (h1 : AR W g 62 cs) (h2 : HA W h m) : g ≠ h := by
  obtain ⟨n, st, last, h3, _⟩ := h2
  intro e
  subst e
  have := Option.some.inj (h1.symm.trans h3)
  simp only [Obj.cells.injEq] at this
  exact absurd this.2.1 (by decide)

theorem HA.celled {W : World} {g d : Nat} {m : List Nat} {i : Nat} (h : HA W g m) (hne : d ≠ g) (v : Value) : HA (W.setCell ⟨d, i, none⟩ v) g m := by
  obtain ⟨n, st, last, h1, h2⟩ := h; exact ⟨n, st, last, h1.kept (show g ≠ d from Ne.symm hne) _, h2⟩
/-- The memory of New behind its first statement. -/
structure NwA (w : World) (kb : List Nat) (d : Nat) (W : World) : Prop where
  row : AR W d 43 (yV kb)
  bel : Below w.heap.size w W
theorem NwA.step {w W W' : World} {kb : List Nat} {d : Nat} (h : NwA w kb d W) (hb : Below W.heap.size W W') : NwA w kb d W' := ⟨h.row.step hb, bl_call h.bel hb⟩
def NwB (w : World) (key : List Nat) (s : Value) (W : World) : Prop := ∃ g h, s = .pointer (some ⟨g, 0, none⟩) ∧ AR W g 62 (macL none (ipL key) (some ⟨h, 0, none⟩) (opL key)).toArray ∧ HA W h (ipL key) ∧ w.heap.size ≤ g ∧ w.heap.size ≤ h ∧ Below w.heap.size w W
/-- What New returns. -/
def NewMac (w : World) (key : List Nat) (e : Ending) (w' : World) : Prop := ∃ g h, e = .returned (.pointer (some ⟨g, 0, none⟩)) ∧ AR w' g 62 (macL (some ⟨g, 0, none⟩) (ipL key) (some ⟨h, 0, none⟩) (opL key)).toArray ∧ HA w' h (ipL key) ∧ w.heap.size ≤ g ∧ w.heap.size ≤ h ∧ Below w.heap.size w w'

set_option maxRecDepth 20000 in
set_option maxHeartbeats 4000000 in
theorem hnew_any (key : List Nat) (v : Value) (w : World) (hv : RN w v key) (hb : BB key) (hsz : key.length ≤ 1000000) (hV : VK w) :
    Calls Tryd.prog 29 #[v] w (NewMac w key) := by
  have HX := Lib.hid hv; have HBB := Lib.hid hb; have HSZ := Lib.hid hsz; have HV := Lib.hid hV
  have HKB := Lib.hid (kbL_bb hb)
  clear hv hb hsz hV
  go_enter Tryd.func29, Tryd.ntmps29
  go_upto_region 2 with (first
    | (go_at_call 21; refine (hblock_any key _ _ HX.out HBB.out HSZ.out HV.out).mono ?_; rintro e w1 ⟨rfl, hb⟩; have B1 := Lib.hid hb; clear hb)
    | ((with_reducible refine atOp ⟨none, .store 43 _ _, _, _, _, _⟩ ?_); refine wpList_store_row rfl 43 (.tmp 3) (.tmp 6) rfl w1.heap.size (yV (kbL key)) rfl rfl 43 (yV (List.replicate 64 0)) (AR.made _ _ _) (info64 _ (kbL_len _)) (by rw [yV_size, yV_size, kbL_len]; rfl) (yV_one _) ?_; rw [World.setRow_alloc_new]))
  have HD : Hid (NwA w (kbL key) w1.heap.size (w1.alloc (.cells (yV (kbL key)) 43))) := Lib.hid ⟨AR.made _ _ _, bl_alloc _ B1.out⟩
  obtain ⟨d, hd⟩ : ∃ d, w1.heap.size = d := ⟨_, rfl⟩
  obtain ⟨w2, hw2⟩ : ∃ w2, w1.alloc (.cells (yV (kbL key)) 43) = w2 := ⟨_, rfl⟩
  rw [hd, hw2] at HD
  rw [hw2, hd]
  simp only [Act.put]
  have HD2 : Hid (w1.heap.size = d) := Lib.hid hd
  have HW2 : Hid (w1.alloc (.cells (yV (kbL key)) 43) = w2) := Lib.hid hw2
  clear hd hw2 B1
  go_cut [4] (fun s4 wc => Hid (NwB w key s4 wc))
  case first =>
    have HDd : Hid (NwA w (kbL key) d w2.drew) := Lib.hid (HD.out.step (bl_drewN 1 (Below.refl _ _)))
    refine wp_region_held_drew (S := fun W => AR W d 43 (yV (kbL key))) (by kernel_rfl) HDd.out.row (fun hHeld => ?_)
    refine wpAnyH_take (i := 0) (oi := { dst := some 7, op := _, type := _, pos := _, after := _, guard := _ }) rfl (by kernel_rfl) (by kernel_rfl) (by kernel_rfl) (fun _ _ _ h => h) (yields_row (by rfl) 43 (.tmp 3) rfl d rfl 43 (yV (kbL key)) _ (fun _ h => h) Tryd.underlying43 rfl (info64 _ (kbL_len _))) hHeld ?_
    (try simp only [Act.put, List.setIfInBounds_toArray, List.set_cons_zero, List.set_cons_succ])
    refine wpAnyH_take (i := 3) (oi := { dst := some 10, op := _, type := _, pos := _, after := _, guard := _ }) rfl (by kernel_rfl) (by kernel_rfl) (by kernel_rfl) (fun _ _ _ h => h) (yields_row (by rfl) 43 (.tmp 3) rfl d rfl 43 (yV (kbL key)) _ (fun _ h => h) Tryd.underlying43 rfl (info64 _ (kbL_len _))) hHeld ?_
    (try simp only [Act.put, List.setIfInBounds_toArray, List.set_cons_zero, List.set_cons_succ])
    refine wpAnyH_ready (rs := [1]) (by kernel_rfl) (by simp) (AllReadyH.cons (o := { dst := some 8, op := _, type := _, pos := _, after := _, guard := _ }) rfl (fun K hK => ?a1_1) AllReadyH.nil)
    case a1_1 =>
      go_simp
      go_at_call 56
      refine (padOf_any (kbL key) 54 _ (kbL_len _) HKB.out (by omega)).mono ?_
      rintro e w3x11 ⟨rfl, hb⟩
      have D11 := Lib.hid (HDd.out.step hb)
      clear hb
      refine hK.out _ _ D11.out.row (fun hH11 => ?_)
      clear hK K
      (try simp only [Act.put, List.setIfInBounds_toArray, List.set_cons_zero, List.set_cons_succ])
      refine wpAnyH_ready (rs := [2]) (by kernel_rfl) (by simp) (AllReadyH.cons (o := { dst := some 9, op := _, type := _, pos := _, after := _, guard := _ }) rfl (fun K hK => ?a2_2) AllReadyH.nil)
      case a2_2 =>
        go_simp
        go_at_call 55
        refine (newInner_any (ipL key) _ (ipL_len _) (ipL_bb HBB.out) (HV.out.below D11.out.bel)).mono ?_
        rintro e w3x22 ⟨h, rfl, hh, hlo, hb⟩
        have D22 := Lib.hid (D11.out.step hb)
        have I22 := Lib.hid hh
        have HLO : Hid (w.heap.size ≤ h) := Lib.hid (Nat.le_trans D11.out.bel.size hlo)
        clear hh hlo hb
        refine hK.out _ _ D22.out.row (fun hH22 => ?_)
        clear hK K
        (try simp only [Act.put, List.setIfInBounds_toArray, List.set_cons_zero, List.set_cons_succ])
        refine wpAnyH_ready (rs := [4]) (by kernel_rfl) (by simp) (AllReadyH.cons (o := { dst := some 11, op := _, type := _, pos := _, after := _, guard := _ }) rfl (fun K hK => ?a3_4) AllReadyH.nil)
        case a3_4 =>
          go_simp
          go_at_call 56
          refine (padOf_any (kbL key) 92 _ (kbL_len _) HKB.out (by omega)).mono ?_
          rintro e w3x34 ⟨rfl, hb⟩
          have D34 := Lib.hid (D22.out.step hb)
          have I34 := Lib.hid (I22.out.step hb)
          clear hb
          refine hK.out _ _ D34.out.row (fun hH34 => ?_)
          clear hK K
          (try simp only [Act.put, List.setIfInBounds_toArray, List.set_cons_zero, List.set_cons_succ])
          refine wpAnyH_take (i := 5) (oi := { dst := some 12, op := _, type := _, pos := _, after := _, guard := _ }) rfl (by kernel_rfl) (by kernel_rfl) (by kernel_rfl) (fun _ _ _ h => h) (yields_build (by rfl) 62 #[(1, .tmp 9), (2, .tmp 11)] rfl (macL none (ipL key) (some ⟨h, 0, none⟩) (opL key)).toArray (built_pair rfl rfl (built_mac (some ⟨h, 0, none⟩) (ipL_len key) (opL_len key)))) hH34 ?_
          (try simp only [Act.put, List.setIfInBounds_toArray, List.set_cons_zero, List.set_cons_succ])
          refine wpAnyH_ready (rs := [6]) (by kernel_rfl) (by simp) (AllReadyH.cons (o := { dst := some 13, op := _, type := _, pos := _, after := _, guard := _ }) rfl (fun K hK => ?b4) AllReadyH.nil)
          case b4 =>
            go_simp
            refine hK.out _ _ (D34.out.step (bl_self _ _)).row (fun hHb4 => ?_)
            have GB := Lib.hid (AR.made w3x34 62 (macL none (ipL key) (some ⟨h, 0, none⟩) (opL key)).toArray)
            have HB := Lib.hid (I34.out.step (bl_self w3x34 (.cells (macL none (ipL key) (some ⟨h, 0, none⟩) (opL key)).toArray 62)))
            have BB2 := Lib.hid (bl_alloc (.cells (macL none (ipL key) (some ⟨h, 0, none⟩) (opL key)).toArray 62) D34.out.bel)
            have SB := Lib.hid D34.out.bel.size
            clear hK K
            (try simp only [Act.put, List.setIfInBounds_toArray, List.set_cons_zero, List.set_cons_succ])
            refine wpAnyH_ready (rs := [7]) (by kernel_rfl) (by simp) (AllReadyH.cons (o := { dst := some 4, op := _, type := _, pos := _, after := _, guard := _ }) rfl (fun K hK => ?b5) AllReadyH.nil)
            case b5 =>
              go_simp
              refine hK.out _ _ (D34.out.step (bl_self _ _)).row (fun hHb5 => ?_)
              clear hK K
              (try simp only [Act.put, List.setIfInBounds_toArray, List.set_cons_zero, List.set_cons_succ])
              refine wpAnyH_done (by kernel_rfl) ?_ _
              go_wp2_with fail
              go_meet
              case rel => exact Lib.hid ⟨w3x34.heap.size, h, rfl, GB.out, HB.out, SB.out, HLO.out, BB2.out⟩
  case rest =>
    obtain ⟨g, h, rfl, h1, h2, h3, h4, h5⟩ := hcut
    have c0 := h1.at (i := 0) (v := .pointer none) rfl
    have f0 := h1.free 0
    have H1 := Lib.hid h1; have H2 := Lib.hid h2; have H3 := Lib.hid (And.intro h3 h4); have H5 := Lib.hid h5
    clear h1 h2 h3 h4 h5 HD
    go_wp2_with fail
    go_ret
    have hne := mac_ne H1.out H2.out
    exact ⟨g, h, rfl, H1.out.put 0 _, H2.out.celled hne _, H3.out.1, H3.out.2, bl_set _ H5.out H3.out.1⟩
end Go.Proofs.YtaeicjgkoofmpaaDoor
namespace Go.Proofs.YtaeicjgkoofmpaaDoor
open Go.RowKit
set_option linter.unusedVariables false

theorem meql_same (g : Nat) (w : World) : (binOp .eql 53 (.pointer (some ⟨g, 0, none⟩)) (.pointer (some ⟨g, 0, none⟩))).run Tryd.prog w = .ok (.bool true) w := by
  obtain ⟨j, hj, hjs⟩ := Option.map_eq_some_iff.1 infoMac
  have h : ∀ d : Nat, (Op.equalIn (d + 1) 53 (.pointer (some ⟨g, 0, none⟩)) (.pointer (some ⟨g, 0, none⟩))).run Tryd.prog w = .ok true w := fun d => by
    simp [Op.equalIn, run_underlying Tryd.underlying53, sizeOf, typeInfo, hj, run_sameAddr_same]
  simp only [binOp]
  simp [Op.equal, Op.maxDepth, h 9999]
theorem meql_none (g : Nat) (w : World) : (binOp .eql 53 (.pointer none) (.pointer (some ⟨g, 0, none⟩))).run Tryd.prog w = .ok (.bool false) w := by
  have h : ∀ d : Nat, (Op.equalIn (d + 1) 53 (.pointer none) (.pointer (some ⟨g, 0, none⟩))).run Tryd.prog w = .ok false w := fun d => by
    simp [Op.equalIn, run_underlying Tryd.underlying53]
  simp only [binOp]
  simp [Op.equal, Op.maxDepth, h 9999]
set_option maxHeartbeats 1000000 in
theorem misMade_yes (g : Nat) (w : World) (h : w.cell? ⟨g, 0, none⟩ = some (.pointer (some ⟨g, 0, none⟩))) : Calls Tryd.prog 57 #[.pointer (some ⟨g, 0, none⟩)] w fun e w' => e = .returned (.bool true) ∧ w = w' := by
  have he := meql_same g
  go_enter Tryd.func57, Tryd.ntmps57
  go_wp2_with fail
  go_ret
  exact ⟨rfl, rfl⟩
theorem misMade_nil (w : World) : Calls Tryd.prog 57 #[.pointer none] w fun e w' => e = .returned (.bool false) ∧ w = w' := by
  go_enter Tryd.func57, Tryd.ntmps57
  go_wp2_with fail
  go_ret
  exact ⟨rfl, rfl⟩
theorem misMade_zero (g : Nat) (w : World) (h : w.cell? ⟨g, 0, none⟩ = some (.pointer none)) : Calls Tryd.prog 57 #[.pointer (some ⟨g, 0, none⟩)] w fun e w' => e = .returned (.bool false) ∧ w = w' := by
  have he := meql_none g
  go_enter Tryd.func57, Tryd.ntmps57
  go_wp2_with fail
  go_ret
  exact ⟨rfl, rfl⟩

/-- Bytes are copied into a row that is known whole: one operation by itself. -/
theorem wp_copy_rn {w : World} {o : Oper} {a : Act} {K : Act → World → Prop} {Q : Exit → Act → World → Prop} (d s : Operand) (ho : o.op = .call { callee := .builtin .copy, args := #[d, s], argTypes := #[27, 27] })
    (g off dLen dCap : Nat) (hd : a.eval d = .slice (some ⟨g, off, none⟩) dLen dCap) (v : Value) (xs : List Nat) (hs : a.eval s = v) (hr : RN w v xs)
    (t : TypeId) (old : List Value) (hg : AR w g t old.toArray) (hle : xs.length ≤ dLen) (hfit : off + xs.length ≤ old.length)
    (h : ∀ w', AR w' g t (splice old off (yL xs)).toArray → w.grownBy w' (some g) → K (a.put o.dst (goInt xs.length)) w') : Oper.wp Tryd.prog o a w K Q := by
  obtain ⟨A, c, rfl⟩ := hr.len
  by_cases h0 : xs.length = 0
  · obtain rfl : xs = [] := List.eq_nil_of_length_eq_zero h0
    have hrun := run_copy_none (P := Tryd.prog) w 27 27 o.type 5 (some ⟨g, off, none⟩) A dLen dCap 0 c Tryd.underlying27 (by kernel_rfl) (by simp)
    unfold Oper.wp
    simp [execOp, ho, resolve, invoke, builtin, hd, hs, hrun, Result.andThen]
    exact h w (by simpa [splice, yL] using hg) ⟨rfl, rfl, rfl, Nat.le_refl _, fun _ _ _ => rfl⟩
  · rcases hr.two with ⟨e, rfl⟩ | ⟨ad, c', e, hc⟩
    · exact absurd rfl h0
    · simp only [Value.slice.injEq] at e
      obtain ⟨rfl, _, rfl⟩ := e
      have hrun := run_copy_row (P := Tryd.prog) w 27 27 o.type 5 g off dLen dCap ad xs.length c old.toArray t (yL xs) Tryd.underlying27 (by kernel_rfl) hg (by rw [yL_len]; exact (Nat.min_eq_left hle).symm) hc (by rw [yL_len]; simpa using hfit) (yL_one xs)
      unfold Oper.wp
      simp [execOp, ho, resolve, invoke, builtin, hd, hs, hrun, Result.andThen]
      have := h (w.setRow g (splice old off (yL xs)).toArray) (hg.row _) (grow_self w g _)
      rw [show (splice old off (yL xs)).toArray = (List.take off old ++ (yL xs ++ List.drop (off + xs.length) old)).toArray by simp [splice, yL_len]] at this
      first | exact this | (simp [yL_len]; exact this)

/-- A mac at g, with its hash at h, a key, and the bytes m. -/
structure MX (W : World) (g h : Nat) (key m : List Nat) : Prop where
  mac : AR W g 62 (macL (some ⟨g, 0, none⟩) (ipL key) (some ⟨h, 0, none⟩) (opL key)).toArray
  hash : HA W h (ipL key ++ m)
theorem MX.step {W W' : World} {g h : Nat} {key m : List Nat} (k : MX W g h key m) (hb : Below W.heap.size W W') : MX W' g h key m := ⟨k.mac.step hb, k.hash.step hb⟩
theorem MX.self {W : World} {g h : Nat} {key m : List Nat} (k : MX W g h key m) : W.cell? ⟨g, 0, none⟩ = some (.pointer (some ⟨g, 0, none⟩)) := k.mac.at rfl
theorem MX.ne {W : World} {g h : Nat} {key m : List Nat} (k : MX W g h key m) : g ≠ h := mac_ne k.mac k.hash

/-- The memory of tag: its result, and the bytes that it sums. -/
structure TgA (w : World) (l : List Nat) (W : World) : Prop where
  res : AR W w.heap.size 36 (yV (List.replicate 32 0))
  box : AR W (w.heap.size + 1) 103 (yV l)
  bel : Below w.heap.size w W
theorem TgA.step {w W W' : World} {l : List Nat} (h : TgA w l W) (hb : Below W.heap.size W W') : TgA w l W' := ⟨h.res.step hb, h.box.step hb, bl_call h.bel hb⟩
theorem TgA.start (w : World) : TgA w (List.replicate 96 0) ((w.alloc (.cells (yV (List.replicate 32 0)) 36)).alloc (.cells (yV (List.replicate 96 0)) 103)) := by
  refine ⟨(AR.made _ _ _).more _, ?_, bl_alloc _ (bl_alloc _ (Below.refl _ _))⟩
  have := AR.made (w.alloc (.cells (yV (List.replicate 32 0)) 36)) 103 (yV (List.replicate 96 0))
  rw [size_more] at this
  exact this
theorem TgA.copied {w W W' : World} {l l' : List Nat} (h : TgA w l W) (hg : W.grownBy W' (some (w.heap.size + 1))) (hb : AR W' (w.heap.size + 1) 103 (yV l')) : TgA w l' W' :=
  ⟨h.res.grownX hg (by omega), hb, h.bel.grown hg h.bel.size (fun k e => by cases e; omega)⟩
theorem put_pad {out : List Nat} (h : out.length = 64) : put (List.replicate 96 0) 0 out = out ++ List.replicate 32 0 := by
  unfold put; rw [List.take_zero, List.nil_append, Nat.zero_add, List.drop_replicate, h]
theorem put_dig {out d : List Nat} (h : out.length = 64) (h2 : d.length = 32) : put (out ++ List.replicate 32 0) 64 d = out ++ d := by
  unfold put
  rw [List.take_append_of_le_length (by omega), List.take_of_length_le (by omega), List.drop_of_length_le (by simp; omega), List.append_nil]
end Go.Proofs.YtaeicjgkoofmpaaDoor
namespace Go.Proofs.YtaeicjgkoofmpaaDoor
open Go.RowKit
set_option linter.unusedVariables false

set_option maxRecDepth 20000 in
set_option maxHeartbeats 4000000 in
theorem mtagi_any (g h : Nat) (key m : List Nat) (w : World) (hx : MX w g h key m) (hkb : BB key) (hmb : BB m) (hsz : m.length ≤ 900000) (hV : VK w) :
    Calls Tryd.prog 50 #[.pointer (some ⟨g, 0, none⟩)] w (Gives w (.agg (yV (tagL key m)))) := by
  have HS := Lib.hid (TgA.start w)
  have HX := Lib.hid (hx.step (TgA.start w).bel)
  have HSZ : Hid ((ipL key ++ m).length ≤ 1000000) := Lib.hid (by rw [List.length_append, ipL_len]; omega)
  have HKB := Lib.hid hkb; have HMB := Lib.hid hmb; have HV := Lib.hid hV
  clear hx hkb hmb hsz hV
  go_enter Tryd.func50, Tryd.ntmps50
  go_upto_region 3 with (first
    | ((with_reducible refine atOp ⟨some 8, _, _, _, _, _⟩ ?_); refine wpList_load_at rfl 60 (.tmp 7) rfl g 1 65 rfl 62 (macL (some ⟨g, 0, none⟩) (ipL key) (some ⟨h, 0, none⟩) (opL key)) (inL (ipL key) (some ⟨h, 0, none⟩)) _ HX.out.mac (macL_in _ _ (ipL_len _)) (inL_len _ (ipL_len _)) Tryd.underlying60 rfl (by kernel_rfl) ?_)
    | (go_at_call 66; refine (isum_any (ipL key) h (ipL key ++ m) _ (ipL_len _) HX.out.hash HSZ.out (HV.out.below HS.out.bel)).mono ?_; rintro e w1 ⟨rfl, hb⟩; have X1 := Lib.hid (HX.out.step hb); have T1 := Lib.hid (HS.out.step hb); clear hb)
    | ((with_reducible refine atOp ⟨none, .store 36 _ _, _, _, _, _⟩ ?_); refine wpList_store_row rfl 36 (.tmp 4) (.tmp 9) rfl w1.heap.size (yV (shaL (ipL key ++ m))) rfl rfl 36 (yV (List.replicate 32 0)) (AR.made _ _ _) (info32 _ (shaL_len _)) (by rw [yV_size, yV_size, shaL_len]; rfl) (yV_one _) ?_; rw [World.setRow_alloc_new]))
  have X2 : Hid (MX (w1.alloc (.cells (yV (shaL (ipL key ++ m))) 36)).drew g h key m) := Lib.hid ((X1.out.step (bl_self w1 (.cells (yV (shaL (ipL key ++ m))) 36))).step (bl_drewN 1 (Below.refl _ _)))
  have T2 : Hid (TgA w (List.replicate 96 0) (w1.alloc (.cells (yV (shaL (ipL key ++ m))) 36)).drew) := Lib.hid ((T1.out.step (bl_self w1 (.cells (yV (shaL (ipL key ++ m))) 36))).step (bl_drewN 1 (Below.refl _ _)))
  have R2 : Hid (AR (w1.alloc (.cells (yV (shaL (ipL key ++ m))) 36)).drew w1.heap.size 36 (yV (shaL (ipL key ++ m))) ∧ w.heap.size + 1 < w1.heap.size) := Lib.hid ⟨(AR.made _ _ _).drawn 1, T1.out.box.inside⟩
  obtain ⟨d, hd⟩ : ∃ d, w1.heap.size = d := ⟨_, rfl⟩
  rw [hd] at R2 ⊢
  clear hd HS HX X1 T1
  refine wp_region_held_drew (S := fun _ => True) (by kernel_rfl) trivial (fun hHeld => ?_)
  refine wpAnyH_take (i := 0) (oi := { dst := some 10, op := _, type := _, pos := _, after := _, guard := _ }) (v := ?v10x1) rfl (by kernel_rfl) (by kernel_rfl) (by kernel_rfl) (fun _ _ _ h => h) (Or.inl ⟨by rfl, ?y10x1⟩) hHeld ?r10x1
  case y10x1 => intro w9 hSw; go_simp <;> with_reducible rfl
  (try simp only [Act.put, List.setIfInBounds_toArray, List.set_cons_zero, List.set_cons_succ])
  refine wpAnyH_take (i := 1) (oi := { dst := some 11, op := _, type := _, pos := _, after := _, guard := _ }) (v := ?v11x2) rfl (by kernel_rfl) (by kernel_rfl) (by kernel_rfl) (fun _ _ _ h => h) (Or.inl ⟨by rfl, ?y11x2⟩) hHeld ?r11x2
  case y11x2 => intro w9 hSw; go_simp <;> with_reducible rfl
  (try simp only [Act.put, List.setIfInBounds_toArray, List.set_cons_zero, List.set_cons_succ])
  refine wpAnyH_take (i := 2) (oi := { dst := some 12, op := _, type := _, pos := _, after := _, guard := _ }) (v := ?v12x3) rfl (by kernel_rfl) (by kernel_rfl) (by kernel_rfl) (fun _ _ _ h => h) (Or.inl ⟨by rfl, ?y12x3⟩) hHeld ?r12x3
  case y12x3 => intro w9 hSw; go_simp <;> with_reducible rfl
  (try simp only [Act.put, List.setIfInBounds_toArray, List.set_cons_zero, List.set_cons_succ])
  refine wpAnyH_take (i := 3) (oi := { dst := some 13, op := _, type := _, pos := _, after := _, guard := _ }) (v := ?v13x4) rfl (by kernel_rfl) (by kernel_rfl) (by kernel_rfl) (fun _ _ _ h => h) (Or.inl ⟨by rfl, ?y13x4⟩) hHeld ?r13x4
  case y13x4 => intro w9 hSw; go_simp <;> with_reducible rfl
  (try simp only [Act.put, List.setIfInBounds_toArray, List.set_cons_zero, List.set_cons_succ])
  refine wpAnyH_take (i := 4) (oi := { dst := some 14, op := _, type := _, pos := _, after := _, guard := _ }) (v := ?v14x5) rfl (by kernel_rfl) (by kernel_rfl) (by kernel_rfl) (fun _ _ _ h => h) (Or.inl ⟨by rfl, ?y14x5⟩) hHeld ?r14x5
  case y14x5 => intro w9 hSw; go_simp <;> with_reducible rfl
  (try simp only [Act.put, List.setIfInBounds_toArray, List.set_cons_zero, List.set_cons_succ])
  refine wpAnyH_ready (rs := [5]) (by kernel_rfl) (by simp) (AllReadyH.cons (o := { dst := some 15, op := _, type := _, pos := _, after := _, guard := _ }) rfl (fun K hK => ?_) AllReadyH.nil)
  rw [if_pos (by rfl)]
  refine wp_copy_rn (.tmp 10) (.tmp 14) rfl (w.heap.size + 1) 0 96 96 rfl _ (opL key) rfl (RN.front X2.out.mac (opL_len key) (by omega) (by omega) (fun i hi => macL_out _ _ (ipL_len _) (by rw [opL_len]; exact hi))) 103 (yL (List.replicate 96 0)) T2.out.box (by rw [opL_len]; omega) (by rw [opL_len, yL_len]; simp) ?_
  intro w3 ha hg
  rw [splice_y, put_pad (opL_len key)] at ha
  have T3 := Lib.hid (T2.out.copied hg ha)
  have R3 := Lib.hid (R2.out.1.grownX hg (by have := R2.out.2; omega))
  refine hK.out _ _ trivial (fun hHeld2 => ?_)
  clear hK K ha hg
  refine wpAnyH_done (by kernel_rfl) ?_ _
  go_upto_region 4 with fail
  have T4 : Hid (TgA w (opL key ++ List.replicate 32 0) w3.drew) := Lib.hid (T3.out.step (bl_drewN 1 (Below.refl _ _)))
  have R4 : Hid (AR w3.drew d 36 (yV (shaL (ipL key ++ m)))) := Lib.hid (R3.out.drawn 1)
  clear T2 R2 X2 hHeld2 T3 R3
  refine wp_region_held_drew (S := fun _ => True) (by kernel_rfl) trivial (fun hHeld => ?_)
  refine wpAnyH_take (i := 0) (oi := { dst := some 16, op := _, type := _, pos := _, after := _, guard := _ }) (v := ?v16x6) rfl (by kernel_rfl) (by kernel_rfl) (by kernel_rfl) (fun _ _ _ h => h) (Or.inl ⟨by rfl, ?y16x6⟩) hHeld ?r16x6
  case y16x6 => intro w9 hSw; go_simp <;> with_reducible rfl
  (try simp only [Act.put, List.setIfInBounds_toArray, List.set_cons_zero, List.set_cons_succ])
  refine wpAnyH_take (i := 1) (oi := { dst := some 17, op := _, type := _, pos := _, after := _, guard := _ }) (v := ?v17x7) rfl (by kernel_rfl) (by kernel_rfl) (by kernel_rfl) (fun _ _ _ h => h) (Or.inl ⟨by rfl, ?y17x7⟩) hHeld ?r17x7
  case y17x7 => intro w9 hSw; go_simp <;> with_reducible rfl
  (try simp only [Act.put, List.setIfInBounds_toArray, List.set_cons_zero, List.set_cons_succ])
  refine wpAnyH_ready (rs := [2]) (by kernel_rfl) (by simp) (AllReadyH.cons (o := { dst := some 18, op := _, type := _, pos := _, after := _, guard := _ }) rfl (fun K hK => ?_) AllReadyH.nil)
  rw [if_pos (by rfl)]
  refine wp_copy_rn (.tmp 16) (.tmp 17) rfl (w.heap.size + 1) 64 32 32 rfl _ (shaL (ipL key ++ m)) rfl (RN.whole R4.out (shaL_len _) (by omega) (by omega)) 103 (yL (opL key ++ List.replicate 32 0)) T4.out.box (by rw [shaL_len]; omega) (by rw [shaL_len, yL_len, List.length_append, opL_len]; simp) ?_
  intro w5 ha hg
  rw [splice_y, put_dig (opL_len key) (shaL_len _)] at ha
  have T5 := Lib.hid (T4.out.copied hg ha)
  refine hK.out _ _ trivial (fun hHeld2 => ?_)
  clear hK K ha hg
  refine wpAnyH_done (by kernel_rfl) ?_ _
  have HLN : Hid ((opL key ++ shaL (ipL key ++ m)).length = 96) := Lib.hid (by rw [List.length_append, opL_len, shaL_len])
  go_wp2_with (first
    | (go_at_call 34; refine (sum_any (opL key ++ shaL (ipL key ++ m)) _ _ (RN.whole T5.out.box HLN.out (by omega) (by omega)) ((opL_bb HKB.out).app (shaL_bb _)) (by rw [HLN.out]; omega) (HV.out.below T5.out.bel)).mono ?_; rintro e w6 ⟨rfl, hb⟩; have T6 := Lib.hid (T5.out.step hb); clear hb)
    | ((with_reducible refine atOp ⟨none, .store 36 _ _, _, _, _, _⟩ ?_); refine wpList_store_row rfl 36 (.tmp 2) (.tmp 20) rfl w.heap.size (yV (tagL key m)) rfl rfl 36 (yV (List.replicate 32 0)) T6.out.res (info32 _ (tagL_len _ _)) (by rw [yV_size, yV_size, tagL_len]; rfl) (yV_one _) ?_))
  refine bodyPost_ret (v := .agg (yV (tagL key m))) (results_cell_row Tryd.results50 _ _ w.heap.size 36 _ (0, 0) _ rfl (T6.out.res.row _) Tryd.underlying36 rfl (info32 _ (tagL_len _ _))) rfl ⟨rfl, bl_row _ T6.out.bel (Nat.le_refl _)⟩
end Go.Proofs.YtaeicjgkoofmpaaDoor
namespace Go.Proofs.YtaeicjgkoofmpaaDoor
open Go.RowKit
set_option linter.unusedVariables false

/-- What Write and Reset leave: only the hash has changed. -/
def MTurned (w : World) (g h : Nat) (key m : List Nat) (e : Ending) (w' : World) : Prop := e = .returned (.int .i64 0) ∧ MX w' g h key m ∧ w.grownBy w' (some h)
theorem MX.grown {w w' : World} {g h : Nat} {key m m' : List Nat} (k : MX w g h key m) (hh : HA w' h (ipL key ++ m')) (hg : w.grownBy w' (some h)) : MX w' g h key m' := ⟨k.mac.grownX hg k.ne, hh⟩
set_option maxRecDepth 20000 in
set_option maxHeartbeats 2000000 in
theorem mwrite_any (g h : Nat) (key m xs : List Nat) (v : Value) (w : World) (hx : MX w g h key m) (hv : RN w v xs) (hb : BB xs) (hsz : m.length + xs.length ≤ 900000) (hV : VK w) :
    Calls Tryd.prog 30 #[.pointer (some ⟨g, 0, none⟩), v] w (MTurned w g h key (m ++ xs)) := by
  have c0 := hx.self
  have HX := Lib.hid hx; have HVV := Lib.hid hv; have HBB := Lib.hid hb; have HV := Lib.hid hV
  have HSZ : Hid ((ipL key ++ m).length + xs.length < 9223372036854775808) := Lib.hid (by rw [List.length_append, ipL_len]; omega)
  clear hx hv hb hsz hV
  go_enter Tryd.func30, Tryd.ntmps30
  go_wp2_with (first
    | (go_at_call 57; refine (misMade_yes g _ c0).mono ?_; rintro e w1 ⟨rfl, rfl⟩)
    | ((with_reducible refine atOp ⟨some 11, _, _, _, _, _⟩ ?_); refine wpList_load_at rfl 60 (.tmp 10) rfl g 1 65 rfl 62 (macL (some ⟨g, 0, none⟩) (ipL key) (some ⟨h, 0, none⟩) (opL key)) (inL (ipL key) (some ⟨h, 0, none⟩)) _ HX.out.mac (macL_in _ _ (ipL_len _)) (inL_len _ (ipL_len _)) Tryd.underlying60 rfl (by kernel_rfl) ?_)
    | (go_at_call 49; refine (iwrite_any (ipL key) h (ipL key ++ m) xs _ _ (ipL_len _) HX.out.hash HVV.out HBB.out HSZ.out HV.out).mono ?_; rintro e w2 ⟨rfl, hh, hg⟩; have H2 := Lib.hid hh; have G2 := Lib.hid hg; clear hh hg))
  go_ret
  exact ⟨rfl, HX.out.grown (by have := H2.out; rwa [List.append_assoc] at this) G2.out, G2.out⟩
set_option maxRecDepth 20000 in
set_option maxHeartbeats 2000000 in
theorem mreset_any (g h : Nat) (key m : List Nat) (w : World) (hx : MX w g h key m) (hkb : BB key) (hV : VK w) :
    Calls Tryd.prog 33 #[.pointer (some ⟨g, 0, none⟩)] w (MTurned w g h key []) := by
  have c0 := hx.self
  have HX := Lib.hid hx; have HBB := Lib.hid hkb; have HV := Lib.hid hV
  clear hx hkb hV
  go_enter Tryd.func33, Tryd.ntmps33
  go_wp2_with (first
    | (go_at_call 57; refine (misMade_yes g _ c0).mono ?_; rintro e w1 ⟨rfl, rfl⟩)
    | ((with_reducible refine atOp ⟨some 9, _, _, _, _, _⟩ ?_); refine wpList_load_at rfl 60 (.tmp 8) rfl g 1 65 rfl 62 (macL (some ⟨g, 0, none⟩) (ipL key) (some ⟨h, 0, none⟩) (opL key)) (inL (ipL key) (some ⟨h, 0, none⟩)) _ HX.out.mac (macL_in _ _ (ipL_len _)) (inL_len _ (ipL_len _)) Tryd.underlying60 rfl (by kernel_rfl) ?_)
    | (go_at_call 58; refine (irestart_any (ipL key) h (ipL key ++ m) _ (ipL_len _) (ipL_bb HBB.out) HX.out.hash HV.out).mono ?_; rintro e w2 ⟨rfl, hh, hg⟩; have H2 := Lib.hid hh; have G2 := Lib.hid hg; clear hh hg))
  go_ret
  exact ⟨rfl, HX.out.grown (by have := H2.out; rwa [List.append_nil]) G2.out, G2.out⟩
set_option maxRecDepth 20000 in
set_option maxHeartbeats 2000000 in
theorem mtag_any (g h : Nat) (key m : List Nat) (w : World) (hx : MX w g h key m) (hkb : BB key) (hmb : BB m) (hsz : m.length ≤ 900000) (hV : VK w) :
    Calls Tryd.prog 32 #[.pointer (some ⟨g, 0, none⟩)] w (Gives w (.tuple #[.agg (yV (tagL key m)), .int .i64 0])) := by
  have hb1 := bl_self w (.cells (yV (List.replicate 32 0)) 36)
  have c0 := (hx.step hb1).self
  have HX := Lib.hid (hx.step hb1); have HKB := Lib.hid hkb; have HMB := Lib.hid hmb; have HV := Lib.hid (hV.below hb1); have HB1 := Lib.hid hb1
  have HRES : Hid (AR (w.alloc (.cells (yV (List.replicate 32 0)) 36)) w.heap.size 36 (yV (List.replicate 32 0))) := Lib.hid (AR.made _ _ _)
  clear hx hkb hmb hV hb1
  go_enter Tryd.func32, Tryd.ntmps32
  go_wp2_with (first
    | (go_at_call 57; refine (misMade_yes g _ c0).mono ?_; rintro e w1 ⟨rfl, rfl⟩)
    | (go_at_call 50; refine (mtagi_any g h key m _ HX.out HKB.out HMB.out hsz HV.out).mono ?_; rintro e w2 ⟨rfl, hb⟩; have B2 := Lib.hid (bl_call HB1.out hb); have R2 := Lib.hid (HRES.out.step hb); clear hb)
    | ((with_reducible refine atOp ⟨none, .store 36 _ _, _, _, _, _⟩ ?_); refine wpList_store_row rfl 36 (.tmp 2) (.tmp 9) rfl w.heap.size (yV (tagL key m)) rfl rfl 36 (yV (List.replicate 32 0)) R2.out (info32 _ (tagL_len _ _)) (by rw [yV_size, yV_size, tagL_len]; rfl) (yV_one _) ?_))
  refine bodyPost_ret (v := .tuple #[.agg (yV (tagL key m)), .int .i64 0]) (results_row_tmp Tryd.results32 _ _ w.heap.size 36 _ (0, 0) _ _ rfl rfl (R2.out.row _) Tryd.underlying36 rfl (info32 _ (tagL_len _ _))) rfl ⟨rfl, bl_row _ B2.out (Nat.le_refl _)⟩

/-- What comparing a tag gives. -/
def authI (d tag : List Nat) : Int := if sameN d tag = true then 0 else 12
theorem authI_yes {d tag : List Nat} (h : sameN d tag = true) : authI d tag = 0 := if_pos h
theorem authI_no {d tag : List Nat} (h : sameN d tag = false) : authI d tag = 12 := if_neg (by rw [h]; exact Bool.false_ne_true)
set_option maxRecDepth 20000 in
set_option maxHeartbeats 2000000 in
theorem compare_any (d tag : List Nat) (v : Value) (w : World) (hd : d.length = 32) (hdb : BB d) (hv : RN w v tag) (hb : BB tag) (hsz : tag.length ≤ 1000000) :
    Calls Tryd.prog 54 #[.agg (yV d), v] w (Gives w (.int .i64 (authI d tag))) := by
  have hb1 := bl_self w (.cells (yV d) 36)
  have HV := Lib.hid (hv.later hb1); have HB := Lib.hid hb; have HDB := Lib.hid hdb; have HD := Lib.hid hd; have HB1 := Lib.hid hb1
  clear hv hb hdb hd hb1
  cases hs : sameN d tag with
  | true =>
    have HS := Lib.hid hs; clear hs
    go_enter Tryd.func54, Tryd.ntmps54
    go_wp2_with (go_at_call 25; refine (equal_any d tag _ _ _ _ (RN.whole (AR.made w _ _) HD.out (by omega) (by omega)) HV.out HDB.out HB.out (by rw [HD.out]; omega) hsz rfl).mono ?_; rintro e w1 ⟨rfl, rfl⟩; rw [HS.out])
    go_ret
    exact ⟨by rw [authI_yes HS.out]; rfl, HB1.out⟩
  | false =>
    have HS := Lib.hid hs; clear hs
    go_enter Tryd.func54, Tryd.ntmps54
    go_wp2_with (go_at_call 25; refine (equal_any d tag _ _ _ _ (RN.whole (AR.made w _ _) HD.out (by omega) (by omega)) HV.out HDB.out HB.out (by rw [HD.out]; omega) hsz rfl).mono ?_; rintro e w1 ⟨rfl, rfl⟩; rw [HS.out])
    go_ret
    exact ⟨by rw [authI_no HS.out]; rfl, HB1.out⟩
set_option maxRecDepth 20000 in
set_option maxHeartbeats 2000000 in
theorem mverify_any (g h : Nat) (key m tag : List Nat) (v : Value) (w : World) (hx : MX w g h key m) (hkb : BB key) (hmb : BB m) (hsz : m.length ≤ 900000) (hv : RN w v tag) (htb : BB tag) (htz : tag.length ≤ 1000000) (hV : VK w) :
    Calls Tryd.prog 31 #[.pointer (some ⟨g, 0, none⟩), v] w (Gives w (.int .i64 (authI (tagL key m) tag))) := by
  have c0 := hx.self
  have HX := Lib.hid hx; have HKB := Lib.hid hkb; have HMB := Lib.hid hmb; have HV := Lib.hid hV; have HR := Lib.hid hv; have HTB := Lib.hid htb
  clear hx hkb hmb hV hv htb
  go_enter Tryd.func31, Tryd.ntmps31
  go_wp2_with (first
    | (go_at_call 57; refine (misMade_yes g _ c0).mono ?_; rintro e w1 ⟨rfl, rfl⟩)
    | (go_at_call 50; refine (mtagi_any g h key m _ HX.out HKB.out HMB.out hsz HV.out).mono ?_; rintro e w2 ⟨rfl, hb⟩; have B2 := Lib.hid hb; clear hb)
    | (go_at_call 54; refine (compare_any (tagL key m) tag _ _ (tagL_len _ _) (tagL_bb _ _) (HR.out.later B2.out) HTB.out htz).mono ?_; rintro e w3 ⟨rfl, hb⟩; have B3 := Lib.hid (bl_call B2.out hb); clear hb))
  go_ret
  exact ⟨rfl, B3.out⟩
set_option maxRecDepth 20000 in
set_option maxHeartbeats 2000000 in
theorem htag_any (key xs : List Nat) (vk v : Value) (w : World) (hk : RN w vk key) (hkb : BB key) (hkz : key.length ≤ 900000) (hv : RN w v xs) (hb : BB xs) (hsz : xs.length ≤ 900000) (hV : VK w) :
    Calls Tryd.prog 23 #[vk, v] w (Gives w (.agg (yV (tagL key xs)))) := by
  have hb1 := bl_self w (.cells (yV (List.replicate 32 0)) 36)
  have HK := Lib.hid (hk.later hb1); have HKB := Lib.hid hkb; have HX := Lib.hid (hv.later hb1); have HBB := Lib.hid hb; have HV := Lib.hid (hV.below hb1); have HB1 := Lib.hid hb1
  have HRES : Hid (AR (w.alloc (.cells (yV (List.replicate 32 0)) 36)) w.heap.size 36 (yV (List.replicate 32 0))) := Lib.hid (AR.made _ _ _)
  clear hk hkb hv hb hV hb1
  go_enter Tryd.func23, Tryd.ntmps23
  go_wp2_with (first
    | (go_at_call 29; refine (hnew_any key _ _ HK.out HKB.out (by omega) HV.out).mono ?_; rintro e w2 ⟨g, h, rfl, h1, h2, h3, h4, hb⟩; have X2 : Hid (MX w2 g h key []) := Lib.hid ⟨h1, by rw [List.append_nil]; exact h2⟩; have R2 := Lib.hid (HRES.out.step hb); have V2 := Lib.hid (HX.out.later hb); have K2 := Lib.hid (HV.out.below hb); have N2 : Hid (w.heap.size < h) := Lib.hid (by simp at h4; omega); have B2 := Lib.hid (bl_call HB1.out hb); clear h1 h2 h3 h4 hb)
    | ((with_reducible refine atOp ⟨some 11, _, _, _, _, _⟩ ?_); refine wpList_load_at rfl 60 (.tmp 10) rfl g 1 65 rfl 62 (macL (some ⟨g, 0, none⟩) (ipL key) (some ⟨h, 0, none⟩) (opL key)) (inL (ipL key) (some ⟨h, 0, none⟩)) _ X2.out.mac (macL_in _ _ (ipL_len _)) (inL_len _ (ipL_len _)) Tryd.underlying60 rfl (by kernel_rfl) ?_)
    | (go_at_call 49; refine (iwrite_any (ipL key) h (ipL key ++ []) xs _ _ (ipL_len _) X2.out.hash V2.out HBB.out (by rw [List.append_nil, ipL_len]; omega) K2.out).mono ?_; rintro e w3 ⟨rfl, hh, hg⟩; have X3 : Hid (MX w3 g h key xs) := Lib.hid (X2.out.grown (by rwa [List.append_nil] at hh) hg); have R3 := Lib.hid (R2.out.grownX hg (by have := N2.out; omega)); have K3 := Lib.hid (K2.out.grown X2.out.hash hg); have B3 := Lib.hid (B2.out.grown hg B2.out.size (fun k e => by cases e; have := N2.out; omega)); clear hh hg)
    | (go_at_call 50; refine (mtagi_any g h key xs _ X3.out HKB.out HBB.out hsz K3.out).mono ?_; rintro e w4 ⟨rfl, hb⟩; have B4 := Lib.hid (bl_call B3.out hb); have R4 := Lib.hid (R3.out.step hb); clear hb)
    | ((with_reducible refine atOp ⟨none, .store 36 _ _, _, _, _, _⟩ ?_); refine wpList_store_row rfl 36 (.tmp 4) (.tmp 15) rfl w.heap.size (yV (tagL key xs)) rfl rfl 36 (yV (List.replicate 32 0)) R4.out (info32 _ (tagL_len _ _)) (by rw [yV_size, yV_size, tagL_len]; rfl) (yV_one _) ?_))
  refine bodyPost_ret (v := .agg (yV (tagL key xs))) (results_cell_row Tryd.results23 _ _ w.heap.size 36 _ (0, 0) _ rfl (R4.out.row _) Tryd.underlying36 rfl (info32 _ (tagL_len _ _))) rfl ⟨rfl, bl_row _ B4.out (Nat.le_refl _)⟩
set_option maxRecDepth 20000 in
set_option maxHeartbeats 2000000 in
theorem hverify_any (key xs tag : List Nat) (vk v vt : Value) (w : World) (hk : RN w vk key) (hkb : BB key) (hkz : key.length ≤ 900000) (hv : RN w v xs) (hb : BB xs) (hsz : xs.length ≤ 900000) (ht : RN w vt tag) (htb : BB tag) (htz : tag.length ≤ 1000000) (hV : VK w) :
    Calls Tryd.prog 27 #[vk, v, vt] w (Gives w (.int .i64 (authI (tagL key xs) tag))) := by
  have HK := Lib.hid hk; have HKB := Lib.hid hkb; have HX := Lib.hid hv; have HBB := Lib.hid hb; have HV := Lib.hid hV; have HT := Lib.hid ht; have HTB := Lib.hid htb
  clear hk hkb hv hb hV ht htb
  go_enter Tryd.func27, Tryd.ntmps27
  go_wp2_with (first
    | (go_at_call 23; refine (htag_any key xs _ _ _ HK.out HKB.out hkz HX.out HBB.out hsz HV.out).mono ?_; rintro e w2 ⟨rfl, hb⟩; have B2 := Lib.hid hb; clear hb)
    | (go_at_call 54; refine (compare_any (tagL key xs) tag _ _ (tagL_len _ _) (tagL_bb _ _) (HT.out.later B2.out) HTB.out htz).mono ?_; rintro e w3 ⟨rfl, hb⟩; have B3 := Lib.hid (bl_call B2.out hb); clear hb))
  go_ret
  exact ⟨rfl, B3.out⟩
end Go.Proofs.YtaeicjgkoofmpaaDoor
