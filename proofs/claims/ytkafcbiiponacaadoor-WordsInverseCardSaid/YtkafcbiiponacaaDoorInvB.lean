/- List expressions: List and ParseList are inverse to each other: the mathematics. -/
import Derived.Test.YtkafcbiiponacaaDoorDecM
import Derived.Test.YtkafcbiiponacaaDoorWordsX
namespace Go.Proofs.YtkafcbiiponacaaDoor
open Go.RowKit Go.Shelf
set_option linter.unusedVariables false

/-- A run, as its first and last number. -/
abbrev Rn := Nat × Nat
def txt (r : Rn) : List UInt8 := Lib.decDigits r.1 ++ if r.1 < r.2 then 45 :: Lib.decDigits r.2 else []
/-- Runs with gaps between them; g: the number before them (-1: none). -/
def Gaps : Int → List Rn → Prop
  | _, [] => True
  | g, r :: R => g + 1 < r.1 + (if g = -1 then 1 else 0) ∧ r.1 ≤ r.2 ∧ Gaps r.2 R
def flatR (R : List Rn) : List Int := R.flatMap fun r => upTo r.1 r.2
def lastR : Int → List Rn → Int
  | g, [] => g
  | _, r :: R => lastR r.2 R

theorem dgt_ne {c : UInt8} (h : dgt c = true) : c ≠ 44 ∧ c ≠ 45 := by
  rw [dgt_iff] at h
  constructor
  · rintro rfl; have : (44 : UInt8).toNat = 44 := rfl; omega
  · rintro rfl; have : (45 : UInt8).toNat = 45 := rfl; omega
theorem dd_mem {n : Nat} {c : UInt8} (h : c ∈ Lib.decDigits n) : dgt c = true := List.all_eq_true.1 (dd_dgt n) c h
theorem takeWhile_ne {a : List UInt8} (h : ∀ c ∈ a, c ≠ 45) : a.takeWhile (· != 45) = a ∧ a.dropWhile (· != 45) = [] := by
  induction a with
  | nil => exact ⟨rfl, rfl⟩
  | cons c r ih =>
    have hc : (c != 45) = true := by rw [bne_iff_ne]; exact h c (by simp)
    obtain ⟨i1, i2⟩ := ih (fun d hd => h d (by simp [hd]))
    rw [List.takeWhile_cons, if_pos hc, List.dropWhile_cons, if_pos hc, i1, i2]; exact ⟨rfl, rfl⟩
theorem takeWhile_dash {a b : List UInt8} (h : ∀ c ∈ a, c ≠ 45) : (a ++ 45 :: b).takeWhile (· != 45) = a ∧ (a ++ 45 :: b).dropWhile (· != 45) = 45 :: b := by
  induction a with
  | nil => exact ⟨rfl, rfl⟩
  | cons c r ih =>
    have hc : (c != 45) = true := by rw [bne_iff_ne]; exact h c (by simp)
    obtain ⟨i1, i2⟩ := ih (fun d hd => h d (by simp [hd]))
    rw [List.cons_append, List.takeWhile_cons, if_pos hc, List.dropWhile_cons, if_pos hc, i1, i2]; exact ⟨rfl, rfl⟩
theorem readR_txt (r : Rn) (h : r.1 ≤ r.2) : readR (txt r) = some (Lib.decDigits r.1, Lib.decDigits r.2) := by
  have hm : ∀ c ∈ Lib.decDigits r.1, c ≠ 45 := fun c hc => (dgt_ne (dd_mem hc)).2
  unfold txt readR
  by_cases hlt : r.1 < r.2
  · rw [if_pos hlt]
    obtain ⟨t1, t2⟩ := takeWhile_dash (b := Lib.decDigits r.2) hm
    rw [t1, t2, List.tail_cons, natB_dd, natB_dd, lessL_val (natB_dd _) (natB_dd _), dd_val, dd_val, if_neg (by simp), if_pos (by simp [hlt])]
  · have e : r.2 = r.1 := by omega
    rw [if_neg hlt, List.append_nil, (takeWhile_ne hm).2, natB_dd, e]; rfl
theorem readR_inv {p a b : List UInt8} (h : readR p = some (a, b)) : ∃ r : Rn, r.1 ≤ r.2 ∧ p = txt r ∧ a = Lib.decDigits r.1 ∧ b = Lib.decDigits r.2 := by
  unfold readR at h
  split at h
  · split at h
    · rename_i hn
      simp only [Option.some.injEq, Prod.mk.injEq] at h
      obtain ⟨rfl, rfl⟩ := h
      exact ⟨(valFrom 0 p, valFrom 0 p), Nat.le_refl _, by simp [txt, dd_natB hn], (dd_natB hn).symm, (dd_natB hn).symm⟩
    · cases h
  · rename_i hd
    split at h
    · rename_i hc
      simp only [Option.some.injEq, Prod.mk.injEq] at h
      simp only [Bool.and_eq_true] at hc
      obtain ⟨⟨h1, h2⟩, h3⟩ := hc
      rw [h.1, h.2] at h3; rw [h.1] at h1; rw [h.2] at h2
      rw [lessL_val h1 h2, decide_eq_true_eq] at h3
      refine ⟨(valFrom 0 a, valFrom 0 b), by simp; omega, ?_, (dd_natB h1).symm, (dd_natB h2).symm⟩
      have hp := List.takeWhile_append_dropWhile (p := (· != (45 : UInt8))) (l := p)
      have hd2 : p.dropWhile (· != 45) = 45 :: b := by
        cases hdw : p.dropWhile (· != 45) with
        | nil => rw [hdw] at hd; simp at hd
        | cons x y =>
          have h45 : x = 45 := by
            have hx := List.head_dropWhile_not (fun x => x != (45 : UInt8)) (l := p) (by rw [hdw]; simp)
            simp only [hdw, List.head_cons] at hx
            simpa using hx
          rw [hdw, List.tail_cons] at h
          rw [h45, h.2]
      rw [h.1, hd2] at hp
      unfold txt; simp only; rw [if_pos h3, dd_natB h1, dd_natB h2, hp]
    · cases h

theorem chk_gaps : ∀ (R : List Rn) (g : Int), -1 ≤ g → Gaps g R → chkGo (if g = -1 then [] else Lib.decDigits g.toNat) (R.map txt) = some (if lastR g R = -1 then [] else Lib.decDigits (lastR g R).toNat)
  | [], g, _, _ => rfl
  | r :: R, g, hg, h => by
    obtain ⟨h1, h2, h3⟩ := h
    rw [List.map_cons, chkGo, readR_txt r h2]
    have ih := chk_gaps R r.2 (by omega) h3
    rw [if_neg (by omega), Int.toNat_natCast] at ih
    have hc : (!(if g = -1 then ([] : List UInt8) else Lib.decDigits g.toNat).isEmpty && !lessL (succL (if g = -1 then [] else Lib.decDigits g.toNat)) (Lib.decDigits r.1)) = false := by
      by_cases e : g = -1
      · rw [if_pos e]; rfl
      · rw [if_neg e] at h1 ⊢
        rw [succL_dd, lessL_val (natB_dd _) (natB_dd _), dd_val, dd_val, decide_eq_true (by omega)]; simp
    simp only [hc]
    exact ih
theorem chk_inv : ∀ (P : List (List UInt8)) (g : Int) (z : List UInt8), -1 ≤ g → chkGo (if g = -1 then [] else Lib.decDigits g.toNat) P = some z →
    ∃ R, P = R.map txt ∧ Gaps g R ∧ z = if lastR g R = -1 then [] else Lib.decDigits (lastR g R).toNat
  | [], g, z, hg, h => by
    rw [chkGo] at h; cases h
    exact ⟨[], rfl, trivial, rfl⟩
  | p :: P, g, z, hg, h => by
    rw [chkGo] at h
    cases hr : readR p with
    | none => rw [hr] at h; cases h
    | some ab =>
      obtain ⟨a, b⟩ := ab
      obtain ⟨r, hle, rfl, rfl, rfl⟩ := readR_inv hr
      rw [hr] at h
      obtain ⟨gl, hgl⟩ : ∃ gl, (if g = -1 then ([] : List UInt8) else Lib.decDigits g.toNat) = gl := ⟨_, rfl⟩
      rw [hgl] at h
      simp only at h
      split at h
      · cases h
      · rename_i hc
        rw [← hgl] at hc
        have ih := chk_inv P r.2 z (by omega)
        rw [if_neg (by omega), Int.toNat_natCast] at ih
        obtain ⟨R, rfl, i2, i3⟩ := ih h
        refine ⟨r :: R, rfl, ⟨?_, hle, i2⟩, i3⟩
        by_cases e : g = -1
        · rw [if_pos e]; omega
        · rw [if_neg e] at hc ⊢
          rw [succL_dd, lessL_val (natB_dd _) (natB_dd _), dd_val, dd_val] at hc
          have hne : (Lib.decDigits g.toNat).isEmpty = false := by
            have := dd_ne g.toNat
            cases hd : Lib.decDigits g.toNat with
            | nil => exact absurd hd this
            | cons _ _ => rfl
          rw [hne] at hc
          simp at hc; omega
theorem lastR_ge : ∀ (R : List Rn) (g : Int), Gaps g R → ∀ r ∈ R, (r.2 : Int) ≤ lastR g R
  | [], _, _, r, h => by cases h
  | r :: R, g, h, q, hq => by
    obtain ⟨h1, h2, h3⟩ := h
    have key : ∀ (R : List Rn) (g : Int), Gaps g R → g ≤ lastR g R := by
      intro R
      induction R with
      | nil => intro g _; exact Int.le_refl _
      | cons r R ih => intro g h; obtain ⟨a, b, c⟩ := h; have := ih r.2 c; unfold lastR; split at a <;> omega
    rcases List.mem_cons.1 hq with rfl | hq
    · exact key R _ h3
    · exact lastR_ge R r.2 h3 q hq
theorem upTo_len (x y : Int) : (upTo x y).length = (y + 1 - x).toNat := by simp [upTo]
theorem intSp_dd (n : Nat) (h : n ≤ 1000000000) : intSp (Lib.decDigits n) 0 1000000000 = ((n : Int), 0) := by
  rw [intSp_nat (natB_dd n), dd_val, if_pos h]
theorem exp_gaps : ∀ (R : List Rn) (acc : List Int), (∀ r ∈ R, r.1 ≤ r.2 ∧ r.2 ≤ 1000000000) → expGo acc (R.map txt) = if 500 < (acc ++ flatR R).length ∧ R ≠ [] then none else some (acc ++ flatR R)
  | [], acc, _ => by rw [if_neg (by simp)]; simp [expGo, flatR]
  | r :: R, acc, h => by
    obtain ⟨h1, h2⟩ := h r (by simp)
    rw [List.map_cons, expGo, readR_txt r h1]
    simp only [intSp_dd r.2 h2, intSp_dd r.1 (by omega)]
    have hfl : flatR (r :: R) = upTo r.1 r.2 ++ flatR R := by simp [flatR]
    have hul := upTo_len r.1 r.2
    rw [hfl]
    by_cases hc : 500 ≤ (r.2 : Int) - (r.1 : Int) + (acc.length : Int)
    · rw [if_pos hc, if_pos ⟨by simp only [List.length_append, hul]; omega, by simp⟩]
    · rw [if_neg hc, exp_gaps R _ (fun q hq => h q (by simp [hq])), List.append_assoc]
      by_cases hR : R = []
      · subst hR
        rw [if_neg (by simp), if_neg (by intro hh; have := hh.1; simp [flatR, hul] at this; omega)]
      · by_cases hl : 500 < (acc ++ (upTo ↑r.1 ↑r.2 ++ flatR R)).length
        · rw [if_pos ⟨hl, hR⟩, if_pos ⟨hl, by simp⟩]
        · rw [if_neg (fun hh => hl hh.1), if_neg (fun hh => hl hh.1)]

/-! ### The runs of a list -/
theorem runE_at (pre : List Int) (d : Nat) : ∀ (rest : List Int) (x : Int), (rest = [] ∨ x + d + 1 < rest.headD 0) → ∀ j, j ≤ d → runE (pre ++ upTo x (x + d) ++ rest) (pre.length + (d - j)) = pre.length + d
  | rest, x, hr, j, hj => by
    have hlen : (upTo x (x + d)).length = d + 1 := by rw [upTo_len]; omega
    have hget : ∀ t, t ≤ d → (pre ++ upTo x (x + d) ++ rest).getD (pre.length + t) 0 = x + t := fun t ht => by
      rw [List.append_assoc, List.getD_eq_getElem?_getD, List.getElem?_append_right (by omega), Nat.add_sub_cancel_left, List.getElem?_append_left (by omega)]
      simp [upTo]
      rw [List.getElem?_range (by omega)]; simp
    induction j with
    | zero =>
      rw [Nat.sub_zero, runE]
      rcases hr with rfl | hr
      · rw [if_neg (by simp [hlen]; omega)]
      · cases rest with
        | nil => rw [if_neg (by simp [hlen]; omega)]
        | cons z rest =>
          have hz : (pre ++ upTo x (x + d) ++ z :: rest).getD (pre.length + d + 1) 0 = z := by
            rw [List.getD_eq_getElem?_getD, List.getElem?_append_right (by simp [hlen]; omega)]
            simp [hlen, Nat.add_assoc]
          have hz2 : x + d + 1 < z := hr
          rw [if_pos (by simp [hlen]; omega), hz, hget d (Nat.le_refl _), if_neg (by omega)]
    | succ j ih =>
      have ih := ih (by omega)
      rw [runE, if_pos (by simp [hlen]; omega), show pre.length + (d - (j + 1)) + 1 = pre.length + (d - j) by omega, hget (d - j) (by omega), hget (d - (j + 1)) (by omega), if_pos (by omega), ih]
theorem flat_head {g : Int} {R : List Rn} (h : Gaps g R) : flatR R = [] ∨ g + 1 < (flatR R).headD 0 + (if g = -1 then 1 else 0) := by
  cases R with
  | nil => exact .inl rfl
  | cons r R =>
    right
    obtain ⟨h1, h2, _⟩ := h
    have : (flatR (r :: R)).headD 0 = r.1 := by
      have hfl : flatR (r :: R) = upTo r.1 r.2 ++ flatR R := by simp [flatR]
      have hu : upTo r.1 r.2 = (r.1 : Int) :: (List.range (r.2 - r.1)).map (fun i => (r.1 : Int) + (i + 1 : Nat)) := by
        unfold upTo
        rw [show ((r.2 : Int) + 1 - r.1).toNat = (r.2 - r.1) + 1 by omega, List.range_succ_eq_map, List.map_cons, List.map_map]
        congr 1
      rw [hfl, hu]; rfl
    rw [this]; exact h1
theorem pieces_flat : ∀ (R : List Rn) (g : Int) (pre : List Int), -1 ≤ g → Gaps g R → piecesF (pre ++ flatR R) pre.length = R.map txt
  | [], g, pre, _, _ => by rw [piecesF, dif_neg (by simp [flatR])]; rfl
  | r :: R, g, pre, hg, h => by
    obtain ⟨h1, h2, h3⟩ := h
    have hfl : flatR (r :: R) = upTo r.1 r.2 ++ flatR R := by simp [flatR]
    obtain ⟨d, hd⟩ : ∃ d : Nat, r.2 = r.1 + d := ⟨r.2 - r.1, by omega⟩
    have he : (r.2 : Int) = (r.1 : Int) + (d : Int) := by omega
    have hlen : (upTo r.1 r.2).length = d + 1 := by rw [upTo_len]; omega
    have hrest : flatR R = [] ∨ (r.1 : Int) + d + 1 < (flatR R).headD 0 := by
      rcases flat_head h3 with hh | hh
      · exact .inl hh
      · right; rw [if_neg (by omega)] at hh; omega
    have hE := runE_at pre d (flatR R) r.1 hrest d (Nat.le_refl _)
    rw [← he, Nat.sub_self, Nat.add_zero, List.append_assoc, ← hfl] at hE
    have hget : ∀ t, t ≤ d → (pre ++ flatR (r :: R)).getD (pre.length + t) 0 = (r.1 : Int) + t := fun t ht => by
      rw [hfl, List.getD_eq_getElem?_getD, List.getElem?_append_right (by omega), Nat.add_sub_cancel_left, List.getElem?_append_left (by omega)]
      simp [upTo]
      rw [List.getElem?_range (by omega)]; simp
    rw [piecesF, dif_pos (by rw [hfl]; simp [hlen]; omega), hE, List.map_cons]
    have ih := pieces_flat R r.2 (pre ++ upTo r.1 r.2) (by omega) h3
    rw [List.append_assoc, ← hfl, List.length_append, hlen] at ih
    rw [show pre.length + d + 1 = pre.length + (d + 1) by omega, ih]
    congr 1
    have g0 := hget 0 (by omega)
    rw [Nat.add_zero] at g0
    unfold pieceB txt
    rw [g0, hget d (Nat.le_refl _), itoa_nat _ (by omega), itoa_nat _ (by omega)]
    have e1 : ((r.1 : Int) + ((0 : Nat) : Int)).toNat = r.1 := by omega
    have e2 : ((r.1 : Int) + (d : Int)).toNat = r.2 := by omega
    rw [e1, e2]
    by_cases hz : 0 < d
    · rw [if_pos (by omega), if_pos (by omega)]
    · rw [if_neg (by omega), if_neg (by omega)]

/-- An ascending list of integers that are not negative is that of runs with gaps. -/
theorem runs_of : ∀ (ns : List Int) (g : Int), -1 ≤ g → (∀ i, i < ns.length → g < ns.getD i 0) → (∀ i, i + 1 < ns.length → ns.getD i 0 < ns.getD (i + 1) 0) →
    ∃ R, ns = flatR R ∧ (Gaps (-1) R) ∧ (∀ r ∈ R, g < r.1)
  | [], g, _, _, _ => ⟨[], rfl, trivial, fun r h => by cases h⟩
  | n :: ns, g, hg, h1, h2 => by
    have hn : g < n := h1 0 (by simp)
    obtain ⟨R, hR, hG, hm⟩ := runs_of ns n (by omega) (fun i hi => by
      have key : ∀ i, i < ns.length → n < ns.getD i 0 := by
        intro i
        induction i with
        | zero => intro hi; have := h2 0 (by simp; omega); simpa using this
        | succ i ih => intro hi; have a := ih (by omega); have := h2 (i + 1) (by simp; omega); simp at this a ⊢; omega
      exact key i hi) (fun i hi => by have := h2 (i + 1) (by simp; omega); simpa using this)
    obtain ⟨k, rfl⟩ : ∃ k : Nat, n = k := ⟨n.toNat, by omega⟩
    have up1 : upTo (k : Int) k = [(k : Int)] := by
      unfold upTo
      rw [show ((k : Int) + 1 - k).toNat = 1 by omega]; simp
    have single : ∀ Q, Gaps (-1) Q → (∀ r ∈ Q, (k : Int) + 1 < r.1) → Gaps (-1) (((k, k) : Rn) :: Q) := fun Q hQ hk => by
      refine ⟨by simp, Nat.le_refl _, ?_⟩
      cases Q with
      | nil => trivial
      | cons q Q =>
        obtain ⟨a, b, c⟩ := hQ
        have := hk q (by simp)
        refine ⟨?_, b, c⟩
        rw [if_neg (by simp only; omega)]; simpa using this
    cases R with
    | nil =>
      refine ⟨[(k, k)], by rw [hR]; simp [flatR, up1], single [] trivial (fun r h => by cases h), fun r h => by simp at h; subst h; exact hn⟩
    | cons q Q =>
      have hq := hm q (by simp)
      obtain ⟨a, b, c⟩ := hG
      by_cases e : (q.1 : Int) = k + 1
      · refine ⟨(k, q.2) :: Q, ?_, ⟨by simp, by simp only; omega, c⟩, fun r h => ?_⟩
        · rw [hR]
          have : upTo (k : Int) q.2 = (k : Int) :: upTo q.1 q.2 := by
            unfold upTo
            rw [show ((q.2 : Int) + 1 - k).toNat = ((q.2 : Int) + 1 - q.1).toNat + 1 by omega, List.range_succ_eq_map, List.map_cons, List.map_map]
            have hz : (k : Int) + ((0 : Nat) : Int) = k := by omega
            rw [hz]; congr 1
            apply List.map_congr_left; intro i _
            show (k : Int) + ((i + 1 : Nat) : Int) = (q.1 : Int) + (i : Int)
            omega
          simp [flatR, this]
        · rcases List.mem_cons.1 h with rfl | h
          · exact hn
          · have := hm r (by simp [h]); omega
      · refine ⟨(k, k) :: q :: Q, by rw [hR]; simp [flatR, up1], single (q :: Q) ⟨a, b, c⟩ (fun r h => ?_), fun r h => ?_⟩
        · have key : ∀ (Q : List Rn) (g : Int), Gaps g Q → ∀ r ∈ Q, g < r.1 ∨ g = -1 := by
            intro Q
            induction Q with
            | nil => intro g _ r h; cases h
            | cons q Q ih =>
              intro g h r hr
              obtain ⟨a, b, c⟩ := h
              by_cases e : g = -1
              · exact .inr e
              · rw [if_neg e] at a
                rcases List.mem_cons.1 hr with rfl | hr
                · left; omega
                · rcases ih q.2 c r hr with h | h
                  · left; omega
                  · omega
          rcases List.mem_cons.1 h with rfl | h
          · omega
          · rcases key Q q.2 c r h with h' | h' <;> omega
        · rcases List.mem_cons.1 h with rfl | h
          · exact hn
          · have := hm r h; omega

theorem cut_join (c : UInt8) : ∀ (P : List (List UInt8)), P ≠ [] → (∀ p ∈ P, ∀ x ∈ p, x ≠ c) → cutAt c (Lib.join P [c]) = P
  | [], h, _ => absurd rfl h
  | [p], _, h => by rw [Lib.join_one]; exact cutAt_none c p (h p (by simp))
  | p :: q :: P, _, h => by
    have ih := cut_join c (q :: P) (by simp) (fun r hr => h r (by simp [List.mem_cons.1 hr]))
    have e : Lib.join (p :: q :: P) [c] = p ++ c :: Lib.join (q :: P) [c] := by rw [Lib.join_cons, Lib.join_cons]; simp [Lib.joinTail]
    rw [e, cutAt_app c p _ (h p (by simp)), ih]
theorem join_cut (c : UInt8) : ∀ l : List UInt8, Lib.join (cutAt c l) [c] = l
  | [] => by simp [cutAt, Lib.join_one]
  | x :: r => by
    have ih := join_cut c r
    rw [cutAt]
    split
    · rename_i hx
      subst hx
      cases hc : cutAt x r with
      | nil => exact absurd hc (cutAt_ne x r)
      | cons p ps => rw [hc] at ih; rw [Lib.join_cons]; rw [Lib.join_cons] at ih; simp [Lib.joinTail] at ih ⊢; exact ih
    · cases hc : cutAt c r with
      | nil => exact absurd hc (cutAt_ne c r)
      | cons p ps => rw [hc] at ih; rw [Lib.join_cons] at ih ⊢; simp only [List.cons_append]; rw [ih]
theorem txt_mem {r : Rn} {x : UInt8} (h : x ∈ txt r) : x ≠ 44 := by
  unfold txt at h
  rcases List.mem_append.1 h with h | h
  · exact (dgt_ne (dd_mem h)).1
  · split at h
    · rcases List.mem_cons.1 h with rfl | h
      · decide
      · exact (dgt_ne (dd_mem h)).1
    · cases h
theorem txt_head (r : Rn) (t : List UInt8) : txt r ++ t ≠ [45] := by
  intro e
  have hn := dd_ne r.1
  unfold txt at e
  cases hd : Lib.decDigits r.1 with
  | nil => exact absurd hd hn
  | cons a b =>
    rw [hd] at e
    have ha : dgt a = true := dd_mem (n := r.1) (by rw [hd]; simp)
    simp only [List.cons_append, List.cons.injEq] at e
    exact (dgt_ne ha).2 e.1

/-- ParseList of List returns the list. -/
theorem parse_list {ns : List Int} {t : List UInt8} (h : listL ns = (t, 0)) : parseL t = (ns, 0) := by
  unfold listL at h
  by_cases h500 : 500 < ns.length
  · rw [if_pos h500] at h; simp at h
  rw [if_neg h500] at h
  cases hr : rangeB ns
  case true => rw [hr] at h; simp at h
  rw [hr] at h
  cases ha : ascB ns
  case false => rw [ha] at h; simp at h
  rw [ha] at h
  by_cases h0 : ns.length = 0
  · have : ns = [] := List.eq_nil_of_length_eq_zero h0
    subst this
    simp at h; subst h; rfl
  simp only [h0] at h
  simp at h
  subst h
  have hget := rangeB_get hr
  have hasc : ∀ i, i < ns.length → 1 ≤ i → ns.getD (i - 1) 0 < ns.getD i 0 := by unfold ascB at ha; exact of_decide_eq_true ha
  obtain ⟨R, hR, hG, _⟩ := runs_of ns (-1) (by omega) (fun i hi => by have := hget i hi; omega) (fun i hi => by have := hasc (i + 1) hi (by omega); simpa using this)
  have hP : piecesF ns 0 = R.map txt := by
    have := pieces_flat R (-1) [] (by omega) hG
    rw [List.nil_append, ← hR] at this; exact this
  have hRne : R ≠ [] := by rintro rfl; rw [hR] at h0; exact h0 rfl
  have hbound : ∀ r ∈ R, r.1 ≤ r.2 ∧ r.2 ≤ 1000000000 := by
    have key : ∀ (Q : List Rn) (g : Int), Gaps g Q → ∀ r ∈ Q, r.1 ≤ r.2 := by
      intro Q
      induction Q with
      | nil => intro g _ r h; cases h
      | cons q Q ih =>
        intro g h r hr
        obtain ⟨a, b, c⟩ := h
        rcases List.mem_cons.1 hr with rfl | hr
        · exact b
        · exact ih _ c r hr
    intro r hrR
    have hle := key R _ hG r hrR
    refine ⟨hle, ?_⟩
    have hmem : (r.2 : Int) ∈ ns := by
      rw [hR]; unfold flatR; rw [List.mem_flatMap]
      refine ⟨r, hrR, ?_⟩
      unfold upTo; rw [List.mem_map]
      exact ⟨r.2 - r.1, by rw [List.mem_range]; omega, by omega⟩
    obtain ⟨j, hj, e⟩ := List.getElem_of_mem hmem
    have := (hget j hj).2
    rw [List.getD_eq_getElem?_getD, List.getElem?_eq_getElem hj] at this
    simp at this; omega
  have hcut : cutAt 44 (listS ns) = R.map txt := by
    unfold listS; rw [hP]
    refine cut_join 44 _ (by simpa using hRne) (fun p hp x hx => ?_)
    obtain ⟨r, _, rfl⟩ := List.mem_map.1 hp
    exact txt_mem hx
  have h45 : listS ns ≠ [45] := by
    unfold listS; rw [hP]
    cases R with
    | nil => exact absurd rfl hRne
    | cons r R => rw [List.map_cons, Lib.join_cons]; exact txt_head r _
  have hchk := chk_gaps R (-1) (by omega) hG
  rw [if_pos rfl] at hchk
  have hlast : 0 ≤ lastR (-1) R ∧ lastR (-1) R ≤ 1000000000 := by
    have key : ∀ (Q : List Rn) (g : Int), Q ≠ [] → ∃ r ∈ Q, lastR g Q = r.2 := by
      intro Q
      induction Q with
      | nil => intro g h; exact absurd rfl h
      | cons q Q ih =>
        intro g _
        cases Q with
        | nil => exact ⟨q, by simp, rfl⟩
        | cons p Q => obtain ⟨r, h1, h2⟩ := ih (q.2 : Int) (by simp); exact ⟨r, by simp [List.mem_cons.1 h1], h2⟩
    obtain ⟨r, h1, h2⟩ := key R (-1) hRne
    rw [h2]; have := (hbound r h1).2; omega
  have hexp := exp_gaps R [] hbound
  rw [List.nil_append, ← hR, if_neg (fun hh => h500 hh.1)] at hexp
  unfold parseL
  rw [if_neg h45, hcut, hchk, if_neg (by omega)]
  simp only
  rw [intSp_dd _ (by omega), hexp]; rfl

/-- List of ParseList returns the expression. -/
theorem list_parse {l : List UInt8} {ns : List Int} (h : parseL l = (ns, 0)) : listL ns = (l, 0) := by
  unfold parseL at h
  by_cases h45 : l = [45]
  · subst h45
    simp at h; subst h; rfl
  rw [if_neg h45] at h
  cases hc : chkGo [] (cutAt 44 l) with
  | none => rw [hc] at h; simp at h
  | some g =>
    rw [hc] at h
    have hci := chk_inv (cutAt 44 l) (-1) g (by omega)
    rw [if_pos rfl] at hci
    obtain ⟨R, hR, hG, hg⟩ := hci hc
    have hRne : R ≠ [] := by rintro rfl; exact cutAt_ne 44 l hR
    have hlast : ∃ r ∈ R, lastR (-1) R = r.2 := by
      have key : ∀ (Q : List Rn) (g : Int), Q ≠ [] → ∃ r ∈ Q, lastR g Q = r.2 := by
        intro Q
        induction Q with
        | nil => intro g h; exact absurd rfl h
        | cons q Q ih =>
          intro g _
          cases Q with
          | nil => exact ⟨q, by simp, rfl⟩
          | cons p Q => obtain ⟨r, h1, h2⟩ := ih (q.2 : Int) (by simp); exact ⟨r, by simp [List.mem_cons.1 h1], h2⟩
      exact key R (-1) hRne
    obtain ⟨r0, hr0, hl0⟩ := hlast
    rw [if_neg (by omega), hl0, Int.toNat_natCast] at hg
    subst hg
    simp only [intSp_nat (natB_dd r0.2), dd_val] at h
    by_cases hmax : r0.2 ≤ 1000000000
    · rw [if_pos hmax] at h
      simp only [if_true] at h
      have hbound : ∀ r ∈ R, r.1 ≤ r.2 ∧ r.2 ≤ 1000000000 := by
        have key : ∀ (Q : List Rn) (g : Int), Gaps g Q → ∀ r ∈ Q, r.1 ≤ r.2 := by
          intro Q
          induction Q with
          | nil => intro g _ r h; cases h
          | cons q Q ih =>
            intro g h r hr
            obtain ⟨a, b, c⟩ := h
            rcases List.mem_cons.1 hr with rfl | hr
            · exact b
            · exact ih _ c r hr
        intro r hr
        have := lastR_ge R (-1) hG r hr
        exact ⟨key R _ hG r hr, by omega⟩
      have hexp := exp_gaps R [] hbound
      rw [List.nil_append, ← hR] at hexp
      rw [hexp] at h
      by_cases h500 : 500 < (flatR R).length
      · rw [if_pos ⟨h500, hRne⟩] at h; simp at h
      · rw [if_neg (fun hh => h500 hh.1)] at h
        simp only [Prod.mk.injEq, and_true] at h
        subst h
        have hP := pieces_flat R (-1) [] (by omega) hG
        rw [List.nil_append] at hP
        have hS : listS (flatR R) = l := by
          unfold listS
          have hP2 : piecesF (flatR R) 0 = cutAt 44 l := by rw [hR]; exact hP
          rw [hP2]; exact join_cut 44 l
        have asc : ∀ (Q : List Rn) (g : Int), -1 ≤ g → Gaps g Q → (∀ x ∈ flatR Q, (g < x ∨ g = -1) ∧ 0 ≤ x) ∧ (flatR Q).Pairwise (· < ·) := by
          intro Q
          induction Q with
          | nil => intro g _ _; exact ⟨fun x hx => (by cases hx), List.Pairwise.nil⟩
          | cons q Q ih =>
            intro g hg h
            obtain ⟨a, b, c⟩ := h
            obtain ⟨i1, i2⟩ := ih q.2 (by omega) c
            have hfl : flatR (q :: Q) = upTo q.1 q.2 ++ flatR Q := by simp [flatR]
            have hmem : ∀ x ∈ upTo q.1 q.2, (q.1 : Int) ≤ x ∧ x ≤ q.2 := by
              intro x hx; unfold upTo at hx; obtain ⟨i, hi, rfl⟩ := List.mem_map.1 hx; rw [List.mem_range] at hi; omega
            rw [hfl]
            refine ⟨fun x hx => ?_, ?_⟩
            · rcases List.mem_append.1 hx with hx | hx
              · have := hmem x hx; split at a <;> omega
              · have := i1 x hx; have e : (q.2 : Int) ≠ -1 := by omega
                have h2 := this.1.resolve_right e
                split at a <;> omega
            · rw [List.pairwise_append]
              refine ⟨?_, i2, fun x hx y hy => ?_⟩
              · unfold upTo; rw [List.pairwise_map]
                exact (List.pairwise_lt_range).imp (fun h => by omega)
              · have h1 := hmem x hx
                have h2 := (i1 y hy).1.resolve_right (by omega)
                omega
        obtain ⟨a1, a2⟩ := asc R (-1) (by omega) hG
        have hrange : rangeB (flatR R) = false := by
          unfold rangeB; rw [List.any_eq_false]
          intro x hx
          have h0 := (a1 x hx).2
          have hle : x ≤ 1000000000 := by
            unfold flatR at hx; obtain ⟨r, hr, hx⟩ := List.mem_flatMap.1 hx
            have := (hbound r hr).2
            unfold upTo at hx; obtain ⟨i, hi, rfl⟩ := List.mem_map.1 hx; rw [List.mem_range] at hi; omega
          simp; omega
        have hascB : ascB (flatR R) = true := by
          unfold ascB; refine decide_eq_true (fun i hi h1 => ?_)
          have := List.pairwise_iff_getElem.1 a2 (i - 1) i (by omega) hi (by omega)
          rw [List.getD_eq_getElem?_getD, List.getD_eq_getElem?_getD, List.getElem?_eq_getElem hi, List.getElem?_eq_getElem (by omega : i - 1 < (flatR R).length)]
          simpa using this
        have hne : (flatR R).length ≠ 0 := by
          intro e
          have : flatR R = [] := List.eq_nil_of_length_eq_zero e
          rw [this] at hS
          cases R with
          | nil => exact absurd rfl hRne
          | cons r R =>
            have hfl : flatR (r :: R) = upTo r.1 r.2 ++ flatR R := by simp [flatR]
            have hl := upTo_len r.1 r.2
            have := (hbound r (by simp)).1
            rw [hfl] at e; simp only [List.length_append] at e; omega
        unfold listL
        rw [if_neg h500, hrange, hascB, hS]
        simp [hne]
    · rw [if_neg hmax] at h; simp at h
end Go.Proofs.YtkafcbiiponacaaDoor
