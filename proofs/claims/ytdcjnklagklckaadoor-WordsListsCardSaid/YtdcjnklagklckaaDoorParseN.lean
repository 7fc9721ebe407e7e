/- A run as the reference reads it: cut at its dashes. The reference's ParseList: what its loops keep. Two rows of strings of the call's own that grow in turn. The reference's ParseList: its first loop's tests. The reference's ParseList: one round of its first loop. -/
import Derived.Test.YtdcjnklagklckaaDoorParseA
import Derived.Test.YtdcjnklagklckaaDoorWordsC
import Derived.Test.YtdcjnklagklckaaDoorDecM
import Derived.Test.YtdcjnklagklckaaDoorParseI
import Derived.Test.YtdcjnklagklckaaDoorParseH
import Derived.Test.YtdcjnklagklckaaDoorParseG
import Derived.Test.YtdcjnklagklckaaDoorWordsH
import Derived.BigQuiet
import Derived.Deep.QuietTactic
import Derived.Deep.DeepCutAuto
import Derived.Deep.RegionHeld
namespace Go.Proofs.YtdcjnklagklckaaDoor
open Go.RowKit
set_option linter.unusedVariables false

theorem cut_tw (c : UInt8) : ∀ l : List UInt8, cutAt c l = l.takeWhile (· != c) :: (match l.dropWhile (· != c) with | [] => [] | _ :: r => cutAt c r)
  | [] => rfl
  | x :: r => by
    by_cases h : x = c
    · subst h
      simp [cutAt]
    · rw [cutAt, if_neg h, cut_tw c r]
      have hx : (x != c) = true := by simpa using h
      simp [hx]
theorem tw_nil {c : UInt8} {l : List UInt8} (h : l.dropWhile (· != c) = []) : l.takeWhile (· != c) = l := by
  have := List.takeWhile_append_dropWhile (p := (· != c)) (l := l)
  rw [h, List.append_nil] at this; exact this
theorem cut_one {c : UInt8} {l a : List UInt8} (h : cutAt c l = [a]) : l = a ∧ l.dropWhile (· != c) = [] := by
  rw [cut_tw] at h
  cases hd : l.dropWhile (· != c) with
  | nil => rw [hd] at h; simp at h; exact ⟨by rw [← tw_nil hd, h], rfl⟩
  | cons d r => rw [hd] at h; simp at h; exact absurd h.2 (cutAt_ne c r)
theorem cut_no (c : UInt8) : ∀ l : List UInt8, ∀ p ∈ cutAt c l, ∀ x ∈ p, x ≠ c
  | [], p, hp, x, hx => by simp [cutAt] at hp; subst hp; cases hx
  | y :: r, p, hp, x, hx => by
    rw [cutAt] at hp
    by_cases h : y = c
    · rw [if_pos h] at hp
      rcases List.mem_cons.1 hp with rfl | hp
      · cases hx
      · exact cut_no c r p hp x hx
    · rw [if_neg h] at hp
      cases hr : cutAt c r with
      | nil => exact absurd hr (cutAt_ne c r)
      | cons q qs =>
        rw [hr] at hp
        rcases List.mem_cons.1 hp with rfl | hp
        · rcases List.mem_cons.1 hx with rfl | hx
          · exact h
          · exact cut_no c r q (by rw [hr]; simp) x hx
        · exact cut_no c r p (by rw [hr]; simp [hp]) x hx
theorem intB_nodash {l : List UInt8} (h : ∀ x ∈ l, x ≠ 45) : intB l = natB l := by
  unfold intB
  cases l with
  | nil => simp [natB]
  | cons x r =>
    have : (x.toNat == 45) = false := by
      rw [beq_eq_false_iff_ne]; intro e
      exact h x (by simp) (UInt8.toNat_inj.1 e)
    simp [this]
theorem readR_one {p a : List UInt8} (h : cutAt 45 p = [a]) : readR p = if natB a then some (a, a) else none := by
  obtain ⟨rfl, hd⟩ := cut_one h
  unfold readR; rw [hd]; rfl
theorem cut_two {c : UInt8} {p a b : List UInt8} {q : List (List UInt8)} (h : cutAt c p = a :: b :: q) : ∃ d r, p.dropWhile (· != c) = d :: r ∧ p.takeWhile (· != c) = a ∧ cutAt c r = b :: q := by
  rw [cut_tw] at h
  cases hd : p.dropWhile (· != c) with
  | nil => rw [hd] at h; simp at h
  | cons d r => rw [hd] at h; simp at h; exact ⟨d, r, rfl, h.1, h.2⟩
theorem readR_two {p a b : List UInt8} (h : cutAt 45 p = [a, b]) : readR p = if natB a && natB b && lessL a b then some (a, b) else none := by
  obtain ⟨d, r, h1, h2, h3⟩ := cut_two h
  obtain ⟨rfl, _⟩ := cut_one h3
  unfold readR; rw [h1, h2]; rfl
theorem natB_dash {l : List UInt8} (h : 45 ∈ l) : natB l = false := by
  unfold natB
  rw [show l.all dgt = false from List.all_eq_false.2 ⟨45, h, by decide⟩, Bool.and_false]
theorem readR_many {p a b e : List UInt8} {q : List (List UInt8)} (h : cutAt 45 p = a :: b :: e :: q) : readR p = none := by
  obtain ⟨d, r, h1, h2, h3⟩ := cut_two h
  obtain ⟨d2, r2, h4, h5, h6⟩ := cut_two h3
  have hm : 45 ∈ r := by
    have e1 := List.takeWhile_append_dropWhile (p := (· != (45 : UInt8))) (l := r)
    rw [h4] at e1
    have hd2 : d2 = 45 := by
      have := List.head_dropWhile_not (p := (· != (45 : UInt8))) (l := r) (by rw [h4]; simp)
      simp only [h4, List.head_cons] at this
      simpa using this
    rw [← e1, hd2]; simp
  have hn := natB_dash hm
  unfold readR; rw [h1, h2]; simp [hn]
end Go.Proofs.YtdcjnklagklckaaDoor
namespace Go.Proofs.YtdcjnklagklckaaDoor
open Go.RowKit
set_option linter.unusedVariables false

theorem readR_natB {p a b : List UInt8} (h : readR p = some (a, b)) : natB a = true ∧ natB b = true := by
  unfold readR at h
  split at h
  · split at h
    · rename_i hn
      simp only [Option.some.injEq, Prod.mk.injEq] at h
      obtain ⟨rfl, rfl⟩ := h; exact ⟨hn, hn⟩
    · cases h
  · split at h
    · rename_i hn
      simp only [Option.some.injEq, Prod.mk.injEq] at h
      obtain ⟨rfl, rfl⟩ := h
      simp only [Bool.and_eq_true] at hn
      exact ⟨hn.1.1, hn.1.2⟩
    · cases h
theorem natB_ne {l : List UInt8} (h : natB l = true) : l ≠ [] := by rintro rfl; simp [natB] at h

/-- After k of the runs R: g the last number, F the first ones, L the last ones. -/
structure LpInv (R : List (List UInt8)) (k : Nat) (g : List UInt8) (F L : List (List UInt8)) : Prop where
  le : k ≤ R.length
  fl : F.length = k
  ll : L.length = k
  chk : chkGo [] R = chkGo g (R.drop k)
  nil : k = 0 → g = []
  nat : 0 < k → natB g = true
  rd : ∀ j, j < k → readR (R.getD j []) = some (F.getD j [], L.getD j [])
theorem LpInv.start (R : List (List UInt8)) : LpInv R 0 [] [] [] := ⟨Nat.zero_le _, rfl, rfl, rfl, fun _ => rfl, fun h => absurd h (by omega), fun j h => absurd h (by omega)⟩
theorem drop_getD {R : List (List UInt8)} {k : Nat} (hk : k < R.length) : R.drop k = R.getD k [] :: R.drop (k + 1) := by
  rw [List.drop_eq_getElem_cons hk, List.getD_eq_getElem?_getD, List.getElem?_eq_getElem hk]; rfl
theorem LpInv.none {R : List (List UInt8)} {k : Nat} {g : List UInt8} {F L : List (List UInt8)} (h : LpInv R k g F L) (hk : k < R.length) (hr : readR (R.getD k []) = .none) : chkGo [] R = .none := by
  rw [h.chk, drop_getD hk, chkGo, hr]
theorem LpInv.gap {R : List (List UInt8)} {k : Nat} {g a b : List UInt8} {F L : List (List UInt8)} (h : LpInv R k g F L) (hk : k < R.length) (hr : readR (R.getD k []) = some (a, b)) (h0 : 0 < k) (hl : lessL (succL g) a = false) : chkGo [] R = .none := by
  rw [h.chk, drop_getD hk, chkGo, hr]
  have := natB_ne (h.nat h0)
  cases hg : g with
  | nil => exact absurd hg this
  | cons c r => rw [hg] at hl; simp [hl]
theorem getD_snoc {F : List (List UInt8)} {k : Nat} (hf : F.length = k) (a : List UInt8) {j : Nat} (hj : j < k + 1) : (F ++ [a]).getD j [] = if j < k then F.getD j [] else a := by
  subst hf
  split
  · rename_i h; rw [List.getD_eq_getElem?_getD, List.getD_eq_getElem?_getD, List.getElem?_append_left h]
  · obtain rfl : j = F.length := by omega
    rw [List.getD_eq_getElem?_getD, List.getElem?_append_right (Nat.le_refl _)]; simp
theorem LpInv.step {R : List (List UInt8)} {k : Nat} {g a b : List UInt8} {F L : List (List UInt8)} (h : LpInv R k g F L) (hk : k < R.length) (hr : readR (R.getD k []) = some (a, b)) (hl : k = 0 ∨ lessL (succL g) a = true) : LpInv R (k + 1) b (F ++ [a]) (L ++ [b]) := by
  refine ⟨hk, by simp [h.fl], by simp [h.ll], ?_, fun e => absurd e (by omega), fun _ => (readR_natB hr).2, fun j hj => ?_⟩
  · rw [h.chk, drop_getD hk, chkGo, hr]
    rcases hl with h0 | hl
    · rw [h.nil h0]; simp
    · simp [hl]
  · rw [getD_snoc h.fl a hj, getD_snoc h.ll b hj]
    split
    · rename_i h1; exact h.rd j h1
    · obtain rfl : j = k := by omega
      exact hr
theorem LpInv.done {R : List (List UInt8)} {k : Nat} {g : List UInt8} {F L : List (List UInt8)} (h : LpInv R k g F L) (hk : ¬ k < R.length) : chkGo [] R = some g := by
  rw [h.chk, List.drop_eq_nil_of_le (by omega), chkGo]

theorem upTo_snocK {x n : Int} (h : x ≤ n) : upTo x n = upTo x (n - 1) ++ [n] := by
  unfold upTo
  rw [show (n + 1 - x).toNat = (n - 1 + 1 - x).toNat + 1 by omega, List.range_succ, List.map_append]
  congr 1
  simp; omega
theorem upTo_noneK {x y : Int} (h : y < x) : upTo x y = [] := by
  unfold upTo; rw [show (y + 1 - x).toNat = 0 by omega]; rfl
theorem upTo_lenK (x y : Int) : (upTo x y).length = (y + 1 - x).toNat := by simp [upTo]
/-- After k of the runs: acc the numbers so far. -/
theorem exp_step {R : List (List UInt8)} {k : Nat} {a b : List UInt8} {acc : List Int} (hk : k < R.length) (hr : readR (R.getD k []) = some (a, b)) :
    expGo acc (R.drop k) = if 500 ≤ (intSp b 0 1000000000).1 - (intSp a 0 1000000000).1 + acc.length then none else expGo (acc ++ upTo (intSp a 0 1000000000).1 (intSp b 0 1000000000).1) (R.drop (k + 1)) := by
  rw [drop_getD hk, expGo, hr]
theorem exp_done {R : List (List UInt8)} {k : Nat} {acc : List Int} (hk : ¬ k < R.length) : expGo acc (R.drop k) = some acc := by
  rw [List.drop_eq_nil_of_le (by omega), expGo]
end Go.Proofs.YtdcjnklagklckaaDoor
namespace Go.Proofs.YtdcjnklagklckaaDoor
open Go.RowKit
set_option linter.unusedVariables false

/-- One element is appended to a row of the call's own; its block is the one that it was, or a new one. -/
theorem wpList_append_one (w : World) {ops : Array Oper} {rest : List Oper} {o : Oper} {a : Act} {Q : Exit → Act → World → Prop} (hgd : o.guard = none) (s x : Operand) (t : TypeId)
    (ho : o.op = .call { callee := .builtin .append, args := #[s, x], argTypes := #[t, t] })
    (base : Nat) (e : TypeId) (i : TypeInfo) (z : Value) (bytes : Nat) (ht : Tryd.prog.underlying t = some (.slice e)) (hi : Tryd.prog.info? e = some i) (hz : i.zero = some z)
    (hsize : i.size = 1) (hby : i.bytes = bytes) (hzs : z.cells.size = 1)
    (v : Value) (n : Nat) (xs : List Value) (hs : a.eval s = v) (hown : w.ownsRow base e 1 v n xs)
    (ad : Addr) (c : Nat) (y : Value) (hx : a.eval x = .slice (some ad) 1 c) (hnews : w.cell? (ad.add 0) = some y) (h1 : y.oneCell' = true)
    (h63 : n + 1 ≤ maxLen) (hbytes : (n + 1) * bytes ≤ 140737488355328) (hbase : base ≤ w.heap.size)
    (h : ∀ v' w', w'.ownsRow base e 1 v' (n + 1) (xs ++ [y]) → w.grownBy w' v.ownBlock → (v'.ownBlock = v.ownBlock ∨ v'.ownBlock = some w.heap.size) → wpList Tryd.prog ops Q rest (a.put o.dst v') w') : wpList Tryd.prog ops Q (o :: rest) a w := by
  have hn1 : ∀ j u, [y][j]? = some u → w.cell? (ad.add j) = some u := fun j u hj => by
    cases j with
    | zero => simp at hj; subst hj; exact hnews
    | succ j => simp at hj
  have h11 : ∀ u ∈ [y], u.oneCell' = true := fun u hu => by rw [List.mem_singleton.1 hu]; exact h1
  obtain ⟨v', w', hr, h2, h3, _⟩ := run_append_own (P := Tryd.prog) w base t o.type e i z 1 bytes ht hi hz hsize hby hzs (by decide) v n xs hown ad 1 c [y] rfl hn1 h11 h63 hbytes hbase
  have hb : v'.ownBlock = v.ownBlock ∨ v'.ownBlock = some w.heap.size := by
    rcases hown.2 with ⟨rfl, rfl⟩ | ⟨g, cap, cur, rfl, hbg, hg, hnc, hcm, hcs, htake⟩
    · have hr2 := run_append_nil (P := Tryd.prog) w t o.type e i z ht hi hz ad 1 c [y] (by rw [hsize]; rfl) hn1 (by decide) (by decide) (by rw [hby]; omega)
      rw [hr] at hr2
      simp only [Result.ok.injEq] at hr2
      exact .inr (by rw [hr2.1]; rfl)
    · by_cases hroom : n + 1 ≤ cap
      · have hr2 := run_append_room (P := Tryd.prog) w t o.type e i ht hi g n cap cur hg ad 1 c [y] (by rw [hsize]; rfl) hn1 h11 hroom (by rw [hsize, hcs]; simp; omega)
        rw [hr] at hr2
        simp only [Result.ok.injEq] at hr2
        exact .inl (by rw [hr2.1]; rfl)
      · have holds : ∀ j u, xs[j]? = some u → w.cell? ((⟨g, 0, none⟩ : Addr).add j) = some u := hown.cells (g := g) rfl
        have hr2 := run_append_grow (P := Tryd.prog) w t o.type e i z ht hi hz ⟨g, 0, none⟩ n cap xs (by rw [hsize]; exact hown.1) holds ad 1 c [y] (by rw [hsize]; rfl) hn1 (by omega) (by unfold maxLen at h63; omega) (growslice_fits (by omega) (by rw [hby]; exact hbytes))
        rw [hr] at hr2
        simp only [Result.ok.injEq] at hr2
        exact .inr (by rw [hr2.1]; rfl)
  refine wpList_plain hgd fun K hK => ?_
  unfold Oper.wp execOp
  simp only [ho, resolve, invoke, builtin, Sem.run_bind, Sem.run_pure, Result.andThen_ok, List.map_toArray, List.map_cons, List.map_nil, hs, hx, hr]
  exact hK _ _ (h v' w' h2 h3 hb)

/-- Two slices that lie apart. -/
def Apart (v u : Value) : Prop := ∀ b, v.ownBlock = some b → u.ownBlock ≠ some b
theorem Apart.symm {v u : Value} (h : Apart v u) : Apart u v := fun b hu hv => h b hv hu
theorem Apart.or {v u : Value} (h : Apart v u) : u.ownBlock = none ∨ u.ownBlock ≠ v.ownBlock := by
  cases hu : u.ownBlock with
  | none => exact .inl rfl
  | some b => exact .inr (fun e => h b e.symm hu)
theorem Apart.nil (u : Value) : Apart (.slice none 0 0) u := fun b h => by cases h
def SR (W : World) (B : Nat) (v : Value) (ps : List (List UInt8)) : Prop := W.ownsRow B 9 1 v ps.length (scells ps)
theorem SR.later {W W' : World} {B : Nat} {v : Value} {ps : List (List UInt8)} (h : SR W B v ps) (hb : Below W.heap.size W W') : SR W' B v ps :=
  World.ownsRow.kept h (row := none) ⟨hb.os, hb.tape, hb.output, hb.size, fun k hk _ => hb.block k hk⟩ (Decidable.em _)
theorem SR.len {W : World} {B : Nat} {v : Value} {ps : List (List UInt8)} (h : SR W B v ps) : ∃ A c, v = .slice A ps.length c := by
  have h' : W.ownsRow B 9 1 v ps.length (scells ps) := h
  rcases h'.2 with ⟨rfl, h0⟩ | ⟨g, c, cur, rfl, _⟩
  · rw [h0]; exact ⟨_, _, rfl⟩
  · exact ⟨_, _, rfl⟩
theorem SSl.at {W : World} {v : Value} {ps : List (List UInt8)} {i n c : Nat} {A : Option Addr} (h : SSl W v ps) (hv : v = .slice A n c) (hi : i < ps.length) : ∃ g off, A = some ⟨g, off, none⟩ ∧ n = ps.length ∧ g < W.heap.size ∧ W.cell? ⟨g, off + i, none⟩ = some (.string ⟨(ps.getD i []).toArray⟩) := by
  rcases h with ⟨rfl, rfl⟩ | ⟨g, off, cap, rfl, h2, h3, h4⟩
  · simp at hi
  · simp only [Value.slice.injEq] at hv
    refine ⟨g, off, hv.1.symm, hv.2.1.symm, h2, ?_⟩
    rw [h4 i hi, List.getD_eq_getElem?_getD, List.getElem?_eq_getElem hi]; rfl
theorem SSl.len {W : World} {v : Value} {ps : List (List UInt8)} (h : SSl W v ps) : ∃ A c, v = .slice A ps.length c := by
  rcases h with ⟨rfl, rfl⟩ | ⟨g, off, cap, rfl, _⟩
  · exact ⟨_, _, rfl⟩
  · exact ⟨_, _, rfl⟩

/-- What the first loop keeps: the runs R behind B, the rows of the first and the last numbers. -/
structure LQ (w w1 : World) (Rv : Value) (R : List (List UInt8)) (k : Nat) (g : List UInt8) (F L : List (List UInt8)) (vf vl : Value) (W : World) : Prop where
  b0 : Below w.heap.size w w1
  bel : Below w1.heap.size w1 W
  runs : SSl w1 Rv R
  rf : SR W w1.heap.size vf F
  rl : SR W w1.heap.size vl L
  ap : Apart vf vl
  inv : LpInv R k g F L
section
variable {w w1 W W' W2 : World} {Rv vf vl v' : Value} {R F L : List (List UInt8)} {k : Nat} {g a b : List UInt8}
theorem LQ.step (q : LQ w w1 Rv R k g F L vf vl W) (hb : Below W.heap.size W W') : LQ w w1 Rv R k g F L vf vl W' :=
  ⟨q.b0, q.bel.trans (hb.mono q.bel.size), q.runs, q.rf.later hb, q.rl.later hb, q.ap, q.inv⟩
/-- Behind the first append: the row of the first numbers has grown. -/
structure LQf (w w1 : World) (Rv : Value) (R : List (List UInt8)) (k : Nat) (g : List UInt8) (F L : List (List UInt8)) (a : List UInt8) (vf vl : Value) (W : World) : Prop where
  b0 : Below w.heap.size w w1
  bel : Below w1.heap.size w1 W
  runs : SSl w1 Rv R
  rf : SR W w1.heap.size vf (F ++ [a])
  rl : SR W w1.heap.size vl L
  ap : Apart vf vl
  inv : LpInv R k g F L
theorem own_new {W : World} {B n : Nat} {e : TypeId} {v : Value} {xs : List Value} (h : W.ownsRow B e 1 v n xs) : v.ownBlock ≠ some W.heap.size := fun hh => by have := (World.ownsRow.lt h _ hh).2; omega
theorem LQ.first (q : LQ w w1 Rv R k g F L vf vl W) (o : Obj) (hn : W'.ownsRow w1.heap.size 9 1 v' (F.length + 1) (scells F ++ [.string ⟨a.toArray⟩])) (hg : (W.alloc o).grownBy W' vf.ownBlock)
    (hb : v'.ownBlock = vf.ownBlock ∨ v'.ownBlock = some (W.alloc o).heap.size) : LQf w w1 Rv R k g F L a v' vl W' := by
  have hba : Below W.heap.size W (W.alloc o) := (Below.refl _ _).alloc (Nat.le_refl _) o
  have qa := q.step hba
  refine ⟨q.b0, qa.bel.grown hg qa.bel.size (fun j e => (World.ownsRow.lt qa.rf j e).1), q.runs, ?_, World.ownsRow.kept qa.rl hg qa.ap.or, ?_, q.inv⟩
  · unfold SR; rw [scells_snoc, List.length_append]; exact hn
  · intro b h1 h2
    rcases hb with hb | hb
    · rw [hb] at h1; exact q.ap b h1 h2
    · rw [hb] at h1; cases h1; exact own_new qa.rl h2
theorem LQf.last (q : LQf w w1 Rv R k g F L a vf vl W) (o : Obj) (hn : W'.ownsRow w1.heap.size 9 1 v' (L.length + 1) (scells L ++ [.string ⟨b.toArray⟩])) (hg : (W.alloc o).grownBy W' vl.ownBlock)
    (hb : v'.ownBlock = vl.ownBlock ∨ v'.ownBlock = some (W.alloc o).heap.size) (hi : LpInv R (k + 1) b (F ++ [a]) (L ++ [b])) : LQ w w1 Rv R (k + 1) b (F ++ [a]) (L ++ [b]) vf v' W' := by
  have hba : Below W.heap.size W (W.alloc o) := (Below.refl _ _).alloc (Nat.le_refl _) o
  have ba := q.bel.trans (hba.mono q.bel.size)
  have rfa := q.rf.later hba
  have rla := q.rl.later hba
  refine ⟨q.b0, ba.grown hg ba.size (fun j e => (World.ownsRow.lt rla j e).1), q.runs, World.ownsRow.kept rfa hg q.ap.symm.or, ?_, ?_, hi⟩
  · unfold SR; rw [scells_snoc, List.length_append]; exact hn
  · intro c h1 h2
    rcases hb with hb | hb
    · rw [hb] at h2; exact q.ap c h1 h2
    · rw [hb] at h2; cases h2; exact own_new rfa h1
end
theorem rparts44 (s : ByteArray) (w : World) (hs : s.size ≤ 1048576) : Calls Tryd.prog 57 #[.string s, .int .u8 44] w (PartsPost 44 s.data.toList w) := rparts_any s 44 w hs
theorem rparts45 (s : ByteArray) (w : World) (hs : s.size ≤ 1048576) : Calls Tryd.prog 57 #[.string s, .int .u8 45] w (PartsPost 45 s.data.toList w) := rparts_any s 45 w hs
end Go.Proofs.YtdcjnklagklckaaDoor
namespace Go.Proofs.YtdcjnklagklckaaDoor
open Go.RowKit
set_option linter.unusedVariables false

theorem cut_cases (c : UInt8) (l : List UInt8) : (∃ a, cutAt c l = [a]) ∨ (∃ a b, cutAt c l = [a, b]) ∨ ∃ a b e q, cutAt c l = a :: b :: e :: q := by
  match h : cutAt c l with
  | [] => exact absurd h (cutAt_ne c l)
  | [a] => exact .inl ⟨a, rfl⟩
  | [a, b] => exact .inr (.inl ⟨a, b, rfl⟩)
  | a :: b :: e :: q => exact .inr (.inr ⟨a, b, e, q, rfl⟩)
/-- What the test of a run's form says. -/
def FormR (run : List UInt8) (bad : Bool) : Prop := (bad = true → readR run = none) ∧ (bad = false → ((cutAt 45 run).length = 1 ∨ (cutAt 45 run).length = 2) ∧ readR run = some ((cutAt 45 run).getD 0 [], (cutAt 45 run).getD ((cutAt 45 run).length - 1) []))
theorem form_many {run a b e : List UInt8} {q : List (List UInt8)} (h : cutAt 45 run = a :: b :: e :: q) : FormR run true := ⟨fun _ => readR_many h, fun h => by cases h⟩
theorem form_one {run a : List UInt8} {x : Bool} (h : cutAt 45 run = [a]) (hx : natB a = x) : FormR run (!x) := by
  have hr := readR_one h
  rw [hx] at hr
  cases x with
  | true => exact ⟨fun h => by simp at h, fun _ => by rw [h]; exact ⟨.inl rfl, hr⟩⟩
  | false => exact ⟨fun _ => hr, fun h => by simp at h⟩
theorem form_two {run a b : List UInt8} {x : Bool} (h : cutAt 45 run = [a, b]) (hx : (natB a && natB b && lessL a b) = x) : FormR run (!x) := by
  have hr := readR_two h
  rw [hx] at hr
  cases x with
  | true => exact ⟨fun h => by simp at h, fun _ => by rw [h]; exact ⟨.inr rfl, hr⟩⟩
  | false => exact ⟨fun _ => hr, fun h => by simp at h⟩
theorem decimal_is (s : ByteArray) (x : Bool) (w : World) (hs : s.size ≤ maxLen) (hd : ∀ c ∈ s.data.toList, c ≠ 45) (hx : natB s.data.toList = x) : Calls Tryd.prog 37 #[.string s] w fun e w' => e = .returned (.bool x) ∧ w' = w :=
  (decimal_any s w hs).mono fun e w' ⟨h1, h2⟩ => ⟨by rw [h1, intB_nodash hd, hx], h2.symm⟩
theorem less_is (a b : ByteArray) (x : Bool) (w : World) (ha : a.size ≤ maxLen) (hb : b.size ≤ maxLen) (hx : lessL a.data.toList b.data.toList = x) : Calls Tryd.prog 58 #[.string a, .string b] w fun e w' => e = .returned (.bool x) ∧ w' = w :=
  (rless_any a b w ha hb).mono fun e w' ⟨h1, h2⟩ => ⟨by rw [h1, hx], h2.symm⟩
theorem cells_of {W : World} {v : Value} {l : List (List UInt8)} {m : Nat} (h : SSl W v l) (hm : l.length = m) (h0 : 0 < m) : ∃ g off c, v = .slice (some ⟨g, off, none⟩) m c ∧ g < W.heap.size ∧ ∀ i, i < m → W.cell? ⟨g, off + i, none⟩ = some (.string ⟨(l.getD i []).toArray⟩) := by
  subst hm
  obtain ⟨A, c, rfl⟩ := h.len
  obtain ⟨g, off, rfl, _, hg, _⟩ := h.at rfl h0
  refine ⟨g, off, c, rfl, hg, fun i hi => ?_⟩
  obtain ⟨g2, off2, e, _, _, hc⟩ := h.at rfl hi
  cases e
  exact hc
theorem cutAt_getD (c : UInt8) (l : List UInt8) (i : Nat) : ((cutAt c l).getD i []).length ≤ l.length := by
  rw [List.getD_eq_getElem?_getD]
  cases h : (cutAt c l)[i]? with
  | none => simp
  | some p => exact cutAt_size c l p (List.mem_of_getElem? h)
theorem ba_len (l : List UInt8) : (⟨l.toArray⟩ : ByteArray).size = l.length := by show l.toArray.size = _; simp
theorem ba_dat (l : List UInt8) : (⟨l.toArray⟩ : ByteArray).data.toList = l := by simp
theorem decimal_q (a : List UInt8) (x : Bool) (w : World) (n : Nat) (hs : a.length ≤ 2000) (hd : ∀ c ∈ a, c ≠ 45) (hx : natB a = x) : Calls Tryd.prog 37 #[.string ⟨a.toArray⟩] (w.drewN n) fun e w' => e = .returned (.bool x) ∧ w' = w.drewN n :=
  decimal_is ⟨a.toArray⟩ x (w.drewN n) (by rw [ba_len]; unfold maxLen; omega) (by rw [ba_dat]; exact hd) (by rw [ba_dat]; exact hx)
theorem less_q (a b : List UInt8) (x : Bool) (w : World) (n : Nat) (ha : a.length ≤ 2000) (hb : b.length ≤ 2000) (hx : lessL a b = x) : Calls Tryd.prog 58 #[.string ⟨a.toArray⟩, .string ⟨b.toArray⟩] (w.drewN n) fun e w' => e = .returned (.bool x) ∧ w' = w.drewN n :=
  less_is ⟨a.toArray⟩ ⟨b.toArray⟩ x (w.drewN n) (by rw [ba_len]; unfold maxLen; omega) (by rw [ba_len]; unfold maxLen; omega) (by rw [ba_dat, ba_dat]; exact hx)
theorem succL_le (l : List UInt8) : (succL l).length ≤ l.length + 1 := by
  unfold succL
  split
  · simp
  · simp; omega
/-- What the test of the gap before a run says. -/
def GapR (k : Nat) (g a : List UInt8) (c : Bool) : Prop := (c = true → 0 < k ∧ lessL (succL g) a = false) ∧ (c = false → k = 0 ∨ lessL (succL g) a = true)
theorem over_lim {g : List UInt8} (h : natB g = true) : (lessL (Lib.itoa 1000000000) g = true → (intSp g 0 1000000000).2 = 7) ∧ (lessL (Lib.itoa 1000000000) g = false → (intSp g 0 1000000000).2 = 0) := by
  rw [itoa_nat _ (by omega), lessL_val (natB_dd _) h, dd_val, intSp_nat h, show (1000000000 : Int).toNat = 1000000000 from rfl]
  constructor
  · intro hh; have := of_decide_eq_true hh; rw [if_neg (by omega)]
  · intro hh; have := of_decide_eq_false hh; rw [if_pos (by omega)]
theorem less_o (a b : List UInt8) (x : Bool) (w : World) (ha : a.length ≤ 4000) (hb : b.length ≤ 4000) (hx : lessL a b = x) : Calls Tryd.prog 58 #[.string ⟨a.toArray⟩, .string ⟨b.toArray⟩] w fun e w' => e = .returned (.bool x) ∧ w' = w :=
  less_is ⟨a.toArray⟩ ⟨b.toArray⟩ x w (by rw [ba_len]; unfold maxLen; omega) (by rw [ba_len]; unfold maxLen; omega) (by rw [ba_dat, ba_dat]; exact hx)
theorem next_o (g : List UInt8) (w : World) (hg : g.length ≤ 2000) : Calls Tryd.prog 59 #[.string ⟨g.toArray⟩] w fun e w' => e = .returned (.string ⟨(succL g).toArray⟩) ∧ Below w.heap.size w w' := by
  have h := rnext_any ⟨g.toArray⟩ w (by rw [ba_len]; omega)
  rw [ba_dat] at h; exact h
theorem parse_all {l z : List UInt8} (h0 : l ≠ [45]) (h : chkGo [] (cutAt 44 l) = some z) (he : (intSp z 0 1000000000).2 = 0) : parseL l = match expGo [] (cutAt 44 l) with
      | none => ([], 3)
      | some ns => (ns, 0) := (parse_exp h0 h he).trans (exp_of h)
theorem itoa_lim : (Lib.itoa 1000000000).length ≤ 11 := by
  rw [itoa_nat _ (by omega)]
  rcases Nat.lt_or_ge 11 (Lib.decDigits (1000000000 : Int).toNat).length with h | h
  · have h2 := natB_ge (natB_dd (1000000000 : Int).toNat) (by omega)
    rw [dd_val] at h2
    have h3 : 10 ^ 11 ≤ 10 ^ ((Lib.decDigits (1000000000 : Int).toNat).length - 1) := Nat.pow_le_pow_right (by omega) (by omega)
    have h4 : (1000000000 : Int).toNat = 1000000000 := rfl
    have h5 : (10 : Nat) ^ 11 = 100000000000 := rfl
    omega
  · exact h
theorem less_e (a b : List UInt8) (x : Bool) (w : World) (ha : a.length ≤ 4000) (hb : b.length ≤ 4000) (hx : lessL a b = x) : Calls Tryd.prog 58 #[.string ⟨a.toArray⟩, .string ⟨b.toArray⟩] w fun e w' => e = .returned (.bool x) ∧ w = w' :=
  (less_o a b x w ha hb hx).mono fun _ _ ⟨h1, h2⟩ => ⟨h1, h2.symm⟩
theorem row_len {W : World} {B n : Nat} {e : TypeId} {v : Value} {xs : List Value} (h : W.ownsRow B e 1 v n xs) : ∃ A c, v = .slice A n c := by
  rcases h.2 with ⟨rfl, h0⟩ | ⟨g, c, cur, rfl, _⟩
  · rw [h0]; exact ⟨_, _, rfl⟩
  · exact ⟨_, _, rfl⟩
theorem rint_o (a : List UInt8) (x e1 : Int) (w : World) (ha : a.length ≤ 2000) (hx : intSp a 0 1000000000 = (x, e1)) : Calls Tryd.prog 14 #[.string ⟨a.toArray⟩, .int .i64 0, .int .i64 1000000000] w fun e w' => e = .returned (.tuple #[.int .i64 x, .int .i64 e1]) ∧ w = w' := by
  have h := rint_any ⟨a.toArray⟩ 0 1000000000 w (by rw [ba_len]; omega) (by omega) (by omega)
  rw [ba_dat, hx] at h; exact h
theorem decimal_h {a : List UInt8} {x : Bool} {w : World} {n : Nat} (h : Hid (natB a = x)) (hs : Hid (a.length ≤ 2000 ∧ ∀ c ∈ a, c ≠ 45)) : Calls Tryd.prog 37 #[.string ⟨a.toArray⟩] (w.drewN n) fun e w' => e = .returned (.bool x) ∧ w' = w.drewN n :=
  decimal_q a x w n hs.out.1 hs.out.2 h.out
/-- What the second loop keeps. -/
structure LE (w w3 : World) (R : List (List UInt8)) (k : Nat) (acc : List Int) (v : Value) (W : World) : Prop where
  b0 : Below w.heap.size w w3
  bel : Below w3.heap.size w3 W
  row : W.ownsRow w3.heap.size 3 1 v acc.length (icells acc)
  exp : expGo [] R = expGo acc (R.drop k)
/-- And within a round. -/
structure LI (w w3 : World) (acc : List Int) (x j : Int) (acc2 : List Int) (v : Value) (W : World) : Prop where
  b0 : Below w.heap.size w w3
  bel : Below w3.heap.size w3 W
  row : W.ownsRow w3.heap.size 3 1 v acc2.length (icells acc2)
  eq : acc2 = acc ++ upTo x (j - 1)
theorem LI.len {w w3 W : World} {acc acc2 : List Int} {x j : Int} {v : Value} (h : LI w w3 acc x j acc2 v W) (hj : x ≤ j) : (acc2.length : Int) = acc.length + (j - x) := by
  rw [h.eq, List.length_append, upTo_length]; omega
theorem LI.step {w w3 W W' : World} {acc acc2 : List Int} {x j : Int} {v v' : Value} (h : LI w w3 acc x j acc2 v W) (hj : x ≤ j) (o : Obj) (hn : W'.ownsRow w3.heap.size 3 1 v' (acc2.length + 1) (icells acc2 ++ [.int .i64 j])) (hg : (W.alloc o).grownBy W' v.ownBlock) : LI w w3 acc x (j + 1) (acc2 ++ [j]) v' W' := by
  have hba : Below W.heap.size W (W.alloc o) := (Below.refl _ _).alloc (Nat.le_refl _) o
  have ba := h.bel.trans (hba.mono h.bel.size)
  refine ⟨h.b0, ba.grown hg ba.size (fun j e => (World.ownsRow.lt h.row j e).1), ?_, ?_⟩
  · rw [icells_snoc, List.length_append]; exact hn
  · rw [h.eq, Int.add_sub_cancel, upTo_snoc x j hj, List.append_assoc]
theorem LI.done {w w3 W : World} {acc acc2 : List Int} {x y j : Int} {v : Value} {R : List (List UInt8)} {k : Nat} (h : LI w w3 acc x j acc2 v W) (hj : x ≤ j) (hy : ¬ j ≤ y) (hb : j = x ∨ j ≤ y + 1) (h5 : acc2.length ≤ 500) (ha : acc.length ≤ 500)
    (hs : expGo [] R = if 500 ≤ y - x + acc.length then none else expGo (acc ++ upTo x y) (R.drop (k + 1))) : LE w w3 R (k + 1) acc2 v W := by
  have hl := h.len hj
  refine ⟨h.b0, h.bel, h.row, ?_⟩
  rw [hs, if_neg (by omega), h.eq]
  congr 2
  rcases hb with hb | hb
  · by_cases hyx : y < x
    · rw [upTo_none x y hyx, upTo_none x (j - 1) (by omega)]
    · have : j - 1 = y := by omega
      rw [this]
  · by_cases hyx : y < x
    · rw [upTo_none x y hyx, upTo_none x (j - 1) (by omega)]
    · have : j - 1 = y := by omega
      rw [this]
end Go.Proofs.YtdcjnklagklckaaDoor
namespace Go.Proofs.YtdcjnklagklckaaDoor
open Go.RowKit
set_option linter.unusedVariables false

set_option maxRecDepth 20000 in
set_option maxHeartbeats 20000000 in
theorem rparseList_any (s : ByteArray) (w : World) (hs : s.size ≤ 2000) :
    Calls Tryd.prog 33 #[.string s] w (ParsePost s.data.toList w) := by
  obtain ⟨i0, hi, hz0, hz1, hz2⟩ := info_parts info_str
  by_cases hd : s = ⟨#[45]⟩
  · subst hd
    go_enter Tryd.func33, Tryd.ntmps33
    go_wp2_with fail
    refine bodyPost_ret (v := .tuple #[.slice none 0 0, .int .i64 0]) (by simp [results, Tryd.f33, go_sem]) rfl ?_
    show ParsePost [45] w _ w
    exact ⟨_, by rw [parse_dash], by rw [parse_dash]; exact .inl ⟨rfl, rfl⟩, Below.refl _ _⟩
  · have hl : s.data.toList ≠ [45] := fun h => hd (by apply WideShapes.bytes_inj; simpa using h)
    have hdash : (s.toList == [45]) = false := by rw [ByteArray.toList_eq]; simpa using hl
    obtain ⟨R, hR⟩ : ∃ R, cutAt 44 s.data.toList = R := ⟨_, rfl⟩
    obtain ⟨n, hn⟩ : ∃ n, R.length = n := ⟨_, rfl⟩
    have hn0 : 0 < n := by rw [← hn, ← hR]; exact List.length_pos_iff.2 (cutAt_ne _ _)
    have hn1 : n ≤ 2001 := by rw [← hn, ← hR]; have := cutAt_count 44 s.data.toList; rw [len_data] at this; omega
    have HRZ : Hid (∀ i, (R.getD i []).length ≤ 2000) := Lib.hid (fun i => by
      rw [← hR]; exact Nat.le_trans (cutAt_getD 44 s.data.toList i) (by rw [len_data]; exact hs))
    have HN := Lib.hid (fun h => parse_form hl (by rw [hR]; exact h))
    have HI := Lib.hid (fun z h => parse_int (z := z) hl (by rw [hR]; exact h))
    have HX := Lib.hid (fun z h h0 => hR ▸ parse_all (z := z) hl (by rw [hR]; exact h) h0)
    have HRN := Lib.hid hn
    clear hl hd hn
    go_enter Tryd.func33, Tryd.ntmps33
    go_wp2_with (go_at_call 57; refine (rparts44 s _ (by omega)).mono ?_; rintro e w1 ⟨v, rfl, hv, hb⟩; rw [hR] at hv; obtain ⟨gr, offr, cr, rfl, hgr, hcr⟩ := cells_of hv HRN.out hn0; have HV := Lib.hid hv; have HB := Lib.hid hb; have HGR := Lib.hid hgr; have HCR := Lib.hid hcr; clear hv hb hgr hcr hR)
    go_loopw [4, 5, 6, 8] (fun gv vf vl i W => ∃ (k : Nat) (g : List UInt8) (F L : List (List UInt8)), k ≤ n ∧ i = .int .i64 k ∧ gv = .string ⟨g.toArray⟩ ∧ g.length ≤ 2000 ∧ F.length = k ∧ L.length = k ∧ Hid (LQ w w1 (.slice (some ⟨gr, offr, none⟩) n cr) R k g F L vf vl W)) (fun _ _ _ i _ => n - (intOf i).toNat)
    case atStart => exact ⟨0, [], [], [], Nat.zero_le _, rfl, rfl, Nat.zero_le _, rfl, rfl, Lib.hid ⟨HB.out, Below.refl _ _, HV.out, World.ownsRow_nil _ _ _ _, World.ownsRow_nil _ _ _ _, Apart.nil _, LpInv.start R⟩⟩
    case round =>
      obtain ⟨k, g, F, L, hk, rfl, rfl, hg, hfl, hll, HQ⟩ := hrel
      clear HB HV
      by_cases hlt : k < n
      case neg =>
        obtain rfl : n = k := by omega
        have hdone := HQ.out.inv.done (by rw [HRN.out]; exact hlt)
        have hnat := HQ.out.inv.nat hn0
        obtain ⟨o1, o2⟩ := over_lim hnat
        obtain ⟨x, hx⟩ : ∃ T, lessL (Lib.itoa 1000000000) g = T := ⟨_, rfl⟩
        have HXX := Lib.hid hx
        rw [hx] at o1 o2
        clear hx hnat hlt
        cases x with
        | true =>
          have hh := HI.out g hdone (by rw [o1 rfl]; decide)
          rw [o1 rfl] at hh
          have HH := Lib.hid hh
          clear hh o1 o2 hdone
          go_wp2_with (first
            | (go_at_call 18; refine (rdigits_any 1000000000 _ (by omega) (by omega)).mono ?_; rintro e w3 ⟨rfl, hb⟩; have HQ3 := Lib.hid (HQ.out.step hb); clear hb)
            | (go_at_call 58; refine (less_e _ g true _ (Nat.le_trans itoa_lim (by omega)) (by omega) HXX.out).mono ?_; rintro e w4 ⟨rfl, rfl⟩))
          refine bodyPost_ret (v := .tuple #[.slice none 0 0, .int .i64 7]) (by simp [results, Tryd.f33, go_sem]) rfl ?_
          exact ⟨_, by rw [HH.out], by rw [HH.out]; exact .inl ⟨rfl, rfl⟩, bl_call HQ3.out.b0 HQ3.out.bel⟩
        | false =>
          have HFIN := Lib.hid (HX.out g hdone (o2 rfl))
          clear o1 o2 hdone
          go_wp2_with (first
            | (go_at_call 18; refine (rdigits_any 1000000000 _ (by omega) (by omega)).mono ?_; rintro e w3 ⟨rfl, hb⟩; have HQ3 := Lib.hid (HQ.out.step hb); clear hb HQ; obtain ⟨gf, offf, cf, rfl, hgf, hcf⟩ := cells_of (SSl_of_row HQ3.out.rf) hfl hn0; obtain ⟨gl, offl, cl, rfl, hgl, hcl⟩ := cells_of (SSl_of_row HQ3.out.rl) hll hn0; have HGF := Lib.hid hgf; have HGL := Lib.hid hgl; have HCF := Lib.hid hcf; have HCL := Lib.hid hcl; have HRD := Lib.hid HQ3.out.inv.rd; have HB3 := Lib.hid (bl_call HQ3.out.b0 HQ3.out.bel); clear hgf hgl hcf hcl HQ3)
            | (go_at_call 58; refine (less_e _ g false _ (Nat.le_trans itoa_lim (by omega)) (by omega) HXX.out).mono ?_; rintro e w4 ⟨rfl, rfl⟩))
          clear HXX HI HN HX HCR HGR hg hdash hs hi hz0 hz1 hz2 i0
          obtain ⟨ii, ji, yz0, yz1, yz2⟩ := info_parts info_int
          go_loopw [10, 11] (fun ov i W => ∃ (V : Value) (k : Nat) (acc : List Int), V = ov ∧ k ≤ n ∧ i = .int .i64 k ∧ acc.length ≤ 500 ∧ Hid (LE w w3 R k acc V W)) (fun _ i _ => n - (intOf i).toNat)
          case atStart => exact ⟨_, 0, [], rfl, Nat.zero_le _, rfl, Nat.zero_le _, Lib.hid ⟨HB3.out, Below.refl _ _, World.ownsRow_nil _ _ _ _, rfl⟩⟩
          case round =>
            obtain ⟨V, k, acc, rfl, hk, rfl, hacc, HL⟩ := hrel
            obtain ⟨A, c, rfl⟩ := row_len HL.out.row
            by_cases hlt2 : k < n
            case neg =>
              obtain rfl : n = k := by omega
              have he : expGo [] R = some acc := by rw [HL.out.exp]; exact exp_done (by rw [HRN.out]; exact hlt2)
              have hp := HFIN.out
              rw [he] at hp
              have HP := Lib.hid hp
              clear hp he
              go_wp2_with fail
              refine bodyPost_ret (v := .tuple #[.slice A acc.length c, .int .i64 0]) (by simp [results, Tryd.f33, go_sem]) rfl ?_
              exact ⟨_, by rw [HP.out], by rw [HP.out]; exact ISl_of_row HL.out.row, bl_call HL.out.b0 HL.out.bel⟩
            case pos =>
              have hcf := ((bcell HL.out.bel).1 gf (offf + k) HGF.out).trans (HCF.out k hlt2)
              have hcl := ((bcell HL.out.bel).1 gl (offl + k) HGL.out).trans (HCL.out k hlt2)
              have hrd := HRD.out k hlt2
              obtain ⟨a, ha⟩ : ∃ T, F.getD k [] = T := ⟨_, rfl⟩
              obtain ⟨b, hb⟩ : ∃ T, L.getD k [] = T := ⟨_, rfl⟩
              rw [ha] at hcf hrd
              rw [hb] at hcl hrd
              have za : a.length ≤ 2000 := Nat.le_trans (readR_len hrd).1 (HRZ.out k)
              have zb : b.length ≤ 2000 := Nat.le_trans (readR_len hrd).2 (HRZ.out k)
              obtain ⟨xe, hxe⟩ : ∃ T, intSp a 0 1000000000 = T := ⟨_, rfl⟩
              obtain ⟨ye, hye⟩ : ∃ T, intSp b 0 1000000000 = T := ⟨_, rfl⟩
              obtain ⟨x, xe⟩ := xe
              obtain ⟨y, ye⟩ := ye
              have hx0 := intSp_bd a
              have hy0 := intSp_bd b
              have hst := HL.out.exp.trans (exp_step (acc := acc) (by rw [HRN.out]; exact hlt2) hrd)
              rw [hxe] at hx0; rw [hye] at hy0; rw [hxe, hye] at hst
              simp only at hx0 hy0 hst
              have HST := Lib.hid hst
              have HXE := Lib.hid hxe; have HYE := Lib.hid hye
              clear ha hb hrd hxe hye hst
              go_wp2_with (first
                | (go_at_call 14; refine (rint_o a x xe _ za HXE.out).mono ?_; rintro e w5 ⟨rfl, rfl⟩; clear HXE)
                | (go_at_call 14; refine (rint_o b y ye _ zb HYE.out).mono ?_; rintro e w6 ⟨rfl, rfl⟩))
              go_loopw [10, 16] (fun ov jj W => ∃ (V : Value) (j : Int) (acc2 : List Int), V = ov ∧ jj = .int .i64 j ∧ x ≤ j ∧ (j = x ∨ j ≤ y + 1) ∧ acc2.length ≤ 500 ∧ Hid (LI w w3 acc x j acc2 V W)) (fun _ jj _ => (y + 1 - intOf jj).toNat)
              case atStart => exact ⟨_, x, acc, rfl, rfl, by omega, .inl rfl, hacc, Lib.hid ⟨HL.out.b0, HL.out.bel, HL.out.row, by rw [upTo_none x (x - 1) (by omega)]; simp⟩⟩
              case round =>
                clear hcf hcl HL
                obtain ⟨V, j, acc2, rfl, rfl, hxj, hjy1, hacc2, HI2⟩ := hrel
                obtain ⟨A2, c2, rfl⟩ := row_len HI2.out.row
                by_cases hjy : j ≤ y
                case neg =>
                  have HL2 := Lib.hid (HI2.out.done hxj hjy hjy1 hacc2 hacc HST.out)
                  go_wp2_with fail
                  go_roundw
                  case rel => exact ⟨_, k + 1, acc2, rfl, by omega, by go_num, hacc2, HL2⟩
                  case measure => simp [intOf]; omega
                case pos =>
                  by_cases h5 : acc2.length = 500
                  · have he : expGo [] R = none := by rw [HST.out, if_pos (by have := HI2.out.len hxj; omega)]
                    have hp := HFIN.out
                    rw [he] at hp
                    have HP := Lib.hid hp
                    have hq : ((acc2.length : Int) == 500) = true := by simp; omega
                    clear hp he
                    go_wp2_with fail
                    refine bodyPost_ret (v := .tuple #[.slice none 0 0, .int .i64 3]) (by simp [results, Tryd.f33, go_sem]) rfl ?_
                    exact ⟨_, by rw [HP.out], by rw [HP.out]; exact .inl ⟨rfl, rfl⟩, bl_call HI2.out.b0 HI2.out.bel⟩
                  · have hq : ((acc2.length : Int) == 500) = false := beq_eq_false_iff_ne.2 (by omega)
                    have hw3 : w3.heap.size ≤ wr.heap.size := HI2.out.bel.size
                    go_wp2_with (at_builtin; refine wpList_append_own _ rfl _ _ 40 rfl w3.heap.size 3 ii (.int .i64 0) 1 8 Tryd.underlying40 ji yz0 yz1 yz2 rfl (by decide) _ _ _ rfl (World.ownsRow.alloc HI2.out.row _) ⟨_, 0, none⟩ 1 1 [.int .i64 j] rfl rfl (cells_new _ _ [_]) (by simp [Value.oneCell']) (by unfold maxLen; omega) (by omega) (by simp; omega) ?_; intro v' w7 hown hgrow _; have HI3 := Lib.hid (HI2.out.step hxj _ hown hgrow); clear hown hgrow HI2)
                    go_roundw
                    case rel => exact ⟨_, j + 1, acc2 ++ [j], rfl, by go_num, by omega, .inr (by omega), by simp; omega, HI3⟩
                    case measure => simp [intOf]; omega
      case pos =>
        have hcell := ((bcell HQ.out.bel).1 gr (offr + k) HGR.out).trans (HCR.out k hlt)
        obtain ⟨run, hrun⟩ : ∃ T, R.getD k [] = T := ⟨_, rfl⟩
        have hrz : run.length ≤ 2000 := by rw [← hrun]; exact HRZ.out k
        rw [hrun] at hcell
        have HRUN := Lib.hid hrun; clear hrun
        obtain ⟨E, hE⟩ : ∃ T, cutAt 45 run = T := ⟨_, rfl⟩
        obtain ⟨m, hm⟩ : ∃ m, E.length = m := ⟨_, rfl⟩
        have hm0 : 0 < m := by rw [← hm, ← hE]; exact List.length_pos_iff.2 (cutAt_ne _ _)
        have hm1 : m ≤ 2001 := by rw [← hm, ← hE]; have := cutAt_count 45 run; omega
        have HEZ : Hid (∀ i, (E.getD i []).length ≤ 2000) := Lib.hid (fun i => by rw [← hE]; exact Nat.le_trans (cutAt_getD 45 run i) hrz)
        have HE := Lib.hid hE; have HM := Lib.hid hm
        have HPT : Hid (∀ W, Calls Tryd.prog 57 #[.string ⟨run.toArray⟩, .int .u8 45] W fun e w' => ∃ ge offe ce, e = .returned (.slice (some ⟨ge, offe, none⟩) m ce) ∧ ge < w'.heap.size ∧ (∀ i, i < m → w'.cell? ⟨ge, offe + i, none⟩ = some (.string ⟨(E.getD i []).toArray⟩)) ∧ Below W.heap.size W w') := Lib.hid (fun W => by
          refine (rparts45 ⟨run.toArray⟩ W (by rw [ba_len]; omega)).mono ?_
          rintro e w' ⟨v, rfl, hv, hb⟩
          rw [ba_dat, hE] at hv
          obtain ⟨ge, offe, ce, rfl, hge, hce⟩ := cells_of hv hm hm0
          exact ⟨ge, offe, ce, rfl, hge, hce, hb⟩)
        clear hE hm
        go_upto_region 10 with (go_at_call 57; refine (HPT.out _).mono ?_; rintro e w2 ⟨ge, offe, ce, rfl, hge, hce, hb⟩; have HQ2 := Lib.hid (HQ.out.step hb); have HCE := Lib.hid hce; have HGE := Lib.hid hge; clear hb hge hce hcell HPT)
        clear HQ
        go_cut [63] (fun s63 wc => ∃ b, s63 = .bool b ∧ Hid (FormR run b) ∧ Hid (Below w2.heap.size w2 wc))
        case first => as_aux_lemma =>
          rcases cut_cases 45 run with ⟨a, h⟩ | ⟨a, b, h⟩ | ⟨a, b, e, q, h⟩
          · have HF := Lib.hid (form_one h rfl)
            rw [HE.out] at h; subst h
            have e1 : m = 1 := HM.out.symm
            have c0 := HCE.out 0 hm0
            have h3 : decide ((2 : Int) < (m : Int)) = false := decide_eq_false (by omega)
            have h2 : ((m : Int) == 2) = false := beq_eq_false_iff_ne.2 (by omega)
            have h0 : (0 : Int) < (m : Int) := by omega
            clear e1
            have za := HEZ.out 0
            have na := cut_no 45 run a (by rw [HE.out]; simp)
            simp only [List.getD_cons_zero, Nat.add_zero] at c0 za
            have HNA : Hid (a.length ≤ 2000 ∧ ∀ c ∈ a, c ≠ 45) := Lib.hid ⟨za, na⟩
            clear HM HE HCE HEZ na
            obtain ⟨x, hx⟩ : ∃ x, natB a = x := ⟨_, rfl⟩
            rw [hx] at HF
            have HXX := Lib.hid hx; clear hx
            cases x with
            | true =>
              go_quiet ((go_at_call 37; refine Calls.quiet_of_same (decimal_h (by assumption) (by assumption))))
              go_wp2_with fail
              go_meet
              exact ⟨_, rfl, HF, Lib.hid (bl_drewN _ (Below.refl _ _))⟩
            | false =>
              go_quiet ((go_at_call 37; refine Calls.quiet_of_same (decimal_h (by assumption) (by assumption))))
              go_wp2_with fail
              go_meet
              exact ⟨_, rfl, HF, Lib.hid (bl_drewN _ (Below.refl _ _))⟩
          · have HF := Lib.hid (form_two h rfl)
            rw [HE.out] at h; subst h
            have e1 : m = 2 := HM.out.symm
            have c0 := HCE.out 0 hm0
            have c1 := HCE.out 1 (by omega)
            have h3 : decide ((2 : Int) < (m : Int)) = false := decide_eq_false (by omega)
            have h2 : ((m : Int) == 2) = true := by simp; omega
            have h0 : (0 : Int) < (m : Int) := by omega
            have h1 : (1 : Int) < (m : Int) := by omega
            clear e1
            have za := HEZ.out 0
            have zb := HEZ.out 1
            simp only [List.getD_cons_zero, List.getD_cons_succ, Nat.add_zero] at c0 c1 za zb
            have HNA : Hid (a.length ≤ 2000 ∧ ∀ c ∈ a, c ≠ 45) := Lib.hid ⟨za, cut_no 45 run a (by rw [HE.out]; simp)⟩
            have HNB : Hid (b.length ≤ 2000 ∧ ∀ c ∈ b, c ≠ 45) := Lib.hid ⟨zb, cut_no 45 run b (by rw [HE.out]; simp)⟩
            clear HM HE HCE HEZ
            obtain ⟨x, hx⟩ : ∃ x, natB a = x := ⟨_, rfl⟩
            obtain ⟨y, hy⟩ : ∃ x, natB b = x := ⟨_, rfl⟩
            obtain ⟨z, hz⟩ : ∃ x, lessL a b = x := ⟨_, rfl⟩
            rw [hx, hy, hz] at HF
            have HXX := Lib.hid hx; have HYY := Lib.hid hy; have HZZ := Lib.hid hz; clear hx hy hz
            cases x
            · go_quiet ((go_at_call 37; refine Calls.quiet_of_same (decimal_h (by assumption) (by assumption))))
              go_wp2_with fail
              go_meet
              exact ⟨_, rfl, HF, Lib.hid (bl_drewN _ (Below.refl _ _))⟩
            · cases y
              · go_quiet (first
                  | (go_at_call 37; refine Calls.quiet_of_same (decimal_h (by assumption) (by assumption))))
                go_wp2_with fail
                go_meet
                exact ⟨_, rfl, HF, Lib.hid (bl_drewN _ (Below.refl _ _))⟩
              · cases z
                · go_quiet (first
                    | (go_at_call 37; refine Calls.quiet_of_same (decimal_h (by assumption) (by assumption)))
                    | (go_at_call 58; refine Calls.quiet_of_same (less_q a b false _ _ za zb HZZ.out)))
                  go_wp2_with fail
                  go_meet
                  exact ⟨_, rfl, HF, Lib.hid (bl_drewN _ (Below.refl _ _))⟩
                · go_quiet (first
                    | (go_at_call 37; refine Calls.quiet_of_same (decimal_h (by assumption) (by assumption)))
                    | (go_at_call 58; refine Calls.quiet_of_same (less_q a b true _ _ za zb HZZ.out)))
                  go_wp2_with fail
                  go_meet
                  exact ⟨_, rfl, HF, Lib.hid (bl_drewN _ (Below.refl _ _))⟩
          · have HF := Lib.hid (form_many h)
            rw [HE.out] at h; subst h
            have e3 : 3 ≤ m := by rw [← HM.out]; simp
            have h3 : decide ((2 : Int) < (m : Int)) = true := decide_eq_true (by omega)
            clear HM HE HCE HEZ
            go_quiet (fail)
            go_wp2_with fail
            go_meet
            exact ⟨_, rfl, HF, Lib.hid (bl_drewN _ (Below.refl _ _))⟩
        case rest =>
          obtain ⟨b, rfl, HF, HB2⟩ := hcut
          have HQ3 := Lib.hid (HQ2.out.step HB2.out)
          have HCE3 := Lib.hid (fun i hi => ((bcell HB2.out).1 ge (offe + i) HGE.out).trans (HCE.out i hi))
          have HGE3 : Hid (ge < wc.heap.size) := Lib.hid (Nat.lt_of_lt_of_le HGE.out HB2.out.size)
          clear HQ2 HCE HB2 HGE
          cases b with
          | true =>
            go_wp2_with fail
            refine bodyPost_ret (v := .tuple #[.slice none 0 0, .int .i64 6]) (by simp [results, Tryd.f33, go_sem]) rfl ?_
            have hno := HQ3.out.inv.none (by rw [HRN.out]; exact hlt) (by rw [HRUN.out]; exact HF.out.1 rfl)
            exact ⟨_, by rw [HN.out hno], by rw [HN.out hno]; exact .inl ⟨rfl, rfl⟩, bl_call HQ3.out.b0 HQ3.out.bel⟩
          | false =>
            obtain ⟨a, ha⟩ : ∃ T, E.getD 0 [] = T := ⟨_, rfl⟩
            obtain ⟨b, hb⟩ : ∃ T, E.getD (m - 1) [] = T := ⟨_, rfl⟩
            have za := HEZ.out 0
            have zb := HEZ.out (m - 1)
            rw [ha] at za; rw [hb] at zb
            have HRD : Hid (readR (R.getD k []) = some (a, b)) := Lib.hid (by rw [HRUN.out, (HF.out.2 rfl).2, HE.out, HM.out, ha, hb])
            have hm2 : m = 1 ∨ m = 2 := by have := (HF.out.2 rfl).1; rw [HE.out, HM.out] at this; exact this
            have c0 := HCE3.out 0 hm0
            have c1 := HCE3.out (m - 1) (by omega)
            rw [ha] at c0; rw [hb] at c1
            have HC0 := Lib.hid c0; have HC1 := Lib.hid c1
            clear HF HCE3 HEZ ha hb HE HM HRUN c0 c1
            go_upto_region 12 with fail
            go_cut [74] (fun s74 wd => ∃ c, s74 = .bool c ∧ Hid (GapR k g a c) ∧ Hid (Below wc.heap.size wc wd))
            case first => as_aux_lemma =>
              by_cases hk0 : k = 0
              · have h0 : decide ((0 : Int) < (k : Int)) = false := decide_eq_false (by omega)
                go_quiet (fail)
                go_wp2_with fail
                go_meet
                exact ⟨_, rfl, Lib.hid ⟨(fun h => by cases h), (fun _ => .inl hk0)⟩, Lib.hid (bl_drewN _ (Below.refl _ _))⟩
              have h0 : decide ((0 : Int) < (k : Int)) = true := decide_eq_true (by omega)
              have c0d : wc.drew.cell? ⟨ge, offe, none⟩ = some (.string ⟨a.toArray⟩) := HC0.out
              obtain ⟨x, hx⟩ : ∃ T, lessL (succL g) a = T := ⟨_, rfl⟩
              have HXX := Lib.hid hx
              have HG : Hid (GapR k g a (!x)) := Lib.hid (by
                cases x
                · exact ⟨fun _ => ⟨by omega, hx⟩, fun h => by cases h⟩
                · exact ⟨(fun h => by cases h), fun _ => .inr hx⟩)
              clear hx
              refine wp_region_held_drew (S := fun w' => Below wc.drew.heap.size wc.drew w') (by kernel_rfl) (Below.refl _ _) (fun hHeld => ?_)
              refine wpAnyH_take (i := 0) (oi := { dst := some 64, op := _, type := _, pos := _, after := _, guard := _ }) (v := ?v64x1) rfl (by kernel_rfl) (by kernel_rfl) (by kernel_rfl) (fun _ _ _ h => h) (Or.inl ⟨by rfl, ?y64x1⟩) (by assumption) ?r64x1
              case y64x1 => intro w9 hSw; go_simp <;> with_reducible rfl
              (try simp only [Act.put, List.setIfInBounds_toArray, List.set_cons_zero, List.set_cons_succ])
              refine wpAnyH_take (i := 1) (oi := { dst := some 65, op := _, type := _, pos := _, after := _, guard := _ }) (v := .bool true) rfl (by kernel_rfl) (by kernel_rfl) (by kernel_rfl) (fun _ _ _ h => h) (Or.inl ⟨by rfl, ?y65x2⟩) (by assumption) ?r65x2
              case y65x2 => intro w9 hSw; go_simp; (first | done | omega)
              (try simp only [Act.put, List.setIfInBounds_toArray, List.set_cons_zero, List.set_cons_succ])
              refine wpAnyH_take (i := 2) (oi := { dst := some 66, op := _, type := _, pos := _, after := _, guard := _ }) (v := ?v66x3) rfl (by kernel_rfl) (by kernel_rfl) (by kernel_rfl) (fun _ _ _ h => h) (Or.inl ⟨by rfl, ?y66x3⟩) (by assumption) ?r66x3
              case y66x3 => intro w9 hSw; go_simp <;> with_reducible rfl
              (try simp only [Act.put, List.setIfInBounds_toArray, List.set_cons_zero, List.set_cons_succ])
              refine wpAnyH_take (i := 3) (oi := { dst := some 67, op := _, type := _, pos := _, after := _, guard := _ }) (v := ?v67x4) rfl (by kernel_rfl) (by kernel_rfl) (by kernel_rfl) (fun _ _ _ h => h) (Or.inl ⟨by rfl, ?y67x4⟩) (by assumption) ?r67x4
              case y67x4 => intro w9 hSw; go_simp <;> with_reducible rfl
              (try simp only [Act.put, List.setIfInBounds_toArray, List.set_cons_zero, List.set_cons_succ])
              refine wpAnyH_take (i := 5) (oi := { dst := some 69, op := _, type := _, pos := _, after := _, guard := _ }) (v := ?v69x5) rfl (by kernel_rfl) (by kernel_rfl) (by kernel_rfl) (fun _ _ _ h => h) (Or.inl ⟨by rfl, ?y69x5⟩) (by assumption) ?r69x5
              case y69x5 => intro w9 hSw; go_simp <;> with_reducible rfl
              (try simp only [Act.put, List.setIfInBounds_toArray, List.set_cons_zero, List.set_cons_succ])
              refine wpAnyH_take (i := 6) (oi := { dst := some 70, op := _, type := _, pos := _, after := _, guard := _ }) (v := ?v70x6) rfl (by kernel_rfl) (by kernel_rfl) (by kernel_rfl) (fun _ _ _ h => h) (Or.inl ⟨by rfl, ?y70x6⟩) (by assumption) ?r70x6
              case y70x6 => intro w9 hSw; go_simp <;> with_reducible rfl
              (try simp only [Act.put, List.setIfInBounds_toArray, List.set_cons_zero, List.set_cons_succ])
              refine wpAnyH_take (i := 7) (oi := { dst := some 71, op := _, type := _, pos := _, after := _, guard := _ }) (v := ?v71x7) rfl (by kernel_rfl) (by kernel_rfl) (by kernel_rfl) (fun _ _ _ h => h) (Or.inl ⟨by rfl, ?y71x7⟩) (by assumption) ?r71x7
              case y71x7 => intro w9 hSw; have c9 := ((bcell hSw).1 ge offe HGE3.out).trans c0d; go_simp <;> with_reducible rfl
              (try simp only [Act.put, List.setIfInBounds_toArray, List.set_cons_zero, List.set_cons_succ])
              refine wpAnyH_ready (rs := [4]) (by kernel_rfl) (by simp) (AllReadyH.cons (o := { dst := some 68, op := _, type := _, pos := _, after := _, guard := _ }) rfl (fun K hK => ?_) AllReadyH.nil)
              go_simp
              go_at_call 59
              refine (next_o g _ hg).mono ?_
              rintro e wa ⟨rfl, hb⟩
              have HBa := Lib.hid hb; clear hb
              refine hK.out _ _ HBa.out (fun hHn => ?_)
              clear hK K
              (try simp only [Act.put, List.setIfInBounds_toArray, List.set_cons_zero, List.set_cons_succ])
              refine wpAnyH_ready (rs := [8]) (by kernel_rfl) (by simp) (AllReadyH.cons (o := { dst := some 72, op := _, type := _, pos := _, after := _, guard := _ }) rfl (fun K hK => ?_) AllReadyH.nil)
              go_simp
              go_at_call 58
              refine (less_o (succL g) a x _ (Nat.le_trans (succL_le g) (by omega)) (by omega) HXX.out).mono ?_
              rintro e wb ⟨rfl, rfl⟩
              refine hK.out _ _ HBa.out (fun hHl => ?_)
              clear hK K
              (try simp only [Act.put, List.setIfInBounds_toArray, List.set_cons_zero, List.set_cons_succ])
              refine wpAnyH_take (i := 9) (oi := { dst := some 73, op := _, type := _, pos := _, after := _, guard := _ }) (v := ?v73x8) rfl (by kernel_rfl) (by kernel_rfl) (by kernel_rfl) (fun _ _ _ h => h) (Or.inl ⟨by rfl, ?y73x8⟩) (by assumption) ?r73x8
              case y73x8 => intro w9 hSw; go_simp <;> with_reducible rfl
              (try simp only [Act.put, List.setIfInBounds_toArray, List.set_cons_zero, List.set_cons_succ])
              refine wpAnyH_take (i := 10) (oi := { dst := some 74, op := _, type := _, pos := _, after := _, guard := _ }) (v := ?v74x9) rfl (by kernel_rfl) (by kernel_rfl) (by kernel_rfl) (fun _ _ _ h => h) (Or.inl ⟨by rfl, ?y74x9⟩) (by assumption) ?r74x9
              case y74x9 => intro w9 hSw; go_simp <;> with_reducible rfl
              (try simp only [Act.put, List.setIfInBounds_toArray, List.set_cons_zero, List.set_cons_succ])
              refine wpAnyH_done (by kernel_rfl) ?_ _
              go_wp2_with fail
              go_meet
              exact ⟨_, rfl, HG, Lib.hid (bl_call (bl_drewN 1 (Below.refl _ _)) HBa.out)⟩
            case rest =>
              obtain ⟨c, rfl, HG, HB3⟩ := hcut
              have HQ4 := Lib.hid (HQ3.out.step HB3.out)
              have hc0 := ((bcell HB3.out).1 ge (offe + 0) HGE3.out).trans HC0.out
              have hc1 := ((bcell HB3.out).1 ge (offe + (m - 1)) HGE3.out).trans HC1.out
              clear HQ3 HC0 HC1 HB3 HGE3
              cases c with
              | true =>
                clear hc0 hc1
                go_wp2_with fail
                refine bodyPost_ret (v := .tuple #[.slice none 0 0, .int .i64 6]) (by simp [results, Tryd.f33, go_sem]) rfl ?_
                have hno := HQ4.out.inv.gap (by rw [HRN.out]; exact hlt) HRD.out (HG.out.1 rfl).1 (HG.out.1 rfl).2
                exact ⟨_, by rw [HN.out hno], by rw [HN.out hno]; exact .inl ⟨rfl, rfl⟩, bl_call HQ4.out.b0 HQ4.out.bel⟩
              | false =>
                have hi2 := Lib.hid (HQ4.out.inv.step (by rw [HRN.out]; exact hlt) HRD.out (HG.out.2 rfl))
                obtain ⟨q, rfl⟩ : ∃ q, m = q + 1 := ⟨m - 1, by omega⟩
                simp only [Nat.add_sub_cancel, Nat.add_zero] at hc0 hc1
                have hq : q ≤ 1 := by omega
                clear hm2 hm0 hm1 HG HRD
                have hw1 : w1.heap.size ≤ wc.heap.size := HQ4.out.bel.size
                go_wp2_with (first
                  | (at_builtin; refine wpList_append_one _ rfl _ _ 64 rfl w1.heap.size 9 i0 (.string ⟨#[]⟩) 16 Tryd.underlying64 hi hz0 hz1 hz2 rfl _ _ _ rfl (World.ownsRow.alloc HQ4.out.rf _) ⟨_, 0, none⟩ 1 (.string ⟨a.toArray⟩) rfl (cells_new _ _ [_] 0 _ rfl) (by simp [Value.oneCell']) (by unfold maxLen; omega) (by omega) (by simp; omega) ?_; intro v' w5 hown hgrow hblk; have HQ5 := Lib.hid (HQ4.out.first _ hown hgrow hblk); have hw5 : w1.heap.size ≤ w5.heap.size := HQ5.out.bel.size; clear hown hgrow hblk HQ4)
                  | (at_builtin; refine wpList_append_one _ rfl _ _ 64 rfl w1.heap.size 9 i0 (.string ⟨#[]⟩) 16 Tryd.underlying64 hi hz0 hz1 hz2 rfl _ _ _ rfl (World.ownsRow.alloc HQ5.out.rl _) ⟨_, 0, none⟩ 1 (.string ⟨b.toArray⟩) rfl (cells_new _ _ [_] 0 _ rfl) (by simp [Value.oneCell']) (by unfold maxLen; omega) (by omega) (by simp; omega) ?_; intro v'' w6 hown hgrow hblk; have HQ6 := Lib.hid (HQ5.out.last _ hown hgrow hblk hi2.out); clear hown hgrow hblk HQ5))
                go_roundw
                case rel => exact ⟨k + 1, b, F ++ [a], L ++ [b], by omega, by go_num, rfl, zb, by simp; omega, by simp; omega, HQ6⟩
                case measure => simp [intOf]; omega
end Go.Proofs.YtdcjnklagklckaaDoor
