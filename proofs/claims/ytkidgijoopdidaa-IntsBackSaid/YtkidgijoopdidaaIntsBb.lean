/- What the calls of the law IntsBack leave as it was; append of an argument to a row of the call's own. -/
import Derived.Test.YtkidgijoopdidaaIntsBa
import Derived.Deep.DeepCutAuto
import Derived.Deep.RegionHeld3
namespace Go.Proofs.Ytkidgijoopdidaa
open Go.RowKit
set_option linter.unusedVariables false

structure V4 (w : World) (v : Value) (xs : List Int) (n : Int) (u : Nat) (b : Int) (s : Bool) (W : World) : Prop where
  ia : RB W v xs
  c0 : W.cell? ⟨w.heap.size, 0, none⟩ = some (.int .i64 n)
  c1 : W.cell? ⟨w.heap.size, 1, none⟩ = some (.int .u64 u)
  c2 : W.cell? ⟨w.heap.size, 2, none⟩ = some (.int .i64 b)
  c3 : W.cell? ⟨w.heap.size, 3, none⟩ = some (.bool s)
  lt : w.heap.size < W.heap.size
  bel : Below w.heap.size w W
theorem V4.step {w W W' : World} {v : Value} {xs : List Int} {n : Int} {u : Nat} {b : Int} {s : Bool} (h : V4 w v xs n u b s W) (hb : Below W.heap.size W W') : V4 w v xs n u b s W' :=
  ⟨h.ia.later hb, (hb.cell (p := ⟨w.heap.size, 0, none⟩) h.lt).trans h.c0, (hb.cell (p := ⟨w.heap.size, 1, none⟩) h.lt).trans h.c1, (hb.cell (p := ⟨w.heap.size, 2, none⟩) h.lt).trans h.c2, (hb.cell (p := ⟨w.heap.size, 3, none⟩) h.lt).trans h.c3, Nat.lt_of_lt_of_le h.lt hb.size, bl_call h.bel hb⟩
theorem V4.start {w : World} {v : Value} {xs : List Int} {n : Int} {u : Nat} {b : Int} {s : Bool} (t : TypeId) (h : RB w v xs) : V4 w v xs n u b s (w.alloc (.cells #[.int .i64 n, .int .u64 u, .int .i64 b, .bool s] t)) := by
  have hb : Below w.heap.size w (w.alloc (.cells #[.int .i64 n, .int .u64 u, .int .i64 b, .bool s] t)) := bl_alloc _ (Below.refl _ w)
  have hc : ∀ i, (w.alloc (.cells #[.int .i64 n, .int .u64 u, .int .i64 b, .bool s] t)).cell? ⟨w.heap.size, i, none⟩ = #[Value.int .i64 n, .int .u64 u, .int .i64 b, .bool s][i]? := fun i => World.cell?_alloc_at _ _ _ _ rfl
  exact ⟨h.later hb, hc 0, hc 1, hc 2, hc 3, by simp, hb⟩
theorem cvb {w W : World} {v : Value} {xs : List Int} {n : Int} {u : Nat} {b : Int} {s : Bool} {SX : ByteArray} (hz : Hid (strOfNums xs = SX)) (h : Hid (V4 w v xs n u b s W)) : (convert 22 9 v).run Try.prog W = .ok (.string SX) W := by
  rw [← hz.out]; exact conv_rb h.out.ia
theorem cvs {W : World} {v : Value} {xs : List Int} {S : ByteArray} (hz : Hid (strOfNums xs = S)) (h : RB W v xs) : (convert 22 9 v).run Try.prog W = .ok (.string S) W := by
  rw [← hz.out]; exact conv_rb h
theorem str_app (xs ys : List Int) : strOfNums xs ++ strOfNums ys = strOfNums (xs ++ ys) := by
  apply ByteArray.ext
  rw [ByteArray.data_append]
  simp [strOfNums]
theorem add_str {xs ys zs : List Int} {SA SB SX : ByteArray} (h : xs ++ ys = zs) (hl : zs.length ≤ 2000) (h1 : strOfNums xs = SA) (h2 : strOfNums ys = SB) (h3 : strOfNums zs = SX) (W : World) : (Op.stringOp .add SA SB).run Try.prog W = .ok (.string SX) W := by
  subst h1 h2 h3 h
  rw [run_string_add_sum _ _ _ (by rw [strOfNums_size, strOfNums_size]; rw [List.length_append] at hl; omega), str_app]

/-- A number, a slice and an error; what was there is as it was. -/
def GetL (w : World) (z : Nat) (ys : List Int) (r : Int) (e : Ending) (w' : World) : Prop := ∃ v, e = .returned (.tuple #[.int .u64 z, v, .int .i64 r]) ∧ RB w' v ys ∧ Below w.heap.size w w'
theorem getL_of {w w' : World} {z : Nat} {ys : List Int} {r : Int} {e : Ending} (h : GetR w z ys r e w') : GetL w z ys r e w' := by
  obtain ⟨v, he, hr, q, rfl⟩ := h
  exact ⟨v, he, hr, bl_drewN q (Below.refl _ _)⟩
theorem get_l (v : Value) (xs : List Int) (k z : Nat) (ys : List Int) (r : Int) (w : World) (hv : RB w v xs) (hby : BY xs) (hs : xs.length ≤ 1000) (hz : getV xs k = z) (hy : getR xs k = ys) (hr : getE xs k = r) :
    Calls Try.prog 15 #[v, .int .i64 k] w (GetL w z ys r) := (get_r v xs k z ys r w hv hby hs hz hy hr).mono fun _ _ h => getL_of h
theorem getvar_l (v : Value) (xs : List Int) (z : Nat) (ys : List Int) (r : Int) (w : World) (hv : RB w v xs) (hby : BY xs) (hs : xs.length ≤ 1100) (hz : gvV xs = z) (hy : gvR xs = ys) (hr : (gv xs 0).1 = r) :
    Calls Try.prog 17 #[v] w (GetL w z ys r) := (getvar_r v xs z ys r w hv hby hs hz hy hr).mono fun _ _ h => getL_of h
/-- Put of a number to nothing: memory of its own. -/
def PutO (w : World) (ys : List Int) (e : Ending) (w' : World) : Prop := ∃ v, e = .returned (.tuple #[v, .int .i64 0]) ∧ OB w' w.heap.size v ys ∧ Below w.heap.size w w'
theorem put_o (n k : Nat) (ys : List Int) (w : World) (h1 : 1 ≤ k) (h2 : k ≤ 8) (hn : n < 18446744073709551616) (hf : fitB n (8 * k) = true) (hy : beL n k = ys) : Calls Try.prog 13 #[.slice none 0 0, .int .u64 n, .int .i64 k] w (PutO w ys) := by
  subst hy
  exact put_yes (.slice none 0 0) [] n k w (RB.nil w) (by simp) hn h1 h2 hf
theorem put_x (n k : Nat) (w : World) (h1 : 1 ≤ k) (h2 : k ≤ 8) (hn : n < 18446744073709551616) (hf : fitB n (8 * k) = false) : Calls Try.prog 13 #[.slice none 0 0, .int .u64 n, .int .i64 k] w (No w) :=
  put_no (.slice none 0 0) n k w hn (by unfold putOk; rw [Int.toNat_natCast, hf]; simp)
theorem putvar_o (n : Nat) (ys : List Int) (w : World) (hn : n < 18446744073709551616) (hy : varL n = ys) : Calls Try.prog 19 #[.slice none 0 0, .int .u64 n] w (Made w ys) := by
  subst hy
  exact putvar_any (.slice none 0 0) [] n w (RB.nil w) (by simp) hn

theorem wpList_append_rb (w : World) {ops : Array Oper} {rest : List Oper} {o : Oper} {a : Act} {Q : Exit → Act → World → Prop} (hgd : o.guard = none) (s x : Operand)
    (ho : o.op = .call { callee := .builtin .append, args := #[s, x], argTypes := #[22, 22] })
    (B : Nat) (v b : Value) (zs xs : List Int) (hs : a.eval s = v) (hown : OB w B v zs) (hx : a.eval x = b) (hb : RB w b xs) (hB : B ≤ w.heap.size) (hl : zs.length + xs.length ≤ 2000)
    (h : ∀ v' w', OB w' B v' (zs ++ xs) → Below B w w' → wpList Try.prog ops Q rest (a.put o.dst v') w') : wpList Try.prog ops Q (o :: rest) a w := by
  obtain ⟨i0, hi, hz0, hz1, hz2⟩ := info_parts info_u8
  have hown' : w.ownsRow B 5 1 v zs.length (bytesV zs) := hown
  rcases hb.two with ⟨rfl, rfl⟩ | ⟨ad, c, rfl, hc⟩
  · exact wpList_append_own_none hgd s x 22 ho B 5 i0 1 Try.underlying22 hi v zs.length (bytesV zs) hs hown' hx (h v w (by simpa using hown) (Below.refl _ _))
  · refine wpList_append_own w hgd s x 22 ho B 5 i0 (.int .u8 0) 1 1 Try.underlying22 hi hz0 hz1 hz2 rfl (by decide) v zs.length (bytesV zs) hs hown' ad xs.length c (bytesV xs) hx (bytesV_len xs) (hc w (Below.refl _ _)) (bytesV_one xs) (by unfold maxLen; omega) (by omega) hB ?_
    intro v' w' hn hg _
    exact h v' w' (own_end hn (by simp [bytesV])) ((Below.refl B w).grown hg hB (fun k e => (hown'.lt k e).1))
end Go.Proofs.Ytkidgijoopdidaa
