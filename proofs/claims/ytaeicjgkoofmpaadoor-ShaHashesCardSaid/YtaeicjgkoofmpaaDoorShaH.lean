/- Slices of bytes; what is known of bytes, in memory. The contract of the program's function that takes bytes. The contract of the program's padding. The contracts of the program's nothing and digest. -/
import Derived.Test.YtaeicjgkoofmpaaDoorShaD
import Derived.Test.YtaeicjgkoofmpaaDoorShaN
import Derived.Laws.CopyOwn
import Derived.Great.BuildSlice
namespace Go.Proofs.YtaeicjgkoofmpaaDoor
open Go.RowKit Go.Lib
set_option linter.unusedVariables false

/-- The slice v reads as the bytes xs. -/
def RN (w : World) (v : Value) (xs : List Nat) : Prop :=
  (∃ A c, v = .slice A 0 c ∧ xs = [] ∧ (A = none → c = 0)) ∨
  ∃ g off c, v = .slice (some ⟨g, off, none⟩) xs.length c ∧ g < w.heap.size ∧ 0 < xs.length ∧ xs.length ≤ c ∧ c ≤ maxLen ∧ ∀ i, i < xs.length → w.cell? ⟨g, off + i, none⟩ = some (.int .u8 (xs.getD i 0 : Nat))
theorem RN.later {W W' : World} {v : Value} {xs : List Nat} (h : RN W v xs) (hb : Below W.heap.size W W') : RN W' v xs := by
  rcases h with h | ⟨g, off, c, rfl, h1, h0, h2, h3, h4⟩
  · exact .inl h
  · exact .inr ⟨g, off, c, rfl, Nat.lt_of_lt_of_le h1 hb.size, h0, h2, h3, fun i hi => (hb.cell (p := ⟨g, _, none⟩) h1).trans (h4 i hi)⟩
theorem RN.nil (w : World) : RN w (.slice none 0 0) [] := .inl ⟨none, 0, rfl, rfl, fun _ => rfl⟩
theorem RN.drawn {W : World} {v : Value} {xs : List Nat} (h : RN W v xs) (n : Nat) : RN (W.drewN n) v xs := h
theorem RN.len {W : World} {v : Value} {xs : List Nat} (h : RN W v xs) : ∃ A c, v = .slice A xs.length c := by
  rcases h with ⟨A, c, rfl, rfl, _⟩ | ⟨g, off, c, rfl, _⟩
  · exact ⟨A, c, rfl⟩
  · exact ⟨_, _, rfl⟩
def yL (l : List Nat) : List Value := l.map fun (x : Nat) => Value.int .u8 x
def uL (l : List Nat) : List Value := l.map fun (x : Nat) => Value.int .u32 x
theorem yL_len (l : List Nat) : (yL l).length = l.length := by simp [yL]
theorem uL_len (l : List Nat) : (uL l).length = l.length := by simp [uL]
theorem yL_one (l : List Nat) : ∀ v ∈ yL l, v.oneCell' = true := by intro v hv; unfold yL at hv; obtain ⟨x, _, rfl⟩ := List.mem_map.1 hv; rfl
theorem uL_one (l : List Nat) : ∀ v ∈ uL l, v.oneCell' = true := by intro v hv; unfold uL at hv; obtain ⟨x, _, rfl⟩ := List.mem_map.1 hv; rfl
theorem yL_take (l : List Nat) (k : Nat) : yL (l.take k) = (yL l).take k := by simp [yL, List.map_take]
theorem yL_drop (l : List Nat) (k : Nat) : yL (l.drop k) = (yL l).drop k := by simp [yL, List.map_drop]
theorem yL_app (l m : List Nat) : yL (l ++ m) = yL l ++ yL m := by simp [yL]

/-- The cells of what is known of bytes. -/
def tL (n : Nat) (st last : List Nat) : List Value := .int .u64 n :: (uL st ++ yL last)
def tV (n : Nat) (st last : List Nat) : Array Value := (tL n st last).toArray
theorem tL_len {st last : List Nat} (n : Nat) (h : st.length = 8) (h2 : last.length = 64) : (tL n st last).length = 73 := by simp [tL, uL_len, yL_len, h, h2]
theorem tV_size {st last : List Nat} (n : Nat) (h : st.length = 8) (h2 : last.length = 64) : (tV n st last).size = 73 := by simp [tV, tL_len n h h2]
theorem tV_one (n : Nat) (st last : List Nat) : (tV n st last).all (·.oneCell') = true := by
  rw [Array.all_eq_true_iff_forall_mem]
  intro v hv
  simp only [tV, tL, List.mem_toArray, List.mem_cons, List.mem_append] at hv
  rcases hv with rfl | hv | hv
  · rfl
  · exact uL_one _ v hv
  · exact yL_one _ v hv
theorem tL_st {st last : List Nat} (n : Nat) (h : st.length = 8) : ((tL n st last).drop 1).take 8 = uL st := by
  show (uL st ++ yL last).take 8 = _
  rw [List.take_append_of_le_length (by rw [uL_len, h]; omega), List.take_of_length_le (by rw [uL_len, h]; omega)]
theorem tL_last {st last : List Nat} (n : Nat) (h : st.length = 8) (h2 : last.length = 64) : ((tL n st last).drop 9).take 64 = yL last := by
  show ((uL st ++ yL last).drop 8).take 64 = _
  rw [List.drop_append_of_le_length (by rw [uL_len, h]; omega), List.drop_of_length_le (by rw [uL_len, h]; omega), List.nil_append, List.take_of_length_le (by rw [yL_len, h2]; omega)]
theorem tL_setN (n m : Nat) (st last : List Nat) : (tL n st last).set 0 (.int .u64 m) = tL m st last := rfl
theorem tL_setS {st st' last : List Nat} (n : Nat) (h : st.length = 8) (h2 : st'.length = 8) : splice (tL n st last) 1 (uL st') = tL n st' last := by
  unfold splice tL
  rw [uL_len, h2, List.take_succ_cons, List.take_zero, show 1 + 8 = 8 + 1 from rfl, List.drop_succ_cons, List.drop_append_of_le_length (by rw [uL_len, h]; omega), List.drop_of_length_le (by rw [uL_len, h]; omega)]
  simp
theorem tL_setL {st last ys : List Nat} (n o : Nat) (h : st.length = 8) (h2 : last.length = 64) (ho : o + ys.length ≤ 64) : splice (tL n st last) (9 + o) (yL ys) = tL n st (put last o ys) := by
  unfold splice tL put
  rw [yL_len, yL_app, yL_app, yL_take, yL_drop, show 9 + o = (8 + o) + 1 by omega, List.take_succ_cons, show 8 + o + 1 + ys.length = (8 + o + ys.length) + 1 by omega, List.drop_succ_cons, List.take_append, List.drop_append, uL_len, h, List.take_of_length_le (by rw [uL_len, h]; omega), List.drop_of_length_le (by rw [uL_len, h]; omega), show 8 + o - 8 = o by omega, show 8 + o + ys.length - 8 = o + ys.length by omega]
  simp

section
variable {P : Program} {w : World} {ops : Array Oper} {rest : List Oper} {o : Oper} {a : Act} {Q : Exit → Act → World → Prop}
/-- A row is read out of the middle of a block that is known whole. -/
theorem wpList_load_at (hgd : o.guard = none) (ty : TypeId) (x : Operand) (ho : o.op = .load ty x) (g off n : Nat) (hx : a.eval x = .pointer (some ⟨g, off, none⟩)) (t : TypeId) (old cs : List Value) (d : TypeDesc) (hg : w.heap[g]? = some (.cells old.toArray t (0, 0)))
    (hc : (old.drop off).take n = cs) (hn : cs.length = n) (hu : P.underlying ty = some d) (hd : d.isRow = true) (hi : (P.info? ty).map (·.size) = some n)
    (h : wpList P ops Q rest (a.put o.dst (.agg cs.toArray)) w) : wpList P ops Q (o :: rest) a w := by
  subst hn
  refine wpList_load_mid hgd ty x ho g off hx cs d (fun j v hv => ?_) hu hd hi h
  rw [cell_of_row w g (off + j) _ t (0, 0) hg, List.getElem?_toArray, ← hv]
  have hj : j < cs.length := (List.getElem?_eq_some_iff.1 hv).1
  conv => rhs; rw [← hc]
  rw [List.getElem?_take, if_pos hj, List.getElem?_drop]
/-- A row is written into the middle of a block that is known whole. -/
theorem wpList_store_at (hgd : o.guard = none) (ty : TypeId) (x y : Operand) (ho : o.op = .store ty x y) (g off : Nat) (cells : List Value) (hx : a.eval x = .pointer (some ⟨g, off, none⟩)) (hy : a.eval y = .agg cells.toArray)
    (t : TypeId) (old : List Value) (hg : w.heap[g]? = some (.cells old.toArray t (0, 0))) (hi : (P.info? ty).map (·.size) = some cells.length) (hfit : off + cells.length ≤ old.length) (h1 : ∀ v ∈ cells, v.oneCell' = true)
    (h : wpList P ops Q rest (a.put o.dst undef) (w.setRow g (splice old off cells).toArray)) : wpList P ops Q (o :: rest) a w := by
  refine wpList_plain hgd fun K hK => ?_
  have hr := run_storeCells_at P g off t cells 0 old.toArray w hg (by simpa using hfit) h1
  rw [Nat.add_zero] at hr
  have hv : (storeVar ty ⟨g, off, none⟩ (.agg cells.toArray)).run P w = .ok () (w.setRow g (splice old off cells).toArray) := by
    cases hq : P.info? ty with
    | none => simp [hq] at hi
    | some i =>
      have hs : cells.length = i.size := by simp [hq] at hi; omega
      have e : (splice old off cells).toArray = (old.toArray.toList.take off ++ cells ++ old.toArray.toList.drop (off + cells.length)).toArray := by simp [splice]
      rw [e, ← hr]
      simp [storeVar, sizeOf, typeInfo, hq, Value.cells, hs]
  unfold Oper.wp execOp
  simp only [ho, hx, hy, Instr.storeAt, Instr.sureAddr, Sem.run_bind, Sem.run_pure, Result.andThen_ok, hv]
  exact hK _ _ h
end
end Go.Proofs.YtaeicjgkoofmpaaDoor
namespace Go.Proofs.YtaeicjgkoofmpaaDoor
open Go.RowKit Go.Lib
set_option linter.unusedVariables false

theorem info73 {n : Nat} {st last : List Nat} (h : st.length = 8) (h2 : last.length = 64) : (Tryd.prog.info? 75).map (·.size) = some (tV n st last).size := by rw [tV_size n h h2]; kernel_rfl
theorem zero73 : ∀ w : World, (zeroValue 75).run Tryd.prog w = .ok (.agg (tV 0 (List.replicate 8 0) (List.replicate 64 0))) w := (zero_of_info (n := 73) (by kernel_rfl)).1

structure WtW (w : World) (m xs : List Nat) (j n : Nat) (st last : List Nat) (v : Value) (W : World) : Prop where
  rep : Rep (m ++ xs.take j) n st last
  src : RN w v (xs.drop j)
  box : AR W w.heap.size 75 (tV n st last)
  res : AR W (w.heap.size + 1) 75 (tV 0 (List.replicate 8 0) (List.replicate 64 0))
  bel : Below w.heap.size w W
theorem WtW.start {w : World} {m xs : List Nat} {n : Nat} {st last : List Nat} {v : Value} {Z : Array Value} (hR : Rep m n st last) (hv : RN w v xs) (hZ : Z = tV 0 (List.replicate 8 0) (List.replicate 64 0)) :
    WtW w m xs 0 n st last v ((w.alloc (.cells (tV n st last) 75)).alloc (.cells Z 75)) := by
  subst hZ
  refine ⟨by rw [List.take_zero, List.append_nil]; exact hR, hv, (AR.made _ _ _).more _, ?_, bl_alloc _ (bl_alloc _ (Below.refl _ _))⟩
  have := AR.made (w.alloc (.cells (tV n st last) 75)) 75 (tV 0 (List.replicate 8 0) (List.replicate 64 0))
  rw [size_more] at this
  exact this
theorem slice64 (B o : Nat) (h : o < 64) (w : World) : (Instr.sliceAt 43 (.pointer (some ⟨B, 9, none⟩)) (some (.int .u64 (o : Int))) none none).run Tryd.prog w = .ok (.slice (some ⟨B, 9 + o, none⟩) (64 - o) (64 - o)) w := by
  have h1 := run_sliceAt_array_l (P := Tryd.prog) w 43 ⟨B, 9, none⟩ (by kernel_rfl) .u64 (o : Int) (by omega) (by rw [show Tryd.prog.arrayLen 43 = 64 by kernel_rfl]; omega)
  rw [h1, show Tryd.prog.arrayLen 43 = 64 by kernel_rfl]
  have hz : (sizeOf (Tryd.prog.elem 43)).run Tryd.prog w = .ok 1 w := by kernel_rfl
  rw [hz]
  simp only [Result.andThen_ok, slicedAt, Int.toNat_natCast, if_neg (show ¬ 64 = o by omega), Nat.mul_one, Addr.add_mid]
theorem RN.cutAll {w : World} {rs : List Nat} {g off k : Nat} (c' : Nat) (hk : k ≤ rs.length) (hle : rs.length ≤ k) : RN w (.slice (some ⟨g, off, none⟩) (rs.length - k) c') (rs.drop k) := by
  have e : rs.length - k = 0 := by omega
  rw [e]
  exact .inl ⟨_, _, rfl, List.drop_of_length_le (by omega), fun h => by cases h⟩
theorem RN.cut0 {w : World} {rs : List Nat} {g off k : Nat} (c' : Nat) (hle : rs.length ≤ k) : RN w (.slice (some ⟨g, off, none⟩) 0 c') (rs.drop k) := .inl ⟨_, _, rfl, List.drop_of_length_le hle, fun h => by cases h⟩
theorem RN.cut {w : World} {rs : List Nat} {g off c k : Nat} (hg : g < w.heap.size) (hk : k ≤ rs.length) (hle : rs.length ≤ c) (hm : c ≤ maxLen) (h : ∀ i, i < rs.length → w.cell? ⟨g, off + i, none⟩ = some (.int .u8 (rs.getD i 0 : Nat))) :
    RN w (.slice (some ⟨g, off + k, none⟩) (rs.length - k) (c - k)) (rs.drop k) := by
  rcases Nat.eq_or_lt_of_le hk with e | hlt
  · have e0 : rs.length - k = 0 := by omega
    rw [e0]
    exact .inl ⟨_, _, rfl, List.drop_of_length_le (by omega), fun h => by cases h⟩
  · refine .inr ⟨g, off + k, c - k, by rw [List.length_drop], hg, by rw [List.length_drop]; omega, by rw [List.length_drop]; omega, by omega, fun i hi => ?_⟩
    rw [List.length_drop] at hi
    have := h (k + i) (by omega)
    rw [← Nat.add_assoc] at this
    rw [this, List.getD_eq_getElem?_getD, List.getD_eq_getElem?_getD, List.getElem?_drop]
def lenOf : Value → Nat
  | .slice _ n _ => n
  | _ => 0

/-- What the function returns. -/
def Took (w : World) (mm : List Nat) (e : Ending) (w' : World) : Prop := ∃ n st last, e = .returned (.agg (tV n st last)) ∧ Rep mm n st last ∧ Below w.heap.size w w'

set_option maxRecDepth 20000 in
set_option maxHeartbeats 4000000 in
theorem with_any (m xs : List Nat) (n0 : Nat) (st0 last0 : List Nat) (v : Value) (w : World) (hR : Rep m n0 st0 last0) (hv : RN w v xs) (hbx : BB xs) (hsz : m.length + xs.length < 9223372036854775808) (hV : VK w) :
    Calls Tryd.prog 42 #[.agg (tV n0 st0 last0), v] w (Took w (m ++ xs)) := by
  obtain ⟨A, c0, rfl⟩ := hv.len
  have HR := Lib.hid hR; have HV0 := Lib.hid hv; have HBX := Lib.hid hbx; have HVK := Lib.hid hV
  clear hR hv hbx hV
  have zz := zero73
  go_enter Tryd.func42, Tryd.ntmps42
  go_wp2_with fail
  clear zz
  go_loopw [1] (fun v wr => ∃ (j n : Nat) (st last : List Nat), j ≤ xs.length ∧ Hid (WtW w m xs j n st last v wr)) (fun v _ => lenOf v)
  case atStart => exact ⟨0, n0, st0, last0, by omega, Lib.hid (WtW.start HR.out HV0.out rfl)⟩
  case round =>
    obtain ⟨j, n, st, last, hj, HW⟩ := hrel
    obtain ⟨rs, hrs⟩ : ∃ rs, xs.drop j = rs := ⟨_, rfl⟩
    have hlen : rs.length = xs.length - j := by rw [← hrs, List.length_drop]
    have hsrc := HW.out.src
    rw [hrs] at hsrc
    have h8 := Lib.hid HW.out.rep.st8
    have h64 := Lib.hid HW.out.rep.len
    have hn : n = m.length + j := by rw [HW.out.rep.size, List.length_append, List.length_take, Nat.min_eq_left hj]
    have hB : BB rs := by rw [← hrs]; exact HBX.out.drop j
    rcases hsrc with ⟨A1, c1, rfl, rfl, hnil⟩ | ⟨g, off, c, rfl, hg, h0, hle, hm, hcell⟩
    · -- nothing is left
      have hj2 : j = xs.length := by simp at hlen; omega
      subst hj2
      have HRP : Hid (Rep (m ++ xs) n st last) := Lib.hid (by have := HW.out.rep; rw [List.take_length] at this; exact this)
      clear hrs hlen hn hnil
      go_wp2_with (first
        | ((with_reducible refine atOp ⟨some 35, _, _, _, _, _⟩ ?_); refine wpList_load_row rfl 75 _ rfl w.heap.size rfl 75 (tV n st last) (0, 0) _ HW.out.box Tryd.underlying75 rfl (info73 h8.out h64.out) ?_)
        | ((with_reducible refine atOp ⟨none, .store 75 _ _, _, _, _, _⟩ ?_); refine wpList_store_row rfl 75 (.tmp 4) (.tmp 35) rfl (w.heap.size + 1) (tV n st last) rfl rfl 75 (tV 0 (List.replicate 8 0) (List.replicate 64 0)) HW.out.res (info73 h8.out h64.out) (by rw [tV_size n h8.out h64.out]; rfl) (tV_one _ _ _) ?_))
      refine bodyPost_ret (v := .agg (tV n st last)) (results_cell_row Tryd.results42 _ _ (w.heap.size + 1) 75 _ (0, 0) _ rfl (HW.out.res.row _) Tryd.underlying75 rfl (info73 h8.out h64.out)) rfl ⟨n, st, last, rfl, HRP.out, bl_row _ HW.out.bel (by omega)⟩
    · obtain ⟨o, ho⟩ : ∃ o, n % 64 = o := ⟨_, rfl⟩
      have ho64 : o < 64 := by omega
      obtain ⟨k, hk⟩ : ∃ k, Nat.min rs.length (64 - o) = k := ⟨_, rfl⟩
      have hk1 : 1 ≤ k := by rw [← hk]; exact Nat.le_min.2 ⟨h0, by omega⟩
      have hk2 : k ≤ rs.length := by rw [← hk]; exact Nat.min_le_left _ _
      have hk3 : o + k ≤ 64 := by have : k ≤ 64 - o := by rw [← hk]; exact Nat.min_le_right _ _
                                  omega
      obtain ⟨N, hN⟩ : ∃ N, n + k = N := ⟨_, rfl⟩
      have e1 : (n : Int) % 64 = (o : Int) := by omega
      have e2 : IntKind.u64.wrap ((n : Int) + (k : Int)) = (N : Int) := by rw [IntKind.wrap_u64]; omega
      have e3 : IntKind.u64.wrap (k : Int) = (k : Int) := by rw [IntKind.wrap_u64]; omega
      have b0 := HW.out.box.at (i := 0) (v := .int .u64 n) rfl
      have f0 := HW.out.box.free 0
      have hys : (yL (rs.take k)).length = k := by rw [yL_len, List.length_take, Nat.min_eq_left hk2]
      have HS : Hid (∀ jj v, (yL (rs.take k))[jj]? = some v → wr.cell? ((⟨g, off, none⟩ : Addr).add jj) = some v) := Lib.hid (by
        intro jj u hu
        rw [yL, List.getElem?_map] at hu
        have hjk : jj < (rs.take k).length := by
          rcases Nat.lt_or_ge jj (rs.take k).length with h | h
          · exact h
          · rw [List.getElem?_eq_none h] at hu; simp at hu
        have hjr : jj < rs.length := by rw [List.length_take] at hjk; omega
        rw [Addr.add_mid, HW.out.bel.cell (p := ⟨g, off + jj, none⟩) hg, hcell jj hjr, ← hu, List.getElem?_take, if_pos (by rw [List.length_take] at hjk; omega), List.getD_eq_getElem?_getD, List.getElem?_eq_getElem hjr]
        rfl)
      have HMIN : Hid ((yL (rs.take k)).length = Nat.min rs.length (64 - o)) := Lib.hid (by rw [hk, hys])
      have HYS := Lib.hid hys
      have HCELL := Lib.hid hcell
      have HO := Lib.hid ho
      have HN := Lib.hid hN
      have HRS := Lib.hid hrs
      have HLEN := Lib.hid hlen
      have hN63 : N < 9223372036854775808 := by omega
      have hrl : rs.length < 9223372036854775808 := by omega
      clear hk hcell hys ho hrs hlen hN hn
      unfold maxLen at hm
      obtain ⟨L1, hL1⟩ : ∃ L1, put last o (rs.take k) = L1 := ⟨_, rfl⟩
      have hysl : (rs.take k).length = k := by rw [List.length_take, Nat.min_eq_left hk2]
      have HCP : Hid ((List.take (9 + o) (tV n st last).toList ++ (yL (rs.take k) ++ List.drop (9 + o + (yL (rs.take k)).length) (tV n st last).toList)).toArray = tV n st L1) := Lib.hid (by
        have := tL_setL (st := st) (last := last) (ys := rs.take k) n o h8.out h64.out (by rw [hysl]; omega)
        rw [hL1] at this
        show (splice (tL n st last) (9 + o) (yL (rs.take k))).toArray = _
        rw [this]; rfl)
      have hL64 : L1.length = 64 := by rw [← hL1]; exact put_len h64.out (by rw [hysl]; omega)
      have hLB : BB L1 := by rw [← hL1]; exact put_bb HW.out.rep.byte (hB.take k)
      have hRP : ∀ ys, ys = rs.take k → Rep (m ++ xs.take j) n st last := fun _ _ => HW.out.rep
      obtain ⟨w1, hw1⟩ : ∃ w1, w1 = wr.setRow w.heap.size (tV n st L1) := ⟨_, rfl⟩
      have B1 : Hid (AR w1 w.heap.size 75 (tV n st L1)) := Lib.hid (by rw [hw1]; exact HW.out.box.row _)
      have R1 : Hid (AR w1 (w.heap.size + 1) 75 (tV 0 (List.replicate 8 0) (List.replicate 64 0))) := Lib.hid (by rw [hw1]; exact HW.out.res.apart (by omega) _)
      have L1b : Hid (Below w.heap.size w w1) := Lib.hid (by rw [hw1]; exact bl_row _ HW.out.bel (by omega))
      have b1 := B1.out.at (i := 0) (v := .int .u64 n) rfl
      have f1 := B1.out.free 0
      have B2 : Hid (AR (w1.setCell ⟨w.heap.size, 0, none⟩ (.int .u64 N)) w.heap.size 75 (tV N st L1)) := Lib.hid (by have := B1.out.put 0 (.int .u64 N); exact this)
      have R2 : Hid (AR (w1.setCell ⟨w.heap.size, 0, none⟩ (.int .u64 N)) (w.heap.size + 1) 75 (tV 0 (List.replicate 8 0) (List.replicate 64 0))) := Lib.hid (R1.out.kept (show w.heap.size + 1 ≠ w.heap.size by omega) _)
      have L2 : Hid (Below w.heap.size w (w1.setCell ⟨w.heap.size, 0, none⟩ (.int .u64 N))) := Lib.hid (bl_set _ L1b.out (show w.heap.size ≤ w.heap.size by omega))
      have b2 := B2.out.at (i := 0) (v := .int .u64 N) rfl
      have HNEXT : Hid (Rep (m ++ xs.take (j + k)) N (if o + k = 64 then blockL st L1 else st) L1 ∧ j + k ≤ xs.length) := Lib.hid (by
        have hl := HLEN.out
        have e : m ++ xs.take (j + k) = m ++ xs.take j ++ rs.take k := by rw [← HRS.out, List.append_assoc, List.take_add]
        refine ⟨?_, by omega⟩
        rw [e, ← HN.out, ← hL1, ← HO.out]
        have hsum : n + k = n + (rs.take k).length := by rw [hysl]
        rw [hsum]
        split
        · rename_i hh; exact HW.out.rep.block (hB.take k) (by rw [hysl]; exact hh)
        · rename_i hh; exact HW.out.rep.more (hB.take k) (by rw [hysl]; omega) (by rw [hysl]; have := HO.out; omega))
      have HW1 := Lib.hid hw1
      have HL1 := Lib.hid hL1
      have HLL := Lib.hid hL64; have HLBB := Lib.hid hLB; have HYL := Lib.hid hysl
      clear hw1 hL1 hL64 hLB hysl hRP
      have hsl := slice64 w.heap.size o ho64
      by_cases hck : c = k
      · subst hck
        by_cases hfull : o + c = 64
        · have hb1 : ((N : Int) % 64 == 0) = true := by have := HN.out; have := HO.out; simp; omega
          have HST : Hid (Rep (m ++ xs.take (j + c)) N (blockL st L1) L1) := Lib.hid (by have := HNEXT.out.1; rw [if_pos hfull] at this; exact this)
          go_wp2_with (first
            | ((with_reducible refine atOp ⟨some 15, _, _, _, _, _⟩ ?_); refine wpList_copy_own rfl (.tmp 13) (.tmp 14) 27 27 rfl 5 Tryd.underlying27 (by kernel_rfl) w.heap.size (9 + o) (64 - o) (64 - o) ⟨g, off, none⟩ rs.length c rfl rfl (tV n st last) 75 HW.out.box (yL (rs.take c)) HMIN.out HS.out (by rw [tV_size n h8.out h64.out, HYS.out]; omega) (yL_one _) ?_; rw [HCP.out, ← HW1.out, HYS.out])
            | ((with_reducible refine atOp ⟨some 30, _, _, _, _, _⟩ ?_); refine wpList_load_at rfl 70 (.tmp 29) rfl w.heap.size 1 8 rfl 75 (tL N st L1) (uL st) _ B2.out (tL_st N h8.out) (by rw [uL_len]; exact h8.out) Tryd.underlying70 rfl (by kernel_rfl) ?_)
            | ((with_reducible refine atOp ⟨some 32, _, _, _, _, _⟩ ?_); refine wpList_load_at rfl 43 (.tmp 31) rfl w.heap.size 9 64 rfl 75 (tL N st L1) (yL L1) _ B2.out (tL_last N h8.out HLL.out) (by rw [yL_len]; exact HLL.out) Tryd.underlying43 rfl (by kernel_rfl) ?_)
            | (go_at_call 62; refine (block_any st L1 _ h8.out HW.out.rep.ww HLBB.out HLL.out (HVK.out.below L2.out)).mono ?_; rintro e w2 ⟨rfl, hb⟩; have B3 := Lib.hid (B2.out.step hb); have R3 := Lib.hid (R2.out.step hb); have L3 := Lib.hid (bl_call L2.out hb); clear hb)
            | ((with_reducible refine atOp ⟨none, .store 70 _ _, _, _, _, _⟩ ?_); refine wpList_store_at rfl 70 (.tmp 34) (.tmp 33) rfl w.heap.size 1 (uL (blockL st L1)) rfl rfl 75 (tL N st L1) B3.out (by rw [uL_len, blockL_len _ h8.out]; kernel_rfl) (by rw [uL_len, blockL_len _ h8.out, tL_len N h8.out HLL.out]; omega) (uL_one _) ?_; rw [tL_setS N h8.out (blockL_len _ h8.out)]))
          go_roundw
          case rel => (repeat apply Exists.intro); refine ⟨?_, rfl⟩; exact ⟨j + c, N, blockL st L1, L1, HNEXT.out.2, Lib.hid ⟨HST.out, by rw [← List.drop_drop, HRS.out]; exact RN.cut0 _ hle, B3.out.row _, R3.out.apart (by omega) _, bl_row _ L3.out (by omega)⟩⟩
          case measure => show 0 < rs.length; omega
        · have hb1 : ((N : Int) % 64 == 0) = false := by have := HN.out; have := HO.out; simp; omega
          have HST : Hid (Rep (m ++ xs.take (j + c)) N st L1) := Lib.hid (by have := HNEXT.out.1; rw [if_neg hfull] at this; exact this)
          go_wp2_with ((with_reducible refine atOp ⟨some 15, _, _, _, _, _⟩ ?_); refine wpList_copy_own rfl (.tmp 13) (.tmp 14) 27 27 rfl 5 Tryd.underlying27 (by kernel_rfl) w.heap.size (9 + o) (64 - o) (64 - o) ⟨g, off, none⟩ rs.length c rfl rfl (tV n st last) 75 HW.out.box (yL (rs.take c)) HMIN.out HS.out (by rw [tV_size n h8.out h64.out, HYS.out]; omega) (yL_one _) ?_; rw [HCP.out, ← HW1.out, HYS.out])
          go_roundw
          case rel => exact ⟨j + c, N, st, L1, HNEXT.out.2, Lib.hid ⟨HST.out, by rw [← List.drop_drop, HRS.out]; exact RN.cut0 _ hle, B2.out, R2.out, L2.out⟩⟩
          case measure => show 0 < rs.length; omega
      · by_cases hfull : o + k = 64
        · have hb1 : ((N : Int) % 64 == 0) = true := by have := HN.out; have := HO.out; simp; omega
          have HST : Hid (Rep (m ++ xs.take (j + k)) N (blockL st L1) L1) := Lib.hid (by have := HNEXT.out.1; rw [if_pos hfull] at this; exact this)
          go_wp2_with (first
            | ((with_reducible refine atOp ⟨some 15, _, _, _, _, _⟩ ?_); refine wpList_copy_own rfl (.tmp 13) (.tmp 14) 27 27 rfl 5 Tryd.underlying27 (by kernel_rfl) w.heap.size (9 + o) (64 - o) (64 - o) ⟨g, off, none⟩ rs.length c rfl rfl (tV n st last) 75 HW.out.box (yL (rs.take k)) HMIN.out HS.out (by rw [tV_size n h8.out h64.out, HYS.out]; omega) (yL_one _) ?_; rw [HCP.out, ← HW1.out, HYS.out])
            | ((with_reducible refine atOp ⟨some 30, _, _, _, _, _⟩ ?_); refine wpList_load_at rfl 70 (.tmp 29) rfl w.heap.size 1 8 rfl 75 (tL N st L1) (uL st) _ B2.out (tL_st N h8.out) (by rw [uL_len]; exact h8.out) Tryd.underlying70 rfl (by kernel_rfl) ?_)
            | ((with_reducible refine atOp ⟨some 32, _, _, _, _, _⟩ ?_); refine wpList_load_at rfl 43 (.tmp 31) rfl w.heap.size 9 64 rfl 75 (tL N st L1) (yL L1) _ B2.out (tL_last N h8.out HLL.out) (by rw [yL_len]; exact HLL.out) Tryd.underlying43 rfl (by kernel_rfl) ?_)
            | (go_at_call 62; refine (block_any st L1 _ h8.out HW.out.rep.ww HLBB.out HLL.out (HVK.out.below L2.out)).mono ?_; rintro e w2 ⟨rfl, hb⟩; have B3 := Lib.hid (B2.out.step hb); have R3 := Lib.hid (R2.out.step hb); have L3 := Lib.hid (bl_call L2.out hb); clear hb)
            | ((with_reducible refine atOp ⟨none, .store 70 _ _, _, _, _, _⟩ ?_); refine wpList_store_at rfl 70 (.tmp 34) (.tmp 33) rfl w.heap.size 1 (uL (blockL st L1)) rfl rfl 75 (tL N st L1) B3.out (by rw [uL_len, blockL_len _ h8.out]; kernel_rfl) (by rw [uL_len, blockL_len _ h8.out, tL_len N h8.out HLL.out]; omega) (uL_one _) ?_; rw [tL_setS N h8.out (blockL_len _ h8.out)]))
          go_roundw
          case rel => (repeat apply Exists.intro); refine ⟨?_, rfl⟩; exact ⟨j + k, N, blockL st L1, L1, HNEXT.out.2, Lib.hid ⟨HST.out, by rw [← List.drop_drop, HRS.out]; exact RN.cut hg hk2 hle (by unfold maxLen; omega) HCELL.out, B3.out.row _, R3.out.apart (by omega) _, bl_row _ L3.out (by omega)⟩⟩
          case measure => show rs.length - k < rs.length; omega
        · have hb1 : ((N : Int) % 64 == 0) = false := by have := HN.out; have := HO.out; simp; omega
          have HST : Hid (Rep (m ++ xs.take (j + k)) N st L1) := Lib.hid (by have := HNEXT.out.1; rw [if_neg hfull] at this; exact this)
          go_wp2_with ((with_reducible refine atOp ⟨some 15, _, _, _, _, _⟩ ?_); refine wpList_copy_own rfl (.tmp 13) (.tmp 14) 27 27 rfl 5 Tryd.underlying27 (by kernel_rfl) w.heap.size (9 + o) (64 - o) (64 - o) ⟨g, off, none⟩ rs.length c rfl rfl (tV n st last) 75 HW.out.box (yL (rs.take k)) HMIN.out HS.out (by rw [tV_size n h8.out h64.out, HYS.out]; omega) (yL_one _) ?_; rw [HCP.out, ← HW1.out, HYS.out])
          go_roundw
          case rel => exact ⟨j + k, N, st, L1, HNEXT.out.2, Lib.hid ⟨HST.out, by rw [← List.drop_drop, HRS.out]; exact RN.cut hg hk2 hle (by unfold maxLen; omega) HCELL.out, B2.out, R2.out, L2.out⟩⟩
          case measure => show rs.length - k < rs.length; omega
end Go.Proofs.YtaeicjgkoofmpaaDoor
namespace Go.Proofs.YtaeicjgkoofmpaaDoor
open Go.RowKit Go.Lib
set_option linter.unusedVariables false

theorem info_u8 : (Tryd.prog.info? 5).map (fun i => (i.zero, i.size, i.bytes)) = some (some (.int .u8 0), 1, 1) := by kernel_rfl
/-- The slice v holds the bytes xs, in memory from block B on. -/
def ON (w : World) (B : Nat) (v : Value) (xs : List Nat) : Prop := w.ownsRow B 5 1 v xs.length (yL xs)
theorem ON.len {w : World} {B : Nat} {v : Value} {xs : List Nat} (h : ON w B v xs) : ∃ A c, v = .slice A xs.length c := by
  have h' : w.ownsRow B 5 1 v xs.length (yL xs) := h
  rcases h'.2 with ⟨rfl, h0⟩ | ⟨g, c, cur, rfl, _⟩
  · rw [h0]; exact ⟨_, _, rfl⟩
  · exact ⟨_, _, rfl⟩
theorem ON.rn {w : World} {B : Nat} {v : Value} {xs : List Nat} (h : ON w B v xs) : RN w v xs := by
  have h' : w.ownsRow B 5 1 v xs.length (yL xs) := h
  rcases h'.2 with ⟨rfl, h0⟩ | ⟨g, c, cur, rfl, hb, hg, hc, hm, hs, ht⟩
  · obtain rfl : xs = [] := List.eq_nil_of_length_eq_zero h0
    exact RN.nil w
  · rcases Nat.eq_zero_or_pos xs.length with h0 | h0
    · obtain rfl : xs = [] := List.eq_nil_of_length_eq_zero h0
      exact .inl ⟨_, _, rfl, rfl, fun h => by cases h⟩
    · refine .inr ⟨g, 0, c, rfl, (h'.lt g rfl).2, h0, hc, hm, fun i hi => ?_⟩
      rw [Nat.zero_add, h'.cellAt i (by omega), yL, List.getElem?_map, List.getElem?_eq_getElem hi, List.getD_eq_getElem?_getD, List.getElem?_eq_getElem hi]
      rfl
theorem ON.one {w : World} {B : Nat} {v : Value} {xs ys : List Nat} {x : Nat} (h : w.ownsRow B 5 1 v (xs.length + 1) (yL xs ++ [.int .u8 x])) (hy : ys = xs ++ [x]) : ON w B v ys := by
  subst hy
  unfold ON
  rw [yL_app, List.length_append]
  exact h
theorem cells_new (w : World) (t : TypeId) (l : List Value) : ∀ j u, l[j]? = some u → (w.alloc (.cells l.toArray t)).cell? ((⟨w.heap.size, 0, none⟩ : Addr).add j) = some u := by
  intro j u hj
  rw [Addr.add_mid, World.cell?_alloc_at _ _ _ _ rfl]
  simpa using hj
theorem on_new (w : World) (xs : List Nat) (n : Nat) (hn : xs.length = n) (h : n ≤ 1000000) : ON (w.alloc (.cells (yL xs).toArray 5)) w.heap.size (.slice (some ⟨w.heap.size, 0, none⟩) n n) xs := by
  subst hn
  exact World.ownsRow_lit (base := w.heap.size) (e := 5) (size := 1) w (yL xs).toArray xs.length (Nat.le_refl _) (by unfold maxLen; omega) (by simp [yL_len])

/-- The bytes of the padding after i of the last eight. -/
def padI (n i : Nat) : List Nat := 128 :: (List.replicate (zeros n) 0 ++ (be8 (8 * n)).take i)
theorem padI_len (n : Nat) {i : Nat} (h : i ≤ 8) : (padI n i).length = zeros n + 1 + i := by simp [padI, be8]; omega
theorem padI_full (n : Nat) : padI n 8 = padL n := rfl
theorem padI_step (n : Nat) {i : Nat} (h : i < 8) : padI n (i + 1) = padI n i ++ [8 * n / 2 ^ (56 - 8 * i) % 256] := by
  have h8 : i = 0 ∨ i = 1 ∨ i = 2 ∨ i = 3 ∨ i = 4 ∨ i = 5 ∨ i = 6 ∨ i = 7 := by omega
  unfold padI
  rcases h8 with rfl | rfl | rfl | rfl | rfl | rfl | rfl | rfl <;> simp [be8]
theorem zeros_lt (n : Nat) : zeros n < 64 := Nat.mod_lt _ (by decide)
theorem zeros_step {n k : Nat} (h : k ≤ zeros n) : (n + (k + 1) + 8) % 64 = 0 ↔ k = zeros n := by unfold zeros at *; omega
/-- What the function returns: bytes in memory of its own. -/
def Mem (w : World) (xs : List Nat) (e : Ending) (w' : World) : Prop := ∃ v, e = .returned v ∧ ON w' w.heap.size v xs ∧ Below w.heap.size w w'

/-- The same, its length said apart. -/
def OL (w : World) (B : Nat) (v : Value) (k : Nat) (xs : List Nat) : Prop := w.ownsRow B 5 1 v k (yL xs)
theorem OL.of {w : World} {B : Nat} {v : Value} {xs : List Nat} {k : Nat} (h : ON w B v xs) (hk : xs.length = k) : OL w B v k xs := by subst hk; exact h
theorem OL.on {w : World} {B : Nat} {v : Value} {xs : List Nat} {k : Nat} (h : OL w B v k xs) : ON w B v xs := by
  have h' : w.ownsRow B 5 1 v k (yL xs) := h
  have hl := h'.1
  rw [yL_len] at hl
  obtain rfl : k = xs.length := by omega
  exact h
theorem OL.put {w : World} {B : Nat} {v : Value} {xs ys : List Nat} {k x : Nat} (h : w.ownsRow B 5 1 v (k + 1) (yL xs ++ [.int .u8 x])) (hy : ys = xs ++ [x]) : OL w B v (k + 1) ys := by
  subst hy; unfold OL; rw [yL_app]; exact h
theorem OL.puti {w : World} {B : Nat} {v : Value} {xs ys : List Nat} {k x : Nat} {y : Int} (h : w.ownsRow B 5 1 v (k + 1) (yL xs ++ [.int .u8 y])) (hx : y = x) (hy : ys = xs ++ [x]) : OL w B v (k + 1) ys := by
  subst hx; exact OL.put h hy
theorem OL.len {w : World} {B : Nat} {v : Value} {xs : List Nat} {k : Nat} (h : OL w B v k xs) : ∃ A c, v = .slice A k c := by
  have h' : w.ownsRow B 5 1 v k (yL xs) := h
  rcases h'.2 with ⟨rfl, h0⟩ | ⟨g, c, cur, rfl, _⟩
  · rw [h0]; exact ⟨_, _, rfl⟩
  · exact ⟨_, _, rfl⟩

set_option maxRecDepth 20000 in
set_option maxHeartbeats 4000000 in
theorem padding_any (n : Nat) (w : World) (hn : n ≤ 1152921504606846976) : Calls Tryd.prog 59 #[.int .u64 n] w (Mem w (padL n)) := by
  obtain ⟨i0, hi, hz0, hz1, hz2⟩ := info_parts info_u8
  have hz := zeros_lt n
  go_enter Tryd.func59, Tryd.ntmps59
  go_wp2_with fail
  go_loopw [3] (fun v wr => ∃ (k : Nat) (A : Option Addr) (c : Nat), k ≤ zeros n ∧ v = .slice A (k + 1) c ∧ Hid (OL wr w.heap.size (.slice A (k + 1) c) (k + 1) (128 :: List.replicate k 0)) ∧ Hid (Below w.heap.size w wr)) (fun v _ => zeros n + 1 - lenOf v)
  case atStart => exact ⟨0, _, _, by omega, rfl, Lib.hid (OL.of (on_new w [128] 1 rfl (by omega)) rfl), Lib.hid (bl_alloc _ (Below.refl _ _))⟩
  case round =>
    obtain ⟨k, A, c, hk, rfl, HO, HB⟩ := hrel
    have e3 : IntKind.u64.wrap ((k : Int) + 1) = (k : Int) + 1 := by rw [IntKind.wrap_u64]; omega
    by_cases hlt : k < zeros n
    · have hb : (((n : Int) + ((k : Int) + 1) + 8) % 64 != 0) = true := by
        have := zeros_step (n := n) (k := k) (by omega)
        simp; omega
      go_wp2_with (at_builtin; refine wpList_append_own _ rfl _ _ 27 rfl w.heap.size 5 i0 (.int .u8 0) 1 1 Tryd.underlying27 hi hz0 hz1 hz2 rfl (by decide) _ (k + 1) (yL (128 :: List.replicate k 0)) rfl (World.ownsRow.alloc HO.out _) ⟨wr.heap.size, 0, none⟩ 1 1 [.int .u8 0] rfl rfl (cells_new _ _ [_]) (by simp [Value.oneCell']) (by unfold maxLen; omega) (by omega) (by have := HB.out.size; simp; omega) ?_; intro v2 w2 hown hgrow _; have hbw := (bl_alloc _ HB.out).grown hgrow (by have := HB.out.size; simp; omega) (fun k e => (World.ownsRow.lt HO.out k e).1); have HB2 := Lib.hid hbw; have HO2 : Hid (OL w2 w.heap.size v2 (k + 1 + 1) (128 :: List.replicate (k + 1) 0)) := Lib.hid (OL.put (x := 0) hown (by rw [List.replicate_succ']; rfl)); clear hbw hown hgrow; obtain ⟨A2, c2, rfl⟩ := HO2.out.len)
      go_roundw
      case rel => exact ⟨k + 1, A2, c2, by omega, rfl, HO2, HB2⟩
      case measure => show zeros n + 1 - (k + 1 + 1) < zeros n + 1 - (k + 1); omega
    · obtain ⟨z, hzz⟩ : ∃ z, zeros n = z := ⟨_, rfl⟩
      have hkz : k = z := by omega
      have hb : (((n : Int) + ((k : Int) + 1) + 8) % 64 != 0) = false := by
        have := (zeros_step (n := n) (k := k) (by omega)).2 (by omega)
        simp; omega
      have HS : Hid (OL wr w.heap.size (.slice A (k + 1) c) (k + 1) (padI n 0)) := Lib.hid (by have := HO.out; unfold padI; rw [hzz, ← hkz, List.take_zero, List.append_nil]; exact this)
      have HKZ := Lib.hid hkz; have HZZ := Lib.hid hzz
      rw [hzz] at hz
      have hk64 : k < 64 := by omega
      have e8 : IntKind.u64.wrap (8 * (n : Int)) = 8 * (n : Int) := by rw [IntKind.wrap_u64]; omega
      clear hkz hzz HO hk hlt
      go_wp2_with fail
      go_loopw [3, 5] (fun v sh wr => ∃ (i : Nat) (A : Option Addr) (c : Nat) (q : Int), i ≤ 8 ∧ sh = .int .i64 q ∧ q = 56 - 8 * (i : Int) ∧ v = .slice A (k + 1 + i) c ∧ Hid (OL wr w.heap.size (.slice A (k + 1 + i) c) (k + 1 + i) (padI n i)) ∧ Hid (Below w.heap.size w wr)) (fun v _ _ => 100 - lenOf v)
      case atStart => exact ⟨0, A, c, 56, by omega, rfl, by omega, rfl, HS, HB⟩
      case round =>
        obtain ⟨i, A, c, q, hi8, rfl, hq, rfl, HO, HB⟩ := hrel
        by_cases hlt : i < 8
        · obtain ⟨t, ht⟩ : ∃ t : Nat, q = t := ⟨(56 - 8 * i), by omega⟩
          subst ht
          have HQ : Hid (t = 56 - 8 * i) := Lib.hid (by omega)
          have HX : Hid (8 * (n : Int) / 2 ^ t % 256 = ((8 * n / 2 ^ t % 256 : Nat) : Int)) := Lib.hid (by push_cast; rfl)
          have ht56 : t ≤ 56 := by omega
          have hs1 : (t : Int) - 8 = (56 - 8 * ((i + 1 : Nat) : Int)) := by omega
          have HS1 := Lib.hid hs1
          clear hq hs1
          go_wp2_with (at_builtin; refine wpList_append_own _ rfl _ _ 27 rfl w.heap.size 5 i0 (.int .u8 0) 1 1 Tryd.underlying27 hi hz0 hz1 hz2 rfl (by decide) _ (k + 1 + i) (yL (padI n i)) rfl (World.ownsRow.alloc HO.out _) ⟨wr.heap.size, 0, none⟩ 1 1 [_] rfl rfl (cells_new _ _ [_]) (by simp [Value.oneCell']) (by unfold maxLen; omega) (by omega) (by have := HB.out.size; simp; omega) ?_; intro v2 w2 hown hgrow _; have hbw := (bl_alloc _ HB.out).grown hgrow (by have := HB.out.size; simp; omega) (fun k e => (World.ownsRow.lt HO.out k e).1); have HB2 := Lib.hid hbw; have HO2 : Hid (OL w2 w.heap.size v2 (k + 1 + i + 1) (padI n (i + 1))) := Lib.hid (OL.puti hown HX.out (by rw [padI_step n hlt, HQ.out])); clear hbw hown hgrow; obtain ⟨A2, c2, rfl⟩ := HO2.out.len)
          go_roundw
          case rel => exact ⟨i + 1, A2, c2, (t : Int) - 8, by omega, rfl, HS1.out, rfl, HO2, HB2⟩
          case measure => show 100 - (k + 1 + i + 1) < 100 - (k + 1 + i); omega
        · have HI : Hid (i = 8) := Lib.hid (by omega)
          have HF : Hid (ON wr w.heap.size (.slice A (k + 1 + i) c) (padL n)) := Lib.hid (by rw [← padI_full]; have := HO.out.on; rw [HI.out] at this; rw [HI.out]; exact this)
          have hq0 : ¬ (0 ≤ q) := by omega
          go_wp2_with fail
          go_ret
          exact ⟨_, rfl, HF.out, HB.out⟩
end Go.Proofs.YtaeicjgkoofmpaaDoor
namespace Go.Proofs.YtaeicjgkoofmpaaDoor
open Go.RowKit Go.Lib
set_option linter.unusedVariables false

theorem VK.startAt {W : World} (h : VK W) : ∃ t fr, W.heap[1]? = some (.cells (uV hL) t fr) := h.h
def Gives (w : World) (v : Value) (e : Ending) (w' : World) : Prop := e = .returned v ∧ Below w.heap.size w w'
theorem info73z : (Tryd.prog.info? 75).map (·.size) = some (tV 0 hL (List.replicate 64 0)).size := info73 rfl rfl

set_option maxRecDepth 20000 in
set_option maxHeartbeats 2000000 in
theorem nothing_any (w : World) (hV : VK w) : Calls Tryd.prog 40 #[] w (Gives w (.agg (tV 0 hL (List.replicate 64 0)))) := by
  obtain ⟨t, fr, hst⟩ := hV.startAt
  have hlt : 1 < w.heap.size := (Array.getElem?_eq_some_iff.1 hst).1
  have HST : Hid ((w.alloc (.cells (tV 0 (List.replicate 8 0) (List.replicate 64 0)) 75)).heap[1]? = some (.cells (uV hL) t fr)) := Lib.hid ((((bl_alloc _ (Below.refl _ _)) : Below w.heap.size w (w.alloc (.cells (tV 0 (List.replicate 8 0) (List.replicate 64 0)) 75))).block _ hlt).trans hst)
  have zz := zero73
  clear hV hst
  go_enter Tryd.func40, Tryd.ntmps40
  go_wp2_with (first
    | ((with_reducible refine atOp ⟨some 1, _, _, _, _, _⟩ ?_); refine wpList_load_row rfl 70 _ rfl 1 rfl t (uV hL) fr _ HST.out Tryd.underlying70 rfl (info8 hL rfl) ?_)
    | ((with_reducible refine atOp ⟨some 2, _, _, _, _, _⟩ ?_); refine wpList_buildTo rfl 75 _ rfl (some 2) rfl (tV 0 hL (List.replicate 64 0)) (by kernel_rfl) ?_)
    | ((with_reducible refine atOp ⟨none, .store 75 _ _, _, _, _, _⟩ ?_); refine wpList_store_row rfl 75 (.tmp 0) (.tmp 2) rfl w.heap.size (tV 0 hL (List.replicate 64 0)) rfl rfl 75 (tV 0 (List.replicate 8 0) (List.replicate 64 0)) (AR.made w _ _) info73z rfl (tV_one _ _ _) ?_))
  refine bodyPost_ret (v := .agg (tV 0 hL (List.replicate 64 0))) (results_cell_row Tryd.results40 _ _ w.heap.size 75 _ (0, 0) _ rfl ((AR.made w _ _).row _) Tryd.underlying75 rfl info73z) rfl ⟨rfl, bl_row _ (bl_alloc _ (Below.refl _ _)) (by omega)⟩

/-- A whole row is read, in a region that draws its order. -/
theorem yields_row {P : Program} {ops : Array Oper} {S : World → Prop} {op : Oper} {a : Act} (hw : Region.wanted op (yielded ops a.tmps) = true) (ty : TypeId) (x : Operand) (ho : op.op = .load ty x) (g : Nat) (hx : a.eval x = .pointer (some ⟨g, 0, none⟩)) (t : TypeId) (cs : Array Value) (d : TypeDesc) (hS : ∀ w, S w → AR w g t cs)
    (hu : P.underlying ty = some d) (hd : (match d with | .struct _ | .array _ _ => true | _ => false) = true) (hi : (P.info? ty).map (·.size) = some cs.size) : YieldsIf P ops S op (.agg cs) a :=
  .inl ⟨hw, fun w hw' => by
    unfold execOp
    simp only [ho, hx, Instr.loadAt, Instr.sureAddr, Sem.run_bind, Sem.run_pure, Result.andThen_ok, run_loadVar_row w g t ty cs (0, 0) d (hS w hw') hu hd hi]⟩

structure DgA (w : World) (n : Nat) (st last : List Nat) (W : World) : Prop where
  box : AR W w.heap.size 75 (tV n st last)
  res : AR W (w.heap.size + 1) 36 (yV (List.replicate 32 0))
  bel : Below w.heap.size w W
theorem DgA.step {w W W' : World} {n : Nat} {st last : List Nat} (h : DgA w n st last W) (hb : Below W.heap.size W W') : DgA w n st last W' := ⟨h.box.step hb, h.res.step hb, bl_call h.bel hb⟩
theorem DgA.start (w : World) (n : Nat) (st last : List Nat) {Z : Array Value} (hZ : Z = yV (List.replicate 32 0)) : DgA w n st last ((w.alloc (.cells (tV n st last) 75)).alloc (.cells Z 36)) := by
  subst hZ
  refine ⟨(AR.made _ _ _).more _, ?_, bl_alloc _ (bl_alloc _ (Below.refl _ _))⟩
  have := AR.made (w.alloc (.cells (tV n st last) 75)) 36 (yV (List.replicate 32 0))
  rw [size_more] at this
  exact this
theorem bl_self (w : World) (o : Obj) : Below w.heap.size w (w.alloc o) := bl_alloc o (Below.refl _ _)

/-- What the digest's first statement leaves. -/
def Padded (w : World) (m : List Nat) (v : Value) (W : World) : Prop := ∃ g n st last, v = .pointer (some ⟨g, 0, none⟩) ∧ AR W g 75 (tV n st last) ∧ Rep (allL m) n st last ∧ AR W (w.heap.size + 1) 36 (yV (List.replicate 32 0)) ∧ Below w.heap.size w W

structure DgB (w : World) (d : Nat) (l : List Nat) (W : World) : Prop where
  row : AR W d 36 (yV l)
  res : AR W (w.heap.size + 1) 36 (yV (List.replicate 32 0))
  ne : w.heap.size + 1 < d
  bel : Below w.heap.size w W
theorem DgB.put {w W : World} {d : Nat} {l : List Nat} (h : DgB w d l W) (i x : Nat) : DgB w d (l.set i x) (W.setCell ⟨d, i, none⟩ (.int .u8 x)) := by
  have hne := h.ne
  refine ⟨?_, h.res.kept (show w.heap.size + 1 ≠ d by omega) _, h.ne, bl_set _ h.bel (show w.heap.size ≤ d by omega)⟩
  have := h.row.put i (.int .u8 x)
  rw [yV_set] at this
  exact this
theorem DgB.start {w W : World} {d : Nat} (hd : W.heap.size = d) {Z : Array Value} (hZ : Z = yV (List.replicate 32 0)) (hres : AR W (w.heap.size + 1) 36 (yV (List.replicate 32 0))) (hb : Below w.heap.size w W) : DgB w d (List.replicate 32 0) (W.alloc (.cells Z 36)) := by
  subst hd hZ
  exact ⟨AR.made _ _ _, hres.more _, hres.inside, bl_alloc _ hb⟩
theorem mix_step {T : List Nat} {k x : Nat} (hT : T.length = 32) (hk : k < 32) (hx : T.getD k 0 = x) : (mix T (List.replicate 32 0) k).set k x = mix T (List.replicate 32 0) (k + 1) := by
  subst hx; exact mix_set (by omega) (by simp; omega)
theorem mix_hole {T : List Nat} {k : Nat} (hT : T.length = 32) (hk : k < 32) : (mix T (List.replicate 32 0) k)[k]? = some 0 := by
  rw [mix_get (by omega) (by simp; omega), List.getD_eq_getElem?_getD, List.getElem?_replicate, if_pos hk]; rfl
theorem info32 (l : List Nat) (h : l.length = 32) : (Tryd.prog.info? 36).map (·.size) = some (yV l).size := by rw [yV_size, h]; kernel_rfl

set_option maxRecDepth 20000 in
set_option maxHeartbeats 4000000 in
theorem digest_any (m : List Nat) (n : Nat) (st last : List Nat) (w : World) (hR : Rep m n st last) (hsz : m.length ≤ 1000000) (hV : VK w) :
    Calls Tryd.prog 43 #[.agg (tV n st last)] w (Gives w (.agg (yV (shaL m)))) := by
  have hn : n ≤ 1000000 := by rw [hR.size]; exact hsz
  have HR := Lib.hid hR; have HVK := Lib.hid hV
  clear hR hV
  have zz := zero73
  go_enter Tryd.func43, Tryd.ntmps43
  go_upto_region 0 with fail
  go_cut [1, 2] (fun s1 s2 wc => s1 = .pointer (some ⟨w.heap.size, 0, none⟩) ∧ s2 = .pointer (some ⟨w.heap.size + 1, 0, none⟩) ∧ Hid (DgA w n st last wc))
  case first =>
    go_wp2_with fail
    go_meet
    case rel => exact ⟨rfl, rfl, Lib.hid (DgA.start w n st last (by kernel_rfl))⟩
  case rest =>
    obtain ⟨rfl, rfl, HD⟩ := hcut
    go_upto_region 1 with fail
    go_cut [3] (fun s3 wc => Hid (Padded w m s3 wc))
    case first =>
      have HDd : Hid (DgA w n st last wc.drew) := Lib.hid (HD.out.step (bl_drewN 1 (Below.refl _ _)))
      refine wp_region_held_drew (S := fun W => AR W w.heap.size 75 (tV n st last)) (by kernel_rfl) HDd.out.box (fun hHeld => ?_)
      refine wpAnyH_take (i := 0) (oi := { dst := some 8, op := _, type := _, pos := _, after := _, guard := _ }) rfl (by kernel_rfl) (by kernel_rfl) (by kernel_rfl) (fun _ _ _ h => h) (yields_row (by rfl) 75 (.tmp 1) rfl w.heap.size rfl 75 (tV n st last) _ (fun _ h => h) Tryd.underlying75 rfl (info73 HR.out.st8 HR.out.len)) hHeld ?_
      (try simp only [Act.put, List.setIfInBounds_toArray, List.set_cons_zero, List.set_cons_succ])
      refine wpAnyH_take (i := 1) (oi := { dst := some 9, op := _, type := _, pos := _, after := _, guard := _ }) (v := ?v9) rfl (by kernel_rfl) (by kernel_rfl) (by kernel_rfl) (fun _ _ _ h => h) (Or.inl ⟨by rfl, ?y9⟩) hHeld ?r9
      case y9 => intro w9 hSw; go_simp <;> with_reducible rfl
      (try simp only [Act.put, List.setIfInBounds_toArray, List.set_cons_zero, List.set_cons_succ])
      refine wpAnyH_take (i := 2) (oi := { dst := some 10, op := _, type := _, pos := _, after := _, guard := _ }) (v := ?v10) rfl (by kernel_rfl) (by kernel_rfl) (by kernel_rfl) (fun _ _ _ h => h) (Or.inl ⟨by rfl, ?y10⟩) hHeld ?r10
      case y10 => intro w9 hSw; have c0 := AR.at (i := 0) (v := .int .u64 n) hSw rfl; go_simp <;> with_reducible rfl
      (try simp only [Act.put, List.setIfInBounds_toArray, List.set_cons_zero, List.set_cons_succ])
      refine wpAnyH_ready (rs := [3, 5]) (by kernel_rfl) (by simp) (AllReadyH.cons (o := { dst := some 11, op := _, type := _, pos := _, after := _, guard := _ }) rfl (fun K hK => ?a1_3) (AllReadyH.cons (o := { dst := some 3, op := _, type := _, pos := _, after := _, guard := _ }) rfl (fun K hK => ?a1_5) AllReadyH.nil))
      case a1_3 =>
        go_simp
        go_at_call 59
        refine (padding_any n _ (by omega)).mono ?_
        rintro e wa1 ⟨va1, rfl, hon, hb⟩
        have D1p := Lib.hid (HDd.out.step hb)
        have P1 := Lib.hid hon.rn
        clear hon hb
        refine hK.out _ _ D1p.out.box (fun hH1 => ?_)
        clear hK K
        (try simp only [Act.put, List.setIfInBounds_toArray, List.set_cons_zero, List.set_cons_succ])
        refine wpAnyH_ready (rs := [4, 5]) (by kernel_rfl) (by simp) (AllReadyH.cons (o := { dst := some 12, op := _, type := _, pos := _, after := _, guard := _ }) rfl (fun K hK => ?a2_4) (AllReadyH.cons (o := { dst := some 3, op := _, type := _, pos := _, after := _, guard := _ }) rfl (fun K hK => ?a2_5) AllReadyH.nil))
        case a2_4 =>
          go_simp
          go_at_call 42
          refine (with_any m (padL n) n st last va1 _ HR.out P1.out (padL_bb n) (by have := padL_le n; omega) (HVK.out.below D1p.out.bel)).mono ?_
          rintro e wb2 ⟨n2, st2, last2, rfl, hr2, hb⟩
          have D2w := Lib.hid (D1p.out.step hb)
          have R2 := Lib.hid hr2
          clear hr2 hb
          refine hK.out _ _ D2w.out.box (fun hH2 => ?_)
          clear hK K
          (try simp only [Act.put, List.setIfInBounds_toArray, List.set_cons_zero, List.set_cons_succ])
          refine wpAnyH_ready (rs := [5]) (by kernel_rfl) (by simp) (AllReadyH.cons (o := { dst := some 3, op := _, type := _, pos := _, after := _, guard := _ }) rfl (fun K hK => ?a3_5) AllReadyH.nil)
          case a3_5 =>
            go_simp
            refine hK.out _ _ (D2w.out.step (bl_self _ _)).box (fun hH3 => ?_)
            have D3a := Lib.hid (D2w.out.step (bl_self _ (.cells (tV 0 (List.replicate 8 0) (List.replicate 64 0)) 75)))
            have G3a := Lib.hid (AR.made wb2 75 (tV 0 (List.replicate 8 0) (List.replicate 64 0)))
            have N3a : Hid (w.heap.size + 1 < wb2.heap.size) := Lib.hid D2w.out.res.inside
            clear hK K
            (try simp only [Act.put, List.setIfInBounds_toArray, List.set_cons_zero, List.set_cons_succ])
            refine wpAnyH_ready (rs := [6]) (by kernel_rfl) (by simp) (AllReadyH.cons (o := { dst := none, op := _, type := _, pos := _, after := _, guard := _ }) rfl (fun K hK => ?a4_6) AllReadyH.nil)
            case a4_6 =>
              rw [if_pos (by rfl)]
              refine wp_store_row 75 (.tmp 3) (.tmp 12) rfl wb2.heap.size (tV n2 st2 last2) rfl rfl 75 (tV 0 (List.replicate 8 0) (List.replicate 64 0)) G3a.out (info73 R2.out.st8 R2.out.len) (by rw [tV_size n2 R2.out.st8 R2.out.len]; rfl) (tV_one _ _ _) ?_
              refine hK.out _ _ (D3a.out.box.apart (by have := N3a.out; omega) _) (fun hH4 => ?_)
              clear hK K
              refine wpAnyH_done (by kernel_rfl) ?_ _
              go_wp2_with fail
              go_meet
              case rel => exact Lib.hid ⟨wb2.heap.size, n2, st2, last2, rfl, G3a.out.row _, by have := R2.out; rw [HR.out.size] at this; exact this, D3a.out.res.apart (by have := N3a.out; omega) _, bl_row _ D3a.out.bel (by have := N3a.out; omega)⟩
        case a2_5 =>
          go_simp
          refine hK.out _ _ (D1p.out.step (bl_self _ _)).box (fun hH2 => ?_)
          have D2a := Lib.hid (D1p.out.step (bl_self _ (.cells (tV 0 (List.replicate 8 0) (List.replicate 64 0)) 75)))
          have G2a := Lib.hid (AR.made wa1 75 (tV 0 (List.replicate 8 0) (List.replicate 64 0)))
          have N2a : Hid (w.heap.size + 1 < wa1.heap.size) := Lib.hid D1p.out.res.inside
          have P2a := Lib.hid (P1.out.later (bl_self _ (.cells (tV 0 (List.replicate 8 0) (List.replicate 64 0)) 75)))
          clear hK K
          (try simp only [Act.put, List.setIfInBounds_toArray, List.set_cons_zero, List.set_cons_succ])
          refine wpAnyH_ready (rs := [4]) (by kernel_rfl) (by simp) (AllReadyH.cons (o := { dst := some 12, op := _, type := _, pos := _, after := _, guard := _ }) rfl (fun K hK => ?a5_4) AllReadyH.nil)
          case a5_4 =>
            go_simp
            go_at_call 42
            refine (with_any m (padL n) n st last va1 _ HR.out P2a.out (padL_bb n) (by have := padL_le n; omega) (HVK.out.below D2a.out.bel)).mono ?_
            rintro e wb5 ⟨n2, st2, last2, rfl, hr2, hb⟩
            have D5w := Lib.hid (D2a.out.step hb)
            have R5 := Lib.hid hr2
            have G5w := Lib.hid (G2a.out.step hb)
            clear hr2 hb
            refine hK.out _ _ D5w.out.box (fun hH5 => ?_)
            clear hK K
            (try simp only [Act.put, List.setIfInBounds_toArray, List.set_cons_zero, List.set_cons_succ])
            refine wpAnyH_ready (rs := [6]) (by kernel_rfl) (by simp) (AllReadyH.cons (o := { dst := none, op := _, type := _, pos := _, after := _, guard := _ }) rfl (fun K hK => ?a6_6) AllReadyH.nil)
            case a6_6 =>
              rw [if_pos (by rfl)]
              refine wp_store_row 75 (.tmp 3) (.tmp 12) rfl wa1.heap.size (tV n2 st2 last2) rfl rfl 75 (tV 0 (List.replicate 8 0) (List.replicate 64 0)) G5w.out (info73 R5.out.st8 R5.out.len) (by rw [tV_size n2 R5.out.st8 R5.out.len]; rfl) (tV_one _ _ _) ?_
              refine hK.out _ _ (D5w.out.box.apart (by have := N2a.out; omega) _) (fun hH6 => ?_)
              clear hK K
              refine wpAnyH_done (by kernel_rfl) ?_ _
              go_wp2_with fail
              go_meet
              case rel => exact Lib.hid ⟨wa1.heap.size, n2, st2, last2, rfl, G5w.out.row _, by have := R5.out; rw [HR.out.size] at this; exact this, D5w.out.res.apart (by have := N2a.out; omega) _, bl_row _ D5w.out.bel (by have := N2a.out; omega)⟩
      case a1_5 =>
        go_simp
        refine hK.out _ _ (HDd.out.step (bl_self _ _)).box (fun hH1 => ?_)
        have D1a := Lib.hid (HDd.out.step (bl_self _ (.cells (tV 0 (List.replicate 8 0) (List.replicate 64 0)) 75)))
        have G1a := Lib.hid (AR.made wc.drew 75 (tV 0 (List.replicate 8 0) (List.replicate 64 0)))
        have N1a : Hid (w.heap.size + 1 < wc.drew.heap.size) := Lib.hid HDd.out.res.inside
        clear hK K
        (try simp only [Act.put, List.setIfInBounds_toArray, List.set_cons_zero, List.set_cons_succ])
        refine wpAnyH_ready (rs := [3]) (by kernel_rfl) (by simp) (AllReadyH.cons (o := { dst := some 11, op := _, type := _, pos := _, after := _, guard := _ }) rfl (fun K hK => ?a7_3) AllReadyH.nil)
        case a7_3 =>
          go_simp
          go_at_call 59
          refine (padding_any n _ (by omega)).mono ?_
          rintro e wa7 ⟨va7, rfl, hon, hb⟩
          have D7p := Lib.hid (D1a.out.step hb)
          have P7 := Lib.hid hon.rn
          have G7p := Lib.hid (G1a.out.step hb)
          clear hon hb
          refine hK.out _ _ D7p.out.box (fun hH7 => ?_)
          clear hK K
          (try simp only [Act.put, List.setIfInBounds_toArray, List.set_cons_zero, List.set_cons_succ])
          refine wpAnyH_ready (rs := [4]) (by kernel_rfl) (by simp) (AllReadyH.cons (o := { dst := some 12, op := _, type := _, pos := _, after := _, guard := _ }) rfl (fun K hK => ?a8_4) AllReadyH.nil)
          case a8_4 =>
            go_simp
            go_at_call 42
            refine (with_any m (padL n) n st last va7 _ HR.out P7.out (padL_bb n) (by have := padL_le n; omega) (HVK.out.below D7p.out.bel)).mono ?_
            rintro e wb8 ⟨n2, st2, last2, rfl, hr2, hb⟩
            have D8w := Lib.hid (D7p.out.step hb)
            have R8 := Lib.hid hr2
            have G8w := Lib.hid (G7p.out.step hb)
            clear hr2 hb
            refine hK.out _ _ D8w.out.box (fun hH8 => ?_)
            clear hK K
            (try simp only [Act.put, List.setIfInBounds_toArray, List.set_cons_zero, List.set_cons_succ])
            refine wpAnyH_ready (rs := [6]) (by kernel_rfl) (by simp) (AllReadyH.cons (o := { dst := none, op := _, type := _, pos := _, after := _, guard := _ }) rfl (fun K hK => ?a9_6) AllReadyH.nil)
            case a9_6 =>
              rw [if_pos (by rfl)]
              refine wp_store_row 75 (.tmp 3) (.tmp 12) rfl wc.drew.heap.size (tV n2 st2 last2) rfl rfl 75 (tV 0 (List.replicate 8 0) (List.replicate 64 0)) G8w.out (info73 R8.out.st8 R8.out.len) (by rw [tV_size n2 R8.out.st8 R8.out.len]; rfl) (tV_one _ _ _) ?_
              refine hK.out _ _ (D8w.out.box.apart (by have := N1a.out; omega) _) (fun hH9 => ?_)
              clear hK K
              refine wpAnyH_done (by kernel_rfl) ?_ _
              go_wp2_with fail
              go_meet
              case rel => exact Lib.hid ⟨wc.drew.heap.size, n2, st2, last2, rfl, G8w.out.row _, by have := R8.out; rw [HR.out.size] at this; exact this, D8w.out.res.apart (by have := N1a.out; omega) _, bl_row _ D8w.out.bel (by have := N1a.out; omega)⟩
    case rest =>
      obtain ⟨g, n2, st2, last2, rfl, hg, hr, hres, hbel⟩ := hcut
      rename_i wd _
      have h8 := Lib.hid hr.st8; have h64 := Lib.hid hr.len; have HG := Lib.hid hg; have HW2 := Lib.hid hr.ww
      obtain ⟨T, hT⟩ : ∃ T, digL st2 = T := ⟨_, rfl⟩
      have HTS : Hid (T = shaL m) := Lib.hid (by rw [← hT]; exact hr.whole)
      have HT := Lib.hid hT
      have HTL : Hid (T.length = 32) := Lib.hid (by rw [← hT]; exact digL_len hr.st8)
      have HRES := Lib.hid hres; have HBEL := Lib.hid hbel
      clear hg hr hres hbel hT
      obtain ⟨d, hd⟩ : ∃ d, wc.heap.size = d := ⟨_, rfl⟩
      have HBS : Hid (DgB w d (List.replicate 32 0) (wc.alloc (.cells (yV (List.replicate 32 0)) 36))) := Lib.hid (DgB.start hd rfl HRES.out HBEL.out)
      go_wp2_with ((with_reducible refine atOp ⟨some 14, _, _, _, _, _⟩ ?_); refine wpList_load_at rfl 70 (.tmp 13) rfl g 1 8 rfl 75 (tL n2 st2 last2) (uL st2) _ (AR.more HG.out _) (tL_st n2 h8.out) (by rw [uL_len]; exact h8.out) Tryd.underlying70 rfl (by kernel_rfl) ?_)
      clear hd
      go_loopw [15] (fun t wr => ∃ i : Nat, i ≤ 8 ∧ t = .int .i64 i ∧ Hid (DgB w d (mix T (List.replicate 32 0) (4 * i)) wr)) (fun t _ => 8 - (intOf t).toNat)
      case atStart => exact ⟨0, by omega, rfl, HBS⟩
      case round =>
        obtain ⟨i, hi, rfl, HB⟩ := hrel
        obtain ⟨wo, rfl⟩ : ∃ wo : World, wo = wr := ⟨_, rfl⟩
        by_cases hlt : i < 8
        · obtain ⟨x, hx⟩ : ∃ x, st2.getD i 0 = x := ⟨_, rfl⟩
          have ix : ∀ w, (Instr.index 70 (.agg (uL st2).toArray) (.int .i64 i)).run Tryd.prog w = .ok (.int .u32 x) w := by rw [← hx]; exact index8 st2 h8.out i hlt
          have HXX : Hid (∀ j, j < 4 → T.getD (4 * i + j) 0 = x / 2 ^ (24 - 8 * j) % 256) := Lib.hid (fun j hj => by rw [← HT.out, ← hx]; exact digL_get h8.out hlt hj)
          clear hx
          go_wp2_with fail
          go_loopw [19] (fun t wr => ∃ j : Nat, j ≤ 4 ∧ t = .int .i64 j ∧ Hid (DgB w d (mix T (List.replicate 32 0) (4 * i + j)) wr)) (fun t _ => 4 - (intOf t).toNat)
          case atStart => exact ⟨0, by omega, rfl, HB⟩
          case round =>
            obtain ⟨j, hj, rfl, HC⟩ := hrel
            by_cases hlt2 : j < 4
            · obtain ⟨p, hp⟩ : ∃ p : Nat, p = 4 * i + j := ⟨_, rfl⟩
              obtain ⟨c, hc⟩ : ∃ c : Nat, c = 24 - 8 * j := ⟨_, rfl⟩
              have ep : (4 * (i : Int) + (j : Int)) = (p : Int) := by omega
              have ec : (24 - 8 * (j : Int)) = (c : Int) := by omega
              have rp : (p : Int) < 32 := by omega
              have rc : c ≤ 24 := by omega
              have hcell := HC.out.row.at (i := p) (v := .int .u8 0) (yV_get (by rw [hp]; exact mix_hole HTL.out (by omega)))
              have hfr := HC.out.row.free p
              have HP := Lib.hid hp; have HCC := Lib.hid hc
              clear hp hc
              go_wp2_with fail
              go_roundw
              case rel => exact ⟨j + 1, by omega, by go_num, Lib.hid (by
                rw [show (x : Int) / 2 ^ c % 256 = ((x / 2 ^ c % 256 : Nat) : Int) by push_cast; rfl]
                have := HC.out.put p (x / 2 ^ c % 256)
                rw [HP.out, mix_step HTL.out (by omega) (by rw [HCC.out]; exact HXX.out j hlt2)] at this
                rw [HP.out]
                exact this)⟩
              case measure => simp [intOf]; omega
            · have HJ : Hid (j = 4) := Lib.hid (by omega)
              replace HC : Hid (DgB w d (mix T (List.replicate 32 0) (4 * (i + 1))) wr) := Lib.hid (by have := HC.out; rw [HJ.out, show 4 * i + 4 = 4 * (i + 1) by omega] at this; exact this)
              go_wp2_with fail
              go_roundw
              case rel => exact ⟨i + 1, by omega, by go_num, HC⟩
              case measure => simp [intOf]; omega
        · have HI : Hid (i = 8) := Lib.hid (by omega)
          replace HB : Hid (DgB w d T wo) := Lib.hid (by have := HB.out; rw [HI.out, mix_full HTL.out (by simp)] at this; exact this)
          go_wp2_with (first
            | ((with_reducible refine atOp ⟨some 35, _, _, _, _, _⟩ ?_); refine wpList_load_row rfl 36 _ rfl d rfl 36 (yV T) (0, 0) _ HB.out.row Tryd.underlying36 rfl (info32 T HTL.out) ?_)
            | ((with_reducible refine atOp ⟨none, .store 36 _ _, _, _, _, _⟩ ?_); refine wpList_store_row rfl 36 (.tmp 2) (.tmp 35) rfl (w.heap.size + 1) (yV T) rfl rfl 36 (yV (List.replicate 32 0)) HB.out.res (info32 T HTL.out) (by rw [yV_size, yV_size, HTL.out]; rfl) (yV_one _) ?_))
          refine bodyPost_ret (v := .agg (yV T)) (results_cell_row Tryd.results43 _ _ (w.heap.size + 1) 36 _ (0, 0) _ rfl (HB.out.res.row _) Tryd.underlying36 rfl (info32 T HTL.out)) rfl ⟨by rw [HTS.out], bl_row _ HB.out.bel (by omega)⟩

/-! ### Sum -/
theorem Rep0 : Rep [] 0 hL (List.replicate 64 0) := Rep.nil
set_option maxRecDepth 20000 in
set_option maxHeartbeats 2000000 in
theorem sum_any (xs : List Nat) (v : Value) (w : World) (hv : RN w v xs) (hb : BB xs) (hsz : xs.length ≤ 1000000) (hV : VK w) : Calls Tryd.prog 34 #[v] w (Gives w (.agg (yV (shaL xs)))) := by
  have HVV := Lib.hid hv; have HBB := Lib.hid hb; have HVK := Lib.hid hV
  clear hv hb hV
  have HB0 : Hid (Below w.heap.size w (w.alloc (.cells (yV (List.replicate 32 0)) 36))) := Lib.hid (bl_self _ _)
  have HR0 : Hid (AR (w.alloc (.cells (yV (List.replicate 32 0)) 36)) w.heap.size 36 (yV (List.replicate 32 0))) := Lib.hid (AR.made _ _ _)
  go_enter Tryd.func34, Tryd.ntmps34
  go_wp2_with (first
    | (go_at_call 40; refine (nothing_any _ (HVK.out.below HB0.out)).mono ?_; rintro e w1 ⟨rfl, hb⟩; have HB1 := Lib.hid (bl_call HB0.out hb); have HR1 := Lib.hid (HR0.out.step hb); clear hb)
    | (go_at_call 42; refine (with_any [] xs 0 hL (List.replicate 64 0) v _ Rep0 (HVV.out.later HB1.out) HBB.out (by simp; omega) (HVK.out.below HB1.out)).mono ?_; rintro e w2 ⟨n2, st2, last2, rfl, hr, hb⟩; have HRP : Hid (Rep xs n2 st2 last2) := Lib.hid hr; have HB2 := Lib.hid (bl_call HB1.out hb); have HR2 := Lib.hid (HR1.out.step hb); clear hr hb)
    | (go_at_call 43; refine (digest_any xs n2 st2 last2 _ HRP.out (by omega) (HVK.out.below HB2.out)).mono ?_; rintro e w3 ⟨rfl, hb⟩; have HB3 := Lib.hid (bl_call HB2.out hb); have HR3 := Lib.hid (HR2.out.step hb); clear hb)
    | ((with_reducible refine atOp ⟨none, .store 36 _ _, _, _, _, _⟩ ?_); refine wpList_store_row rfl 36 (.tmp 2) (.tmp 6) rfl w.heap.size (yV (shaL xs)) rfl rfl 36 (yV (List.replicate 32 0)) HR3.out (info32 _ (shaL_len _)) (by rw [yV_size, yV_size, shaL_len]; rfl) (yV_one _) ?_))
  refine bodyPost_ret (v := .agg (yV (shaL xs))) (results_cell_row Tryd.results34 _ _ w.heap.size 36 _ (0, 0) _ rfl (HR3.out.row _) Tryd.underlying36 rfl (info32 _ (shaL_len _))) rfl ⟨rfl, bl_row _ HB3.out (by omega)⟩
end Go.Proofs.YtaeicjgkoofmpaaDoor
