/- words.expand, ParseList. -/
import Derived.Test.YtdcjnklagklckaaDoorParseE
import Derived.Test.YtdcjnklagklckaaDoorWordsW
import Derived.Test.YtdcjnklagklckaaDoorWordsY
namespace Go.Proofs.YtdcjnklagklckaaDoor
open Go.RowKit Go.Shelf
set_option linter.unusedVariables false
attribute [local go_sem] Oper.semAt_some

/-- What expand makes of what the iterator yields; acc: the numbers so far. -/
def expY : List Int → List RY → Option (List Int)
  | acc, [] => some acc
  | acc, x :: r => if 500 ≤ (intSp x.2.1.data.toList 0 1000000000).1 - (intSp x.1.data.toList 0 1000000000).1 + acc.length then none
    else expY (acc ++ upTo (intSp x.1.data.toList 0 1000000000).1 (intSp x.2.1.data.toList 0 1000000000).1) r
theorem expY_go : ∀ (ps : List (List UInt8)) (acc : List Int), (∀ p ∈ ps, (readR p).isSome = true) → expY acc (runsGo ps) = expGo acc ps
  | [], _, _ => rfl
  | p :: ps, acc, hp => by
    rw [runsGo, expGo]
    cases h : readR p with
    | none => have := hp p (by simp); rw [h] at this; cases this
    | some ab =>
      obtain ⟨a, b⟩ := ab
      have e : rrOf p = (⟨a.toArray⟩, ⟨b.toArray⟩, true) := by unfold rrOf; rw [h]
      rw [e]
      simp only [if_true, expY]
      rw [expY_go ps _ (fun q hq => hp q (by simp [hq]))]
theorem chk_some : ∀ (ps : List (List UInt8)) (g z : List UInt8), chkGo g ps = some z → ∀ p ∈ ps, (readR p).isSome = true
  | [], _, _, _, p, hp => by cases hp
  | q :: ps, g, z, h, p, hp => by
    rw [chkGo] at h
    cases hr : readR q with
    | none => rw [hr] at h; cases h
    | some ab =>
      obtain ⟨a, b⟩ := ab
      rw [hr] at h
      simp only at h
      split at h
      · cases h
      · rcases List.mem_cons.1 hp with rfl | hp
        · rw [hr]; rfl
        · exact chk_some ps b z h p hp
theorem upTo_snoc (x y : Int) (h : x ≤ y) : upTo x y = upTo x (y - 1) ++ [y] := by
  unfold upTo
  rw [show (y + 1 - x).toNat = (y - 1 + 1 - x).toNat + 1 by omega, List.range_succ, List.map_append]
  congr 1
  simp; omega
theorem upTo_none (x y : Int) (h : y < x) : upTo x y = [] := by
  unfold upTo; rw [show (y + 1 - x).toNat = 0 by omega]; rfl
theorem upTo_length (x y : Int) : (upTo x y).length = (y + 1 - x).toNat := by simp [upTo]
theorem intSp_bd (l : List UInt8) : 0 ≤ (intSp l 0 1000000000).1 ∧ (intSp l 0 1000000000).1 ≤ 1000000000 := by
  unfold intSp; split
  · split <;> simp <;> omega
  · simp
def icells (ns : List Int) : List Value := ns.map fun n => .int .i64 n
theorem icells_snoc (ns : List Int) (n : Int) : icells (ns ++ [n]) = icells ns ++ [.int .i64 n] := by simp [icells]
theorem info_int : (Tryd.prog.info? 3).map (fun i => (i.zero, i.size, i.bytes)) = some (some (.int .i64 0), 1, 8) := by kernel_rfl

/-- What expand's own blocks hold between two rounds. -/
structure ECore (N : Nat) (w : World) (pre : List RunB) (W : World) : Prop where
  ex : ∃ (v : Value) (acc : List Int), W.heap[N + 1 + 1]? = some (.cells #[v] 40 (0, 0)) ∧ W.ownsRow (N + 7) 3 1 v acc.length (icells acc) ∧ acc.length ≤ 500 ∧ ∀ rest, expY [] (pre.map (·.1) ++ rest) = expY acc rest
  r2 : W.heap[N]? = some (.cells #[.slice none 0 0] 40 (0, 0))
  r3 : W.heap[N + 1]? = some (.cells #[.int .i64 0] 23 (0, 0))
  bel : Below N w W
theorem ECore.keep {N : Nat} {w : World} {pre : List RunB} {W W' : World} {row : Option Nat} (h : ECore N w pre W) (hg : W.grownBy W' row) (hr : ∀ r, row = some r → N + 4 ≤ r ∧ (r = N + 6 ∨ ∃ o : Obj, W.heap[r]? = some o ∧ o.isCells = false)) : ECore N w pre W' := by
  obtain ⟨v, acc, h1, h2, h2b, h2c⟩ := h.ex
  have blk : ∀ (k : Nat) (o : Obj), W.heap[k]? = some o → k < N + 4 → W'.heap[k]? = some o := fun k o hk hlt =>
    (hg.block k (Array.getElem?_eq_some_iff.1 hk).1 (fun e => by have := (hr _ e.symm).1; omega)).trans hk
  refine ⟨⟨v, acc, blk _ _ h1 (by omega), h2.kept hg ?_, h2b, h2c⟩, blk _ _ h.r2 (by omega), blk _ _ h.r3 (by omega), h.bel.grown hg (by have := (Array.getElem?_eq_some_iff.1 h.r3).1; omega) (fun k e => by have := (hr _ e).1; omega)⟩
  rcases hv : v.ownBlock with _ | g
  · exact .inl rfl
  · refine .inr fun e => ?_
    have h7 := (h2.lt g hv).1
    rcases (hr g e.symm).2 with h6 | ⟨o, ho, hc⟩
    · omega
    · rcases h2 with ⟨_, ⟨rfl, _⟩ | ⟨g', cap, cur, rfl, _, hcells, _⟩⟩
      · cases hv
      · cases hv; rw [hcells] at ho; cases ho; cases hc

def EIx (N : Nat) (w : World) (c : Code) (pre : List RunB) (W : World) : Prop := c = .ret ∧ (∀ rest, expY [] (pre.map (·.1) ++ rest) = none) ∧
  W.heap[N]? = some (.cells #[.slice none 0 0] 40 (0, 0)) ∧ W.heap[N + 1]? = some (.cells #[.int .i64 3] 23 (0, 0)) ∧ Below N w W
theorem EIx.keep {N : Nat} {w : World} {c : Code} {pre : List RunB} {W W' : World} {row : Option Nat} (h : EIx N w c pre W) (hg : W.grownBy W' row) (hr : ∀ r, row = some r → N + 4 ≤ r) : EIx N w c pre W' := by
  obtain ⟨h1, h2, h3, h4, h5⟩ := h
  have blk : ∀ (k : Nat) (o : Obj), W.heap[k]? = some o → k < N + 4 → W'.heap[k]? = some o := fun k o hk hlt =>
    (hg.block k (Array.getElem?_eq_some_iff.1 hk).1 (fun e => by have := hr _ e.symm; omega)).trans hk
  exact ⟨h1, h2, blk _ _ h3 (by omega), blk _ _ h4 (by omega), h5.grown hg (by have := (Array.getElem?_eq_some_iff.1 h4).1; omega) (fun k e => by have := hr _ e; omega)⟩
/-- What expand returns. -/
def expOf (l : List UInt8) : List Int × Int := match expY [] (runsY l) with
  | some ns => (ns, 0)
  | none => ([], 3)
def ExpPost (l : List UInt8) (w : World) (e : Ending) (w' : World) : Prop := ∃ v, e = .returned (.tuple #[v, .int .i64 (expOf l).2]) ∧ ISl w' v (expOf l).1 ∧ Below w.heap.size w w'
theorem ISl_of_row {B : Nat} {W : World} {v : Value} {ns : List Int} (h : W.ownsRow B 3 1 v ns.length (icells ns)) : ISl W v ns := by
  rcases h with ⟨hl, ⟨rfl, hn⟩ | ⟨g, cap, cur, rfl, hg, hc, hm, h3, h4, h5⟩⟩
  · exact .inl ⟨rfl, List.eq_nil_of_length_eq_zero hn⟩
  · refine .inr ⟨g, 0, cap, rfl, (Array.getElem?_eq_some_iff.1 hc).1, by omega, fun i hi => ?_⟩
    have hq : (icells ns)[i]? = some (.int .i64 ns[i]) := by unfold icells; rw [List.getElem?_map, List.getElem?_eq_getElem hi]; rfl
    rw [← h5, List.getElem?_take_of_lt (by omega), Array.getElem?_toList] at hq
    rw [cell_of_row W g _ cur _ _ hc, Nat.zero_add]; exact hq

/-- What is known within a round: the numbers a, a + 1, .. so far. -/
structure InnC (N : Nat) (w w4 W : World) (acc : List Int) (a : Int) (j : Nat) (v' : Value) (wr : World) : Prop where
  kp : KeepsOthers W wr
  blw : Below N W wr
  bx : wr.heap[w4.heap.size + 2]? = W.heap[w4.heap.size + 2]?
  cell : wr.heap[N + 1 + 1]? = some (.cells #[v'] 40 (0, 0))
  row : wr.ownsRow (N + 7) 3 1 v' (acc.length + j) (icells (acc ++ upTo a (a + (j : Int) - 1)))
  r2 : wr.heap[N]? = some (.cells #[.slice none 0 0] 40 (0, 0))
  r3 : wr.heap[N + 1]? = some (.cells #[.int .i64 0] 23 (0, 0))
  bel : Below N w wr

set_option maxRecDepth 100000 in
set_option maxHeartbeats 8000000 in
theorem exp_in (s : ByteArray) (w : World) (hs : s.size ≤ 1048576) (hM : MaxAt w) (hE : ∃ tp p, w.var? Tryd.prog "strconv.ErrRange" = some #[.iface tp p]) :
    CallsIn Fence.wide 5 Tryd.prog 56 #[.string s] w (ExpPost s.data.toList w) := by
  obtain ⟨i0, hi, hz0, hz1, hz2⟩ := info_parts info_int
  refine callsIn_of_wp_marks Tryd.func56 rfl trivial ?_ rfl
  simp only [Tryd.ntmps56, List.size_toArray, List.length_cons, List.length_nil, Nat.reduceAdd, Nat.reduceSub, Array.replicate_succ, Array.replicate_zero, List.push_toArray, List.append_toArray, List.nil_append, List.cons_append]
  gi_wp2_with (refine ⟨trivial, ?_⟩; gi_at_call 77; refine (callsIn_wide.2 (runsOf_any _ _)).mono ?_; rintro e w' ⟨rfl, rfl⟩)
  obtain ⟨w4, hw4⟩ : ∃ w4, (((w.alloc (.cells #[.slice none 0 0] 40)).alloc (.cells #[.int .i64 0] 23)).alloc (.cells #[.slice none 0 0] 40)).alloc (.cells #[.string s] 9) = w4 := ⟨_, rfl⟩
  have hsz : w4.heap.size = w.heap.size + 4 := by rw [← hw4]; simp
  have hb4 : Below w.heap.size w w4 := by rw [← hw4]; exact bl_alloc _ (bl_alloc _ (bl_alloc _ (bl_alloc _ (Below.refl _ _))))
  have hcs : w4.cell? ⟨w.heap.size + 1 + 1 + 1, 0, none⟩ = some (.string s) := by rw [← hw4, World.cell?_alloc_at _ _ _ _ (by simp)]; rfl
  have hcore : ECore w.heap.size w [] w4 := by
    refine ⟨⟨.slice none 0 0, [], ?_, World.ownsRow_nil _ _ _ _, by simp, fun rest => rfl⟩, ?_, ?_, hb4⟩
    · rw [← hw4, Below.heap_alloc _ _ _ (by simp <;> omega)]; have := heap_alloc_new ((w.alloc (.cells #[.slice none 0 0] 40)).alloc (.cells #[.int .i64 0] 23)) (.cells #[.slice none 0 0] 40); simpa using this
    · rw [← hw4, Below.heap_alloc _ _ _ (by simp <;> omega), Below.heap_alloc _ _ _ (by simp <;> omega), Below.heap_alloc _ _ _ (by simp <;> omega)]; exact heap_alloc_new w _
    · rw [← hw4, Below.heap_alloc _ _ _ (by simp <;> omega), Below.heap_alloc _ _ _ (by simp <;> omega)]; have := heap_alloc_new (w.alloc (.cells #[.slice none 0 0] 40)) (.cells #[.int .i64 0] 23); simpa using this
  rw [hw4]
  clear hw4
  have hM4 := hM.below hb4
  have hlt : 4 < w.heap.size := by obtain ⟨m, h⟩ := hM; exact cell_lt h
  have HEE := Lib.hid hE; clear hE
  have hrl := runsY_len s.data.toList
  rw [len_data] at hrl
  refine wpIn_rangeFunc_box (w0 := w4) rfl (by omega) (gf := 99) (lb := #[.pointer (some ⟨w.heap.size + 1 + 1 + 1, 0, none⟩)]) rfl trivial (enters_of Tryd.func99 (by kernel_rfl) rfl)
    (runs1_box 4 (w.heap.size + 1 + 1 + 1) w.heap.size s w4 hs hcs (by omega) hM4 hlt (by omega)) (by omega) (Below.refl _ _) (fun _ => rfl)
    (ECore w.heap.size w) (EIx w.heap.size w) ?hI ?hIx ?hIb ?hIxb hcore
    (fun x a' W => ∃ Bx, a' = { tmps := #[.string s, undef, .pointer (some ⟨w.heap.size, 0, none⟩), .pointer (some ⟨w.heap.size + 1, 0, none⟩), .pointer (some ⟨w.heap.size + 1 + 1, 0, none⟩), .pointer (some ⟨Bx, 0, none⟩), undef, undef, undef, undef, undef, .string s, .func (.func 99) #[] #[.pointer (some ⟨w.heap.size + 1 + 1 + 1, 0, none⟩)], .agg #[.string x.1.1, .string x.1.2.1], .bool x.1.2.2, undef, undef, undef, undef, undef, undef, undef, undef, undef, undef, undef, undef, undef, undef, undef, undef, undef, undef, undef, undef, undef, undef, undef, undef, undef, undef, undef, undef, undef, undef], defers := [] } ∧ w.heap.size + 7 ≤ Bx ∧ W.heap[Bx]? = some (.cells #[.string x.1.1, .string x.1.2.1] 97 (0, 0))) ?hAx ?assign ?body ?done ?stop
  case hI => exact fun pre A C row h hgr hr => h.keep hgr (fun r e => by obtain ⟨h1, o, ho, hc⟩ := hr r e; exact ⟨by omega, .inr ⟨o, ho, hc⟩⟩)
  case hIx => exact fun c pre A C row h hgr hr => h.keep hgr (fun r e => by have := (hr r e).1; omega)
  case hIb => exact fun pre A C row h hgr hr => h.keep hgr (fun r e => by have := hr r e; exact ⟨by omega, .inl (by omega)⟩)
  case hIxb => exact fun c pre A C row h hgr hr => h.keep hgr (fun r e => by have := hr r e; omega)
  case hAx =>
    rintro x a' u A C row ⟨Bx, h1, h2, h3⟩ hgr hr
    refine ⟨Bx, h1, h2, (hgr.block Bx (Array.getElem?_eq_some_iff.1 h3).1 (fun e => ?_)).trans h3⟩
    obtain ⟨_, o, ho, hc⟩ := hr Bx e.symm
    rw [h3] at ho; cases ho; cases hc
  case assign =>
    intro l pre x W K hle hi hK
    gi_wp2
    refine hK _ _ ((KeepsOthers.alloc W _).from _) ⟨(Below.refl _ W).alloc (by omega) _, Below.heap_alloc W _ _ (by omega)⟩ (hi.keep (World.grownBy_alloc W _ none) (fun r e => by cases e)) ⟨W.heap.size, rfl, by omega, heap_alloc_new W _⟩
  case body =>
    rintro l pre ⟨⟨xa, xb, ok⟩, hxa, hxb⟩ a' W hle hcore ⟨Bx, rfl, hBx, hbx⟩ hlen
    dsimp only at hxa hxb hbx ⊢
    obtain ⟨v, acc, hv, hrow, hacc, hexp⟩ := hcore.ex
    obtain ⟨va, vc, rfl⟩ : ∃ a c, v = .slice a acc.length c := by
      rcases hrow with ⟨_, ⟨rfl, hn⟩ | ⟨g, cap, cur, rfl, _⟩⟩
      · exact ⟨none, 0, by rw [hn]⟩
      · exact ⟨_, _, rfl⟩
    obtain ⟨a, ha⟩ : ∃ a, (intSp xa.data.toList 0 1000000000).1 = a := ⟨_, rfl⟩
    obtain ⟨b, hb⟩ : ∃ b, (intSp xb.data.toList 0 1000000000).1 = b := ⟨_, rfl⟩
    obtain ⟨ea, hea⟩ : ∃ a, (intSp xa.data.toList 0 1000000000).2 = a := ⟨_, rfl⟩
    obtain ⟨eb, heb⟩ : ∃ b, (intSp xb.data.toList 0 1000000000).2 = b := ⟨_, rfl⟩
    have hab := intSp_bd xa.data.toList
    have hbb := intSp_bd xb.data.toList
    rw [ha] at hab; rw [hb] at hbb
    obtain ⟨ha0, ha1⟩ := hab
    obtain ⟨hb0, hb1⟩ := hbb
    have HEXP : Hid (∀ rest, expY [] ((pre ++ [(⟨(xa, xb, ok), hxa, hxb⟩ : RunB)]).map (·.1) ++ rest) = if 500 ≤ b - a + (acc.length : Int) then none else expY (acc ++ upTo a b) rest) := Lib.hid (fun rest => by
      rw [List.map_append, List.append_assoc, hexp, ← ha, ← hb]; rfl)
    have HI1 : Hid (∀ V, Below w.heap.size w V → Calls Tryd.prog 13 #[.string xa, .int .i64 0, .int .i64 1000000000] V fun e w' => e = .returned (.tuple #[.int .i64 a, .int .i64 ea]) ∧ Below V.heap.size V w') := Lib.hid (fun V hV => by
      refine (int_any xa 0 1000000000 V (by omega) (by omega) (by omega) (by obtain ⟨tp, p, h⟩ := HEE.out; exact ⟨tp, p, var_keep h hV⟩)).mono ?_
      rintro e w' ⟨rfl, h⟩; exact ⟨by rw [ha, hea], h⟩)
    have HI2 : Hid (∀ V, Below w.heap.size w V → Calls Tryd.prog 13 #[.string xb, .int .i64 0, .int .i64 1000000000] V fun e w' => e = .returned (.tuple #[.int .i64 b, .int .i64 eb]) ∧ Below V.heap.size V w') := Lib.hid (fun V hV => by
      refine (int_any xb 0 1000000000 V (by omega) (by omega) (by omega) (by obtain ⟨tp, p, h⟩ := HEE.out; exact ⟨tp, p, var_keep h hV⟩)).mono ?_
      rintro e w' ⟨rfl, h⟩; exact ⟨by rw [hb, heb], h⟩)
    obtain ⟨b0, b1, _, _⟩ := cell_of2 hbx
    have hBlt := (Array.getElem?_eq_some_iff.1 hbx).1
    have HV := Lib.hid hv; have HROW := Lib.hid hrow; have HC := Lib.hid hcore
    have HBL : Hid (Below W.heap.size W W) := Lib.hid (Below.refl _ _)
    have hNs : w.heap.size + 1 + 1 < W.heap.size := (Array.getElem?_eq_some_iff.1 hv).1
    have hNs1 : w.heap.size + 1 < W.heap.size := by omega
    have hNs0 : w.heap.size < W.heap.size := by omega
    clear hv hrow hexp hcore hbx ha hb hea heb
    by_cases hlong : 500 ≤ b - a + (acc.length : Int)
    case pos =>
      have HN : Hid (∀ rest, expY [] ((pre ++ [(⟨(xa, xb, ok), hxa, hxb⟩ : RunB)]).map (·.1) ++ rest) = none) := Lib.hid (fun rest => by rw [HEXP.out, if_pos hlong])
      have tok : True := trivial
      have HB0 : Hid (W.cell? ⟨Bx, 0, none⟩ = some (.string xa) ∧ W.cell? ⟨Bx, 1, none⟩ = some (.string xb)) := Lib.hid ⟨b0, b1⟩
      gi_wp2_with (first
        | (refine ⟨trivial, ?_⟩; gi_at_call 13; have _t := tok; refine (CallsIn.inRound l (callsIn_wide.2 (HI1.out _ HC.out.bel))).mono ?_; rintro e w1 ⟨rfl, hb⟩; have HB1 := Lib.hid hb; have b1' : w1.cell? ⟨Bx, 1, none⟩ = some (.string xb) := (hb.cell (p := ⟨Bx, 1, none⟩) hBlt).trans HB0.out.2; clear hb tok _t b0 b1)
        | (refine ⟨trivial, ?_⟩; gi_at_call 13; refine (CallsIn.inRound l (callsIn_wide.2 (HI2.out _ (HC.out.bel.trans (HB1.out.mono (by omega)))))).mono ?_; rintro e w2 ⟨rfl, hb⟩; have HB2 := Lib.hid (bl_call HB1.out hb); have cv : w2.cell? ⟨w.heap.size + 1 + 1, 0, none⟩ = some (.slice va acc.length vc) := (HB2.out.cell (p := ⟨_, 0, none⟩) hNs).trans (cell_of1 HV.out).1; obtain ⟨e2, e2f⟩ := cell_of1 (((HB2.out.block _ hNs0).trans HC.out.r2)); obtain ⟨e3, e3f⟩ := cell_of1 (((HB2.out.block _ hNs1).trans HC.out.r3)); clear hb b1'))
      have hK : KeepsOthers W w2 := KeepsOthers.of_grownBy (grow_none' HB2.out) (fun j o e _ => by cases e)
      have hG2 := (HB2.out.block _ hNs0).trans HC.out.r2
      have hG3 := (HB2.out.block _ hNs1).trans HC.out.r3
      have hbWN : Below w.heap.size W w2 := HB2.out.mono (by omega)
      exact ⟨(hK.trans ((KeepsOthers.setCell _ _ _).trans (KeepsOthers.setCell _ _ _))).from _, rfl, HN.out, heap_set_other (heap_set1 hG2 _) (by omega) _, heap_set1 (heap_set_other hG3 (by omega) _) _, ((HC.out.bel.trans hbWN).setCell (p := ⟨w.heap.size, 0, none⟩) (Nat.le_refl _) _).setCell (p := ⟨w.heap.size + 1, 0, none⟩) (by simp) _⟩
    case neg =>
      have HN : Hid (∀ rest, expY [] ((pre ++ [(⟨(xa, xb, ok), hxa, hxb⟩ : RunB)]).map (·.1) ++ rest) = expY (acc ++ upTo a b) rest) := Lib.hid (fun rest => by rw [HEXP.out, if_neg hlong])
      have tok : True := trivial
      have HB0 : Hid (W.cell? ⟨Bx, 0, none⟩ = some (.string xa) ∧ W.cell? ⟨Bx, 1, none⟩ = some (.string xb)) := Lib.hid ⟨b0, b1⟩
      gi_wp2_with (first
        | (refine ⟨trivial, ?_⟩; gi_at_call 13; have _t := tok; refine (CallsIn.inRound l (callsIn_wide.2 (HI1.out _ HC.out.bel))).mono ?_; rintro e w1 ⟨rfl, hb⟩; have HB1 := Lib.hid hb; have b1' : w1.cell? ⟨Bx, 1, none⟩ = some (.string xb) := (hb.cell (p := ⟨Bx, 1, none⟩) hBlt).trans HB0.out.2; clear hb tok _t b0 b1)
        | (refine ⟨trivial, ?_⟩; gi_at_call 13; refine (CallsIn.inRound l (callsIn_wide.2 (HI2.out _ (HC.out.bel.trans (HB1.out.mono (by omega)))))).mono ?_; rintro e w2 ⟨rfl, hb⟩; have HB2 := Lib.hid (bl_call HB1.out hb); have cv : w2.cell? ⟨w.heap.size + 1 + 1, 0, none⟩ = some (.slice va acc.length vc) := (HB2.out.cell (p := ⟨_, 0, none⟩) hNs).trans (cell_of1 HV.out).1; obtain ⟨e2, e2f⟩ := cell_of1 (((HB2.out.block _ hNs0).trans HC.out.r2)); obtain ⟨e3, e3f⟩ := cell_of1 (((HB2.out.block _ hNs1).trans HC.out.r3)); clear hb b1'))
      have hbWN : Below w.heap.size W w2 := HB2.out.mono (by omega)
      have hIC : InnC w.heap.size w w4 W acc a 0 (.slice va acc.length vc) w2 :=
        ⟨KeepsOthers.of_grownBy (grow_none' HB2.out) (fun j o e _ => by cases e), hbWN, HB2.out.block _ (by omega), (HB2.out.block _ hNs).trans HV.out, by
          rw [upTo_none a (a + ((0 : Nat) : Int) - 1) (by omega), List.append_nil]; exact row_below HROW.out HB2.out, (HB2.out.block _ hNs0).trans HC.out.r2, (HB2.out.block _ hNs1).trans HC.out.r3, HC.out.bel.trans hbWN⟩
      have HIC := Lib.hid hIC
      clear hIC hbWN cv e2 e2f e3 e3f
      gi_loopw [10] (fun n wr => ∃ (j : Nat) (v' : Value), n = .int .i64 (a + (j : Int)) ∧ (j = 0 ∨ a + (j : Int) ≤ b + 1) ∧ Hid (InnC w.heap.size w w4 W acc a j v' wr)) (fun n _ => (b + 1 - intOf n).toNat)
      case atStart => exact ⟨0, _, by simp, .inl rfl, HIC⟩
      case round =>
        clear HIC
        obtain ⟨j, v', rfl, hj, HI⟩ := hrel
        obtain ⟨c', hvv⟩ : ∃ x : Option Addr × Nat, v' = .slice x.1 (acc.length + j) x.2 := by
          rcases HI.out.row with ⟨_, ⟨rfl, hn⟩ | ⟨g, cap, cur, rfl, _⟩⟩
          · exact ⟨(none, 0), by rw [hn]⟩
          · exact ⟨(_, _), rfl⟩
        obtain ⟨a', c'⟩ := c'
        subst hvv
        by_cases hle2 : a + (j : Int) ≤ b
        case neg =>
          have hup : upTo a (a + (j : Int) - 1) = upTo a b ∧ (acc ++ upTo a b).length = acc.length + j := by
            refine ⟨?_, by rw [List.length_append, upTo_length]; omega⟩
            rcases hj with h0 | h0
            · rw [upTo_none a _ (by omega), upTo_none a b (by omega)]
            · rw [show a + (j : Int) - 1 = b by omega]
          have hrow := HI.out.row
          rw [hup.1] at hrow
          have hlen5 : (acc ++ upTo a b).length ≤ 500 := by rw [hup.2]; omega
          have HROW2 : Hid (wr.ownsRow (w.heap.size + 7) 3 1 (.slice a' (acc.length + j) c') (acc ++ upTo a b).length (icells (acc ++ upTo a b))) := Lib.hid (by rw [hup.2]; exact hrow)
          have HL5 := Lib.hid hlen5
          clear hup hrow hlen5
          gi_wp2
          exact ⟨HI.out.kp.from _, ⟨HI.out.blw, (by have := HI.out.bx; rw [hsz] at this; exact this)⟩, ⟨_, acc ++ upTo a b, HI.out.cell, HROW2.out, HL5.out, HN.out⟩, HI.out.r2, HI.out.r3, HI.out.bel⟩
        case pos =>
          obtain ⟨cl, fl⟩ := cell_of1 HI.out.cell
          have hrow := HI.out.row
          have hNr : w.heap.size + 1 + 1 < wr.heap.size := (Array.getElem?_eq_some_iff.1 HI.out.cell).1
          have hWr : W.heap.size ≤ wr.heap.size := HI.out.kp.1
          have hj5 : acc.length + j < 500 := by omega
          have blk : ∀ w5, (wr.alloc (.cells #[.int .i64 (a + (j : Int))] 3)).grownBy w5 (Value.slice a' (acc.length + j) c').ownBlock → ∀ (k : Nat) (o : Obj), wr.heap[k]? = some o → k < w.heap.size + 7 → w5.heap[k]? = some o := fun w5 hgr k o hk hlt => by
            have hks := (Array.getElem?_eq_some_iff.1 hk).1
            exact (hgr.block k (by simp; omega) (fun e => by have := (hrow.lt k e.symm).1; omega)).trans ((Below.heap_alloc _ _ _ hks).trans hk)
          have BLK := Lib.hid blk; have HRW := Lib.hid hrow
          clear blk hrow
          gi_wp2_with (gi_at_builtin; refine wpListIn_append_own _ rfl _ _ 40 rfl (w.heap.size + 7) 3 i0 (.int .i64 0) 1 8 Tryd.underlying40 hi hz0 hz1 hz2 rfl (by decide) _ _ _ rfl (HRW.out.alloc _) ⟨wr.heap.size, 0, none⟩ 1 1 [.int .i64 (a + (j : Int))] rfl rfl (cells_new _ _ [_]) (by simp [Value.oneCell']) (by unfold maxLen; omega) (by omega) (by simp; omega) ?_; intro v5 w5 hown' hgrow _; obtain ⟨g', cap', rfl⟩ := ownsRow_succ hown'; obtain ⟨cl1, fl1⟩ := cell_of1 (BLK.out w5 hgrow _ _ HI.out.cell (by omega)); have HOWN := Lib.hid hown'; have HGROW := Lib.hid hgrow; clear hown' hgrow)
          go_roundw
          case rel =>
            have hgrow := HGROW.out
            have hg7 : w.heap.size + 7 ≤ g' := (HOWN.out.lt g' rfl).1
            refine ⟨j + 1, _, by go_num, .inr (by omega), Lib.hid ⟨HI.out.kp.trans (((KeepsOthers.alloc wr _).trans (KeepsOthers.of_grownBy hgrow (row_cells (HRW.out.alloc _)))).trans (KeepsOthers.setCell _ _ _)), ?_, ?_, heap_set1 (BLK.out w5 hgrow _ _ HI.out.cell (by omega)) _, ?_, heap_set_other (BLK.out w5 hgrow _ _ HI.out.r2 (by omega)) (by omega) _, heap_set_other (BLK.out w5 hgrow _ _ HI.out.r3 (by omega)) (by omega) _, ?_⟩⟩
            · exact ((HI.out.blw.alloc (by omega) _).grown hgrow (by simp; omega) (fun k e => by have := (HRW.out.lt k e).1; omega)).setCell (p := ⟨w.heap.size + 1 + 1, 0, none⟩) (by simp; omega) _
            · rw [Below.heap_setCell _ _ _ _ (by first | (simp; done) | (simp; omega)), hgrow.block _ (by simp; omega) (fun e => by have := (HRW.out.lt _ e.symm).1; omega), Below.heap_alloc _ _ _ (by omega)]; exact HI.out.bx
            · have e1 : upTo a (a + ((j + 1 : Nat) : Int) - 1) = upTo a (a + (j : Int) - 1) ++ [a + (j : Int)] := by
                rw [show a + ((j + 1 : Nat) : Int) - 1 = a + (j : Int) by omega]; exact upTo_snoc a _ (by omega)
              rw [e1, ← List.append_assoc, icells_snoc]
              exact HOWN.out.kept (grow_set w5 _ _) (.inr (fun e => by simp [Value.ownBlock] at e; omega))
            · exact ((HI.out.bel.alloc (by omega) _).grown hgrow (by simp; omega) (fun k e => by have := (HRW.out.lt k e).1; omega)).setCell (p := ⟨w.heap.size + 1 + 1, 0, none⟩) (by simp; omega) _
          case measure => simp [intOf]; omega
  case done =>
    rintro xs W hxs hcore hD
    obtain ⟨v, acc, hv, hrow, hacc, hexp⟩ := hcore.ex
    obtain ⟨va, vc, rfl⟩ : ∃ a c, v = .slice a acc.length c := by
      rcases hrow with ⟨_, ⟨rfl, hn⟩ | ⟨g, cap, cur, rfl, _⟩⟩
      · exact ⟨none, 0, by rw [hn]⟩
      · exact ⟨_, _, rfl⟩
    have hN : expOf s.data.toList = (acc, 0) := by
      have h := hexp []
      rw [List.append_nil, hxs] at h
      unfold expOf; rw [h]; rfl
    have HN := Lib.hid hN; clear hN hexp
    obtain ⟨cl, fl⟩ := cell_of1 hv
    obtain ⟨c2, f2⟩ := cell_of1 hcore.r2
    obtain ⟨c3, f3⟩ := cell_of1 hcore.r3
    have HROW := Lib.hid hrow; have HC := Lib.hid hcore; have HD := Lib.hid hD
    clear hv hrow hcore hD
    gi_wp2
    have hks := (Array.getElem?_eq_some_iff.1 HD.out).1
    have q2 := heap_set_other (heap_set1 HC.out.r2 (.slice va acc.length vc)) (show w.heap.size ≠ w.heap.size + 1 by omega) (.int .i64 0)
    have q3 := heap_set1 (heap_set_other HC.out.r3 (show w.heap.size + 1 ≠ w.heap.size by omega) (.slice va acc.length vc)) (.int .i64 0)
    have hD2 := heap_set_other (heap_set_other HD.out (show w4.heap.size ≠ w.heap.size by omega) (.slice va acc.length vc)) (show w4.heap.size ≠ w.heap.size + 1 by omega) (.int .i64 0)
    have hbel := (HC.out.bel.setCell (p := ⟨w.heap.size, 0, none⟩) (Nat.le_refl _) (.slice va acc.length vc)).setCell (p := ⟨w.heap.size + 1, 0, none⟩) (by simp) (.int .i64 0)
    refine ⟨by simp, .inl ⟨_, _, rfl, run_takeDeferred hD2, ?_⟩⟩
    obtain ⟨z2, _⟩ := cell_of1 (put_other (l := w4.heap.size) (o' := .deferred none) q2 (by omega))
    obtain ⟨z3, _⟩ := cell_of1 (put_other (l := w4.heap.size) (o' := .deferred none) q3 (by omega))
    refine ⟨.tuple #[.slice va acc.length vc, .int .i64 0], by simp [results, Tryd.f56, go_sem, z2, z3], ?_⟩
    refine ⟨_, by rw [HN.out], ?_, below_put _ hbel (by omega)⟩
    rw [HN.out]
    exact ISl_of_row (((HROW.out.kept (grow_set _ _ _) (row_ne HROW.out _ (by simp))).kept (grow_set _ _ _) (row_ne HROW.out _ (by simp))).kept (grownBy_putObj' _ _ _) (row_ne HROW.out _ (by omega)))
  case stop =>
    rintro c pre W hSp ⟨rfl, hnone, h2, h3, hbel⟩ hD
    have hN : expOf s.data.toList = ([], 3) := by
      obtain ⟨t, ht⟩ := hSp
      have h := hnone t
      rw [ht] at h
      unfold expOf; rw [h]
    have HN := Lib.hid hN; clear hN hnone
    gi_wp2
    refine ⟨by simp, .inl ⟨_, _, rfl, run_takeDeferred hD, ?_⟩⟩
    obtain ⟨z2, _⟩ := cell_of1 (put_other (l := w4.heap.size) (o' := .deferred none) h2 (by omega))
    obtain ⟨z3, _⟩ := cell_of1 (put_other (l := w4.heap.size) (o' := .deferred none) h3 (by omega))
    refine ⟨.tuple #[.slice none 0 0, .int .i64 3], by simp [results, Tryd.f56, go_sem, z2, z3], ?_⟩
    exact ⟨_, by rw [HN.out], by rw [HN.out]; exact .inl ⟨rfl, rfl⟩, below_put _ hbel (by omega)⟩

theorem expand_any (s : ByteArray) (w : World) (hs : s.size ≤ 1048576) (hM : MaxAt w) (hE : ∃ tp p, w.var? Tryd.prog "strconv.ErrRange" = some #[.iface tp p]) :
    Calls Tryd.prog 56 #[.string s] w (ExpPost s.data.toList w) := callsIn_wide.1 (exp_in s w hs hM hE)
end Go.Proofs.YtdcjnklagklckaaDoor
