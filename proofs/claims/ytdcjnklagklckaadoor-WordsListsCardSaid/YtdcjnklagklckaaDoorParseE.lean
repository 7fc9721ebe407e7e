/- words.checkRuns. -/
import Derived.Test.YtdcjnklagklckaaDoorParseD
namespace Go.Proofs.YtdcjnklagklckaaDoor
open Go.RowKit Go.Shelf
set_option linter.unusedVariables false
attribute [local go_sem] Oper.semAt_some

theorem if_undef {c : Prop} [Decidable c] {A B : Prop} (h : c → (none : Option Bool) = some true) (hB : B) : (if c then A else B) := by
  rw [if_neg (fun hc => by have := h hc; cases this)]; exact hB
/-- The greatest number so far, over what the iterator yields. -/
def chkY : List UInt8 → List RY → Option (List UInt8)
  | g, [] => some g
  | g, x :: r => if !x.2.2 then none else if !g.isEmpty && !lessL (succL g) x.1.data.toList then none else chkY x.2.1.data.toList r
theorem chkY_go : ∀ (ps : List (List UInt8)) (g : List UInt8), chkY g (runsGo ps) = chkGo g ps
  | [], _ => rfl
  | p :: ps, g => by
    rw [runsGo, chkGo]
    cases h : readR p with
    | none =>
      have e : rrOf p = (⟨#[]⟩, ⟨#[]⟩, false) := by unfold rrOf; rw [h]
      rw [e]; rfl
    | some ab =>
      obtain ⟨a, b⟩ := ab
      have e : rrOf p = (⟨a.toArray⟩, ⟨b.toArray⟩, true) := by unfold rrOf; rw [h]
      have ih := chkY_go ps b
      rw [e]
      simp only [if_true, chkY, Bool.not_true, Bool.false_eq_true, if_false]
      rw [← ih]
theorem succL_len (l : List UInt8) : (succL l).length ≤ l.length + 1 := by
  have hn := nines_le l
  unfold succL; split
  · simp
  · simp; omega

def chkOf (l : List UInt8) : ByteArray × Bool := match chkGo [] (cutAt 44 l) with
  | some g => (⟨g.toArray⟩, true)
  | none => (⟨#[]⟩, false)
def ChkPost (l : List UInt8) (w : World) (e : Ending) (w' : World) : Prop := e = .returned (.tuple #[.string (chkOf l).1, .bool (chkOf l).2]) ∧ Below w.heap.size w w'

/-- What checkRuns' own blocks hold between two rounds. -/
structure CCore (N : Nat) (w : World) (pre : List RunB) (W : World) : Prop where
  ex : ∃ G : ByteArray, W.heap[N]? = some (.cells #[.string G] 9 (0, 0)) ∧ G.size ≤ 1048576 ∧ ∀ rest, chkY [] (pre.map (·.1) ++ rest) = chkY G.data.toList rest
  r3 : W.heap[N + 1]? = some (.cells #[.bool false] 4 (0, 0))
  bel : Below N w W
theorem CCore.keep {N : Nat} {w : World} {pre : List RunB} {W W' : World} {row : Option Nat} (h : CCore N w pre W) (hg : W.grownBy W' row) (hr : ∀ r, row = some r → N + 3 ≤ r) : CCore N w pre W' := by
  obtain ⟨G, h1, h2, h3⟩ := h.ex
  have blk : ∀ (k : Nat) (o : Obj), W.heap[k]? = some o → k < N + 3 → W'.heap[k]? = some o := fun k o hk hlt =>
    (hg.block k (Array.getElem?_eq_some_iff.1 hk).1 (fun e => by have := hr _ e.symm; omega)).trans hk
  exact ⟨⟨G, blk _ _ h1 (by omega), h2, h3⟩, blk _ _ h.r3 (by omega), h.bel.grown hg (by have := (Array.getElem?_eq_some_iff.1 h.r3).1; omega) (fun k e => by have := hr _ e; omega)⟩
def CIx (N : Nat) (w : World) (c : Code) (pre : List RunB) (W : World) : Prop := c = .ret ∧ (∀ rest, chkY [] (pre.map (·.1) ++ rest) = none) ∧
  W.heap[N]? = some (.cells #[.string ⟨#[]⟩] 9 (0, 0)) ∧ W.heap[N + 1]? = some (.cells #[.bool false] 4 (0, 0)) ∧ Below N w W
theorem CIx.keep {N : Nat} {w : World} {c : Code} {pre : List RunB} {W W' : World} {row : Option Nat} (h : CIx N w c pre W) (hg : W.grownBy W' row) (hr : ∀ r, row = some r → N + 3 ≤ r) : CIx N w c pre W' := by
  obtain ⟨h1, h2, h3, h4, h5⟩ := h
  have blk : ∀ (k : Nat) (o : Obj), W.heap[k]? = some o → k < N + 3 → W'.heap[k]? = some o := fun k o hk hlt =>
    (hg.block k (Array.getElem?_eq_some_iff.1 hk).1 (fun e => by have := hr _ e.symm; omega)).trans hk
  exact ⟨h1, h2, blk _ _ h3 (by omega), blk _ _ h4 (by omega), h5.grown hg (by have := (Array.getElem?_eq_some_iff.1 h4).1; omega) (fun k e => by have := hr _ e; omega)⟩

set_option maxRecDepth 100000 in
set_option maxHeartbeats 4000000 in
theorem check_in (s : ByteArray) (w : World) (hs : s.size ≤ 1048576) (hM : MaxAt w) :
    CallsIn Fence.wide 5 Tryd.prog 55 #[.string s] w (ChkPost s.data.toList w) := by
  refine callsIn_of_wp_marks Tryd.func55 rfl trivial ?_ rfl
  simp only [Tryd.ntmps55, List.size_toArray, List.length_cons, List.length_nil, Nat.reduceAdd, Nat.reduceSub, Array.replicate_succ, Array.replicate_zero, List.push_toArray, List.append_toArray, List.nil_append, List.cons_append]
  gi_wp2_with (refine ⟨trivial, ?_⟩; gi_at_call 77; refine (callsIn_wide.2 (runsOf_any _ _)).mono ?_; rintro e w' ⟨rfl, rfl⟩)
  obtain ⟨w4, hw4⟩ : ∃ w4, ((w.alloc (.cells #[.string ⟨#[]⟩] 9)).alloc (.cells #[.bool false] 4)).alloc (.cells #[.string s] 9) = w4 := ⟨_, rfl⟩
  have hsz : w4.heap.size = w.heap.size + 3 := by rw [← hw4]; simp
  have hb4 : Below w.heap.size w w4 := by rw [← hw4]; exact bl_alloc _ (bl_alloc _ (bl_alloc _ (Below.refl _ _)))
  have hcs : w4.cell? ⟨w.heap.size + 1 + 1, 0, none⟩ = some (.string s) := by rw [← hw4, World.cell?_alloc_at _ _ _ _ (by simp)]; rfl
  have hcore : CCore w.heap.size w [] w4 := by
    refine ⟨⟨⟨#[]⟩, ?_, Nat.zero_le _, fun rest => rfl⟩, ?_, hb4⟩
    · rw [← hw4, Below.heap_alloc _ _ _ (by simp <;> omega), Below.heap_alloc _ _ _ (by simp <;> omega)]; exact heap_alloc_new w _
    · rw [← hw4, Below.heap_alloc _ _ _ (by simp <;> omega)]; have := heap_alloc_new (w.alloc (.cells #[.string ⟨#[]⟩] 9)) (.cells #[.bool false] 4); simpa using this
  rw [hw4]
  clear hw4
  have hM4 := hM.below hb4
  have hlt : 4 < w.heap.size := by obtain ⟨m, h⟩ := hM; exact cell_lt h
  have HS := Lib.hid hs
  have hrl := runsY_len s.data.toList
  rw [len_data] at hrl
  refine wpIn_rangeFunc_box (w0 := w4) rfl (by omega) (gf := 99) (lb := #[.pointer (some ⟨w.heap.size + 1 + 1, 0, none⟩)]) rfl trivial (enters_of Tryd.func99 (by kernel_rfl) rfl)
    (runs1_box 4 (w.heap.size + 1 + 1) w.heap.size s w4 hs hcs (by omega) hM4 hlt (by omega)) (by omega) (Below.refl _ _) (fun _ => rfl)
    (CCore w.heap.size w) (CIx w.heap.size w) ?hI ?hIx ?hIb ?hIxb hcore
    (fun x a' W => ∃ Bx, a' = { tmps := #[.string s, undef, .pointer (some ⟨w.heap.size, 0, none⟩), .pointer (some ⟨w.heap.size + 1, 0, none⟩), .pointer (some ⟨Bx, 0, none⟩), .bool x.1.2.2, .string s, .func (.func 99) #[] #[.pointer (some ⟨w.heap.size + 1 + 1, 0, none⟩)], .agg #[.string x.1.1, .string x.1.2.1], .bool x.1.2.2, undef, undef, undef, undef, undef, undef, undef, undef, undef, undef, undef, undef, undef, undef, undef, undef, undef], defers := [] } ∧ w.heap.size + 6 ≤ Bx ∧ W.heap[Bx]? = some (.cells #[.string x.1.1, .string x.1.2.1] 97 (0, 0))) ?hAx ?assign ?body ?done ?stop
  case hI => exact fun pre A C row h hgr hr => h.keep hgr (fun r e => by have := (hr r e).1; omega)
  case hIx => exact fun c pre A C row h hgr hr => h.keep hgr (fun r e => by have := (hr r e).1; omega)
  case hIb => exact fun pre A C row h hgr hr => h.keep hgr (fun r e => by have := hr r e; omega)
  case hIxb => exact fun c pre A C row h hgr hr => h.keep hgr (fun r e => by have := hr r e; omega)
  case hAx =>
    rintro x a' u A C row ⟨Bx, h1, h2, h3⟩ hgr hr
    refine ⟨Bx, h1, h2, (hgr.block Bx (Array.getElem?_eq_some_iff.1 h3).1 (fun e => ?_)).trans h3⟩
    obtain ⟨_, o, ho, hc⟩ := hr Bx e.symm
    rw [h3] at ho; cases ho; cases hc
  case assign =>
    intro l pre x W K hle hi hK
    gi_wp2
    refine hK _ _ ((KeepsOthers.alloc W _).from _) ⟨(Below.refl _ W).alloc (by omega) _, Below.heap_alloc W _ _ (by omega)⟩ (hi.keep (World.grownBy_alloc W _ none) (fun r e => by cases e)) ⟨W.heap.size, rfl, by omega, heap_alloc_new W _⟩
  case body =>
    rintro l pre ⟨⟨xa, xb, ok⟩, hxa, hxb⟩ a' W hle hcore ⟨Bx, rfl, hBx, hbx⟩ hlen
    dsimp only at hxa hxb hbx ⊢
    obtain ⟨G, hG, hGs, hchk⟩ := hcore.ex
    obtain ⟨c2, f2⟩ := cell_of1 hG
    obtain ⟨c3, f3⟩ := cell_of1 hcore.r3
    obtain ⟨b0, b1, _, _⟩ := cell_of2 hbx
    have HC := Lib.hid hcore; have HG := Lib.hid hG
    have HCHK : Hid (∀ rest, chkY [] ((pre ++ [(⟨(xa, xb, ok), hxa, hxb⟩ : RunB)]).map (·.1) ++ rest) = chkY G.data.toList ((xa, xb, ok) :: rest)) := Lib.hid (fun rest => by
      rw [List.map_append, List.append_assoc, hchk]; rfl)
    have hBlt := (Array.getElem?_eq_some_iff.1 hbx).1
    have HBX := Lib.hid hbx
    have hNlt1 : w.heap.size + 1 < W.heap.size := (Array.getElem?_eq_some_iff.1 hcore.r3).1
    have hNlt : w.heap.size < W.heap.size := by omega
    clear hcore hG hchk hbx
    have hxm : xa.size ≤ maxLen := by unfold maxLen; omega
    cases ok
    case false =>
      have HN : Hid (∀ rest, chkY [] ((pre ++ [(⟨(xa, xb, false), hxa, hxb⟩ : RunB)]).map (·.1) ++ rest) = none) := Lib.hid (fun rest => by rw [HCHK.out]; rfl)
      gi_wp2
      gi_region_with (first | (refine ⟨trivial, ?_⟩) | (refine if_undef (fun h => h) ?_))
      all_goals gi_wp2
      all_goals exact ⟨(((KeepsOthers.setCell _ _ _).trans (KeepsOthers.setCell _ _ _)).trans (KeepsOthers.drew _)).from _, rfl, HN.out, heap_set_other (heap_set1 HG.out _) (by omega) _, heap_set1 (heap_set_other HC.out.r3 (by omega) _) _, ((HC.out.bel.setCell (p := ⟨w.heap.size, 0, none⟩) (Nat.le_refl _) _).setCell (p := ⟨w.heap.size + 1, 0, none⟩) (by simp) _).drew⟩
    case true =>
      by_cases h0 : 0 < G.size
      case neg =>
        have hem : G.toList.isEmpty = true := by rw [isEmpty_size]; exact decide_eq_true (by omega)
        have HN : Hid (∀ rest, chkY [] ((pre ++ [(⟨(xa, xb, true), hxa, hxb⟩ : RunB)]).map (·.1) ++ rest) = chkY xb.data.toList rest) := Lib.hid (fun rest => by
          rw [HCHK.out, chkY, ← ByteArray.toList_eq G, hem]; rfl)
        gi_wp2
        gi_region_with (refine ⟨trivial, ?_⟩)
        all_goals gi_wp2
        all_goals exact ⟨((KeepsOthers.setCell _ _ _).trans (KeepsOthers.drew _)).from _, ⟨((Below.refl _ W).setCell (p := ⟨w.heap.size, 0, none⟩) (Nat.le_refl _) _).drew, Below.heap_setCell _ _ _ _ (by simp; omega)⟩, ⟨xb, heap_set1 HG.out _, hxb, HN.out⟩, heap_set_other HC.out.r3 (by omega) _, (HC.out.bel.setCell (p := ⟨w.heap.size, 0, none⟩) (Nat.le_refl _) _).drew⟩
      case pos =>
        have hem := nonempty_of G h0
        have hem2 : G.data.toList.isEmpty = false := by rw [← ByteArray.toList_eq]; exact hem
        obtain ⟨SU, hSU⟩ : ∃ SU : ByteArray, (⟨(succL G.data.toList).toArray⟩ : ByteArray) = SU := ⟨_, rfl⟩
        have hsl : SU.size ≤ maxLen := by
          have := succL_len G.data.toList
          rw [len_data] at this
          rw [← hSU]; show (succL G.data.toList).toArray.size ≤ _; rw [List.size_toArray]; unfold maxLen; omega
        obtain ⟨ls, hls⟩ : ∃ b, lessL SU.data.toList xa.data.toList = b := ⟨_, rfl⟩
        have HSUCC : Hid (∀ W, Calls Tryd.prog 79 #[.string G] W fun e w' => e = .returned (.string SU) ∧ Below W.heap.size W w') := Lib.hid (fun W => by
          refine (succ_any G W (by omega)).mono ?_; rintro e w' ⟨rfl, hb⟩; exact ⟨by rw [hSU], hb⟩)
        have HLESS : Hid (∀ W, Calls Tryd.prog 78 #[.string SU, .string xa] W fun e w' => e = .returned (.bool ls) ∧ W = w') := Lib.hid (fun W => by
          refine (less_any SU xa W hsl hxm).mono ?_; rintro e w' ⟨rfl, hb⟩; exact ⟨by rw [hls], hb⟩)
        have HN : Hid (∀ rest, chkY [] ((pre ++ [(⟨(xa, xb, true), hxa, hxb⟩ : RunB)]).map (·.1) ++ rest) = if ls then chkY xb.data.toList rest else none) := Lib.hid (fun rest => by
          rw [HCHK.out, chkY, hem2, ← hls, ← hSU]; cases lessL (succL G.data.toList) xa.data.toList <;> simp)
        clear hem2 hSU hls hsl hxm
        cases ls
        case false =>
          have HN2 : Hid (∀ rest, chkY [] ((pre ++ [(⟨(xa, xb, true), hxa, hxb⟩ : RunB)]).map (·.1) ++ rest) = none) := Lib.hid (fun rest => HN.out rest)
          gi_wp2
          gi_region_with (first
            | (refine ⟨trivial, ?_⟩; gi_at_call 79; refine (CallsIn.inRound l (callsIn_wide.2 (HSUCC.out _))).mono ?_; rintro e w1 ⟨rfl, hb⟩; have HBN := Lib.hid hb; have b0n : w1.cell? ⟨Bx, 0, none⟩ = some (.string xa) := (hb.cell (p := ⟨Bx, 0, none⟩) hBlt).trans b0; have b1n : w1.cell? ⟨Bx, 1, none⟩ = some (.string xb) := (hb.cell (p := ⟨Bx, 1, none⟩) hBlt).trans b1; have c2n : w1.cell? ⟨w.heap.size, 0, none⟩ = some (.string G) := (hb.cell (p := ⟨w.heap.size, 0, none⟩) hNlt).trans c2; have f2n : w1.frozen? ⟨w.heap.size, 0, none⟩ = false := (hb.frozen (p := ⟨w.heap.size, 0, none⟩) hNlt).trans f2; have c3n : w1.cell? ⟨w.heap.size + 1, 0, none⟩ = some (.bool false) := (hb.cell (p := ⟨w.heap.size + 1, 0, none⟩) hNlt1).trans c3; have f3n : w1.frozen? ⟨w.heap.size + 1, 0, none⟩ = false := (hb.frozen (p := ⟨w.heap.size + 1, 0, none⟩) hNlt1).trans f3; clear hb)
            | (refine ⟨trivial, ?_⟩; gi_at_call 78; refine (CallsIn.inRound l (callsIn_wide.2 (HLESS.out _))).mono ?_; rintro e w1 ⟨rfl, rfl⟩))
          all_goals gi_wp2
          all_goals
            have hbW : Below W.heap.size W w1 := (bl_drew (Below.refl _ W)).trans HBN.out
            have hG1 := (hbW.block _ hNlt).trans HG.out
            have hr1 := (hbW.block _ hNlt1).trans HC.out.r3
            have hK : KeepsOthers W w1 := KeepsOthers.of_grownBy (grow_none' hbW) (fun j o e _ => by cases e)
            have hbWN : Below w.heap.size W w1 := hbW.mono (by omega)
            have hbN : Below w.heap.size w w1 := HC.out.bel.trans hbWN
            exact ⟨(hK.trans ((KeepsOthers.setCell _ _ _).trans (KeepsOthers.setCell _ _ _))).from _, rfl, HN2.out, heap_set_other (heap_set1 hG1 _) (by omega) _, heap_set1 (heap_set_other hr1 (by omega) _) _, (hbN.setCell (p := ⟨w.heap.size, 0, none⟩) (Nat.le_refl _) _).setCell (p := ⟨w.heap.size + 1, 0, none⟩) (by simp) _⟩
        case true =>
          have HN2 : Hid (∀ rest, chkY [] ((pre ++ [(⟨(xa, xb, true), hxa, hxb⟩ : RunB)]).map (·.1) ++ rest) = chkY xb.data.toList rest) := Lib.hid (fun rest => HN.out rest)
          gi_wp2
          gi_region_with (first
            | (refine ⟨trivial, ?_⟩; gi_at_call 79; refine (CallsIn.inRound l (callsIn_wide.2 (HSUCC.out _))).mono ?_; rintro e w1 ⟨rfl, hb⟩; have HBN := Lib.hid hb; have b0n : w1.cell? ⟨Bx, 0, none⟩ = some (.string xa) := (hb.cell (p := ⟨Bx, 0, none⟩) hBlt).trans b0; have b1n : w1.cell? ⟨Bx, 1, none⟩ = some (.string xb) := (hb.cell (p := ⟨Bx, 1, none⟩) hBlt).trans b1; have c2n : w1.cell? ⟨w.heap.size, 0, none⟩ = some (.string G) := (hb.cell (p := ⟨w.heap.size, 0, none⟩) hNlt).trans c2; have f2n : w1.frozen? ⟨w.heap.size, 0, none⟩ = false := (hb.frozen (p := ⟨w.heap.size, 0, none⟩) hNlt).trans f2; have c3n : w1.cell? ⟨w.heap.size + 1, 0, none⟩ = some (.bool false) := (hb.cell (p := ⟨w.heap.size + 1, 0, none⟩) hNlt1).trans c3; have f3n : w1.frozen? ⟨w.heap.size + 1, 0, none⟩ = false := (hb.frozen (p := ⟨w.heap.size + 1, 0, none⟩) hNlt1).trans f3; clear hb)
            | (refine ⟨trivial, ?_⟩; gi_at_call 78; refine (CallsIn.inRound l (callsIn_wide.2 (HLESS.out _))).mono ?_; rintro e w1 ⟨rfl, rfl⟩))
          all_goals gi_wp2
          all_goals
            have hbW : Below W.heap.size W w1 := (bl_drew (Below.refl _ W)).trans HBN.out
            have hG1 := (hbW.block _ hNlt).trans HG.out
            have hr1 := (hbW.block _ hNlt1).trans HC.out.r3
            have hK : KeepsOthers W w1 := KeepsOthers.of_grownBy (grow_none' hbW) (fun j o e _ => by cases e)
            have hbWN : Below w.heap.size W w1 := hbW.mono (by omega)
            have hbN : Below w.heap.size w w1 := HC.out.bel.trans hbWN
            exact ⟨(hK.trans (KeepsOthers.setCell _ _ _)).from _, ⟨hbWN.setCell (p := ⟨w.heap.size, 0, none⟩) (Nat.le_refl _) _, (Below.heap_setCell _ _ _ _ (by simp; omega)).trans (hbW.block _ (by omega))⟩, ⟨xb, heap_set1 hG1 _, hxb, HN2.out⟩, heap_set_other hr1 (by omega) _, hbN.setCell (p := ⟨w.heap.size, 0, none⟩) (Nat.le_refl _) _⟩
  case done =>
    rintro xs W hxs hcore hD
    obtain ⟨G, hG, hGs, hchk⟩ := hcore.ex
    have hN : chkOf s.data.toList = (G, true) := by
      have h := hchk []
      rw [List.append_nil, hxs] at h
      have h2 : chkGo [] (cutAt 44 s.data.toList) = some G.data.toList := by rw [← chkY_go]; exact h
      unfold chkOf; rw [h2]
    have HN := Lib.hid hN; clear hN hchk
    obtain ⟨c2, f2⟩ := cell_of1 hG
    obtain ⟨c3, f3⟩ := cell_of1 hcore.r3
    have HG := Lib.hid hG; have HC := Lib.hid hcore; have HD := Lib.hid hD
    clear hG hcore hD
    gi_wp2
    have hks := (Array.getElem?_eq_some_iff.1 HD.out).1
    have q2 := heap_set_other (heap_set1 HG.out (.string G)) (show w.heap.size ≠ w.heap.size + 1 by omega) (.bool true)
    have q3 := heap_set1 (heap_set_other HC.out.r3 (show w.heap.size + 1 ≠ w.heap.size by omega) (.string G)) (.bool true)
    have hD2 := heap_set_other (heap_set_other HD.out (show w4.heap.size ≠ w.heap.size by omega) (.string G)) (show w4.heap.size ≠ w.heap.size + 1 by omega) (.bool true)
    have hbel := (HC.out.bel.setCell (p := ⟨w.heap.size, 0, none⟩) (Nat.le_refl _) (.string G)).setCell (p := ⟨w.heap.size + 1, 0, none⟩) (by simp) (.bool true)
    refine ⟨by simp, .inl ⟨_, _, rfl, run_takeDeferred hD2, ?_⟩⟩
    obtain ⟨z2, _⟩ := cell_of1 (put_other (l := w4.heap.size) (o' := .deferred none) q2 (by omega))
    obtain ⟨z3, _⟩ := cell_of1 (put_other (l := w4.heap.size) (o' := .deferred none) q3 (by omega))
    refine ⟨.tuple #[.string G, .bool true], by simp [results, Tryd.f55, go_sem, z2, z3], ?_⟩
    exact ⟨by rw [HN.out], below_put _ hbel (by omega)⟩
  case stop =>
    rintro c pre W hSp ⟨rfl, hnone, h2, h3, hbel⟩ hD
    have hN : chkOf s.data.toList = (⟨#[]⟩, false) := by
      obtain ⟨t, ht⟩ := hSp
      have h := hnone t
      rw [ht] at h
      have h2 : chkGo [] (cutAt 44 s.data.toList) = none := by rw [← chkY_go]; exact h
      unfold chkOf; rw [h2]
    have HN := Lib.hid hN; clear hN hnone
    gi_wp2
    refine ⟨by simp, .inl ⟨_, _, rfl, run_takeDeferred hD, ?_⟩⟩
    obtain ⟨z2, _⟩ := cell_of1 (put_other (l := w4.heap.size) (o' := .deferred none) h2 (by omega))
    obtain ⟨z3, _⟩ := cell_of1 (put_other (l := w4.heap.size) (o' := .deferred none) h3 (by omega))
    refine ⟨.tuple #[.string ⟨#[]⟩, .bool false], by simp [results, Tryd.f55, go_sem, z2, z3], ?_⟩
    exact ⟨by rw [HN.out], below_put _ hbel (by omega)⟩

theorem checkRuns_any (s : ByteArray) (w : World) (hs : s.size ≤ 1048576) (hM : MaxAt w) : Calls Tryd.prog 55 #[.string s] w (ChkPost s.data.toList w) :=
  callsIn_wide.1 (check_in s w hs hM)
end Go.Proofs.YtdcjnklagklckaaDoor
