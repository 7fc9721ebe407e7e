/- words.printRuns, words.List. -/
import Derived.Test.YtdcjnklagklckaaDoorWordsV
namespace Go.Proofs.YtdcjnklagklckaaDoor
open Go.RowKit Go.Shelf
set_option linter.unusedVariables false

/-- The slice v reads as the integers ns. -/
def ISl (w : World) (v : Value) (ns : List Int) : Prop :=
  (v = .slice none 0 0 ∧ ns = []) ∨
  ∃ g off cap, v = .slice (some ⟨g, off, none⟩) ns.length cap ∧ g < w.heap.size ∧ ns.length ≤ maxLen ∧ ∀ i (h : i < ns.length), w.cell? ⟨g, off + i, none⟩ = some (.int .i64 ns[i])

/-- The last index of the run that begins at i. -/
def runE (ns : List Int) (i : Nat) : Nat :=
  if i + 1 < ns.length then if ns.getD (i + 1) 0 = ns.getD i 0 + 1 then runE ns (i + 1) else i else i
termination_by ns.length - i
theorem runE_ge (ns : List Int) (i : Nat) : i ≤ runE ns i := by
  rw [runE]; split
  · split
    · have := runE_ge ns (i + 1); omega
    · exact Nat.le_refl _
  · exact Nat.le_refl _
termination_by ns.length - i
theorem runE_lt (ns : List Int) (i : Nat) (h : i < ns.length) : runE ns i < ns.length := by
  rw [runE]; split
  · rename_i h1; split
    · exact runE_lt ns (i + 1) h1
    · exact h
  · exact h
termination_by ns.length - i

def pieceB (ns : List Int) (i k : Nat) : List UInt8 := Lib.itoa (ns.getD i 0) ++ if i < k then 45 :: Lib.itoa (ns.getD k 0) else []
def piecesF (ns : List Int) (i : Nat) : List (List UInt8) :=
  if h : i < ns.length then pieceB ns i (runE ns i) :: piecesF ns (runE ns i + 1) else []
termination_by ns.length - i
decreasing_by have := runE_ge ns i; omega

def listS (ns : List Int) : List UInt8 := Lib.join (piecesF ns 0) [44]
def rangeB (ns : List Int) : Bool := ns.any fun n => decide (n < 0) || decide (1000000000 < n)
def ascB (ns : List Int) : Bool := decide (∀ i, i < ns.length → 1 ≤ i → ns.getD (i - 1) 0 < ns.getD i 0)
/-- What List returns: the expression, and the error's number. -/
def listL (ns : List Int) : List UInt8 × Int :=
  if 500 < ns.length then ([], 3) else if rangeB ns then ([], 7) else if !ascB ns then ([], 6) else if ns.length = 0 then ([45], 0) else (listS ns, 0)

theorem joinTail_len (sep : List UInt8) (m : Nat) : ∀ (xs : List (List UInt8)), (∀ x ∈ xs, x.length ≤ m) → (Lib.joinTail sep xs).length ≤ xs.length * (m + sep.length)
  | [], _ => by simp [Lib.joinTail]
  | x :: r, h => by
    have h1 := h x (by simp)
    have h2 := joinTail_len sep m r (fun z hz => h z (by simp [hz]))
    simp only [Lib.joinTail, List.map_cons, List.flatten_cons, List.length_append, List.length_cons] at h2 ⊢
    rw [Nat.add_mul]; omega
theorem join_len (sep : List UInt8) (m : Nat) (xs : List (List UInt8)) (h : ∀ x ∈ xs, x.length ≤ m) : (Lib.join xs sep).length ≤ xs.length * (m + sep.length) := by
  cases xs with
  | nil => rw [Lib.join_nil]; simp
  | cons x r =>
    have h1 := h x (by simp)
    have h2 := joinTail_len sep m r (fun z hz => h z (by simp [hz]))
    rw [Lib.join_cons, List.length_append, List.length_cons, Nat.add_mul]; omega

theorem info_str : (Tryd.prog.info? 9).map (fun i => (i.zero, i.size, i.bytes)) = some (some (.string ⟨#[]⟩), 1, 16) := by kernel_rfl

/-- strings.Join of a row of strings of the call's own. -/
theorem join_row {B : Nat} {W : World} {v : Value} {P : List ByteArray} (sep : ByteArray) (h : W.ownsRow B 9 1 v P.length (P.map .string))
    (hN : P.length ≤ 140737488355328) (hlen : (Lib.join (P.map (·.data.toList)) sep.data.toList).length ≤ 140737488355328) :
    Calls Tryd.prog 51 #[v, .string sep] W fun e w' => e = .returned (.string ⟨(Lib.join (P.map (·.data.toList)) sep.data.toList).toArray⟩) ∧ Below W.heap.size W w' := by
  rcases h with ⟨hl, ⟨rfl, hn⟩ | ⟨g, cap, cur, rfl, hg, hc, hm, h3, h4, h5⟩⟩
  · have : P = [] := List.eq_nil_of_length_eq_zero hn
    subst this
    refine (Tryd.strings_Join_none _ _ _ _).mono ?_
    rintro e w' ⟨rfl, rfl⟩; exact ⟨rfl, Below.refl _ _⟩
  · refine Tryd.strings_Join g 0 cap P sep W (fun j x hj => ?_) (Array.getElem?_eq_some_iff.1 hc).1 hN (by omega) hlen
    have hlt := (List.getElem?_eq_some_iff.1 hj).1
    rw [cell_of_row W g _ cur _ _ hc, Nat.zero_add, ← Array.getElem?_toList]
    have : (P.map Value.string)[j]? = some (.string x) := by rw [List.getElem?_map, hj]; rfl
    rw [← h5, List.getElem?_take_of_lt (by omega)] at this; exact this

theorem rangeB_get {ns : List Int} (h : rangeB ns = false) : ∀ j, j < ns.length → 0 ≤ ns.getD j 0 ∧ ns.getD j 0 ≤ 1000000000 := by
  intro j hj
  have := List.any_eq_false.1 h ns[j] (List.getElem_mem hj)
  rw [List.getD_eq_getElem?_getD, List.getElem?_eq_getElem hj]; simp at this ⊢; omega

theorem pieces_len {ns : List Int} (h : ∀ j, j < ns.length → 0 ≤ ns.getD j 0 ∧ ns.getD j 0 ≤ 1000000000) (i : Nat) : ∀ x ∈ piecesF ns i, x.length ≤ 43 := by
  intro x hx
  rw [piecesF] at hx
  split at hx
  · rename_i hi
    rcases List.mem_cons.1 hx with rfl | hx
    · have h1 := h i hi
      have h2 := h _ (runE_lt ns i hi)
      have l1 := Lib.itoa_length_le _ (by omega : -9223372036854775808 ≤ ns.getD i 0) (by omega)
      have l2 := Lib.itoa_length_le _ (by omega : -9223372036854775808 ≤ ns.getD (runE ns i) 0) (by omega)
      unfold pieceB; rw [List.length_append]; split
      · rw [List.length_cons]; omega
      · rw [List.length_nil]; omega
    · exact pieces_len h _ x hx
  · cases hx
termination_by ns.length - i
decreasing_by have := runE_ge ns i; omega

def SRow (B : Nat) (W : World) (v : Value) (P : List ByteArray) : Prop := W.ownsRow B 9 1 v P.length (P.map .string)

set_option maxRecDepth 20000 in
set_option maxHeartbeats 400000 in
theorem printRuns_any (g off cap : Nat) (ns : List Int) (w : World) (hg : g < w.heap.size) (hn : ns.length ≤ 500) (hr : rangeB ns = false)
    (hcell : ∀ i (h : i < ns.length), w.cell? ⟨g, off + i, none⟩ = some (.int .i64 ns[i]))
    (htab : Lib.TabIs Tryd.prog w "internal/strconv.uint64pow10" .u64 Lib.pow10Tab) :
    Calls Tryd.prog 54 #[.slice (some ⟨g, off, none⟩) ns.length cap] w fun e w' => e = .returned (.string ⟨(listS ns).toArray⟩) ∧ Below w.heap.size w w' := by
  obtain ⟨i0, hi, hz0, hz1, hz2⟩ := info_parts info_str
  have HC := Lib.hid hcell; clear hcell
  have HT := Lib.hid htab; clear htab
  have HG := Lib.hid (rangeB_get hr); clear hr
  go_enter Tryd.func54, Tryd.ntmps54
  go_wp2_with fail
  go_loopw [3, 4] (fun v i wr => ∃ k : Nat, k ≤ ns.length ∧ i = .int .i64 k ∧ Hid (Below w.heap.size w wr) ∧ ∃ P : List ByteArray, P.length ≤ k ∧ Hid (SRow w.heap.size wr v P) ∧ Hid (P.map (·.data.toList) ++ piecesF ns k = piecesF ns 0)) (fun _ i _ => ns.length - (intOf i).toNat)
  case atStart => exact ⟨0, by omega, rfl, Lib.hid (Below.refl _ _), [], by simp, Lib.hid (World.ownsRow_nil _ _ _ _), Lib.hid rfl⟩
  case round =>
    obtain ⟨k, hk, rfl, HB, P, hPk, HR, HP⟩ := hrel
    obtain ⟨wo, hwo⟩ : ∃ wo, wo = wr := ⟨_, rfl⟩
    subst hwo
    by_cases hlt : k < ns.length
    · have hget : ∀ j, j < ns.length → 0 ≤ ns.getD j 0 ∧ ns.getD j 0 ≤ 1000000000 := HG.out
      have hcl : ∀ j, j < ns.length → wo.cell? ⟨g, off + j, none⟩ = some (.int .i64 (ns.getD j 0)) := fun j hj => by
        rw [HB.out.cell (p := ⟨g, off + j, none⟩) hg, HC.out j hj, List.getD_eq_getElem?_getD, List.getElem?_eq_getElem hj]; rfl
      have HCL := Lib.hid hcl; clear hcl
      have HGT := Lib.hid hget; clear hget
      go_wp2_with fail
      go_loopw [5] (fun i w2 => ∃ t : Nat, t < ns.length ∧ k ≤ t ∧ i = .int .i64 t ∧ Hid (runE ns t = runE ns k) ∧ Hid (∃ n, w2 = wo.drewN n)) (fun i _ => ns.length - (intOf i).toNat)
      case atStart => exact ⟨k, hlt, Nat.le_refl _, rfl, Lib.hid rfl, Lib.hid ⟨0, rfl⟩⟩
      case round =>
        obtain ⟨t, ht, hkt, rfl, HE, HW⟩ := hrel
        have hcell2 : ∀ p, wr.cell? p = wo.cell? p := fun p => by obtain ⟨nd, e⟩ := HW.out; rw [e]; rfl
        have HC2 := Lib.hid hcell2; clear hcell2
        have hbr : Below wo.heap.size wo wr := by obtain ⟨nd, e⟩ := HW.out; rw [e]; exact bl_drewN _ (Below.refl _ _)
        have HBR := Lib.hid hbr; clear hbr
        obtain ⟨u, hu⟩ : ∃ u : Nat, t + 1 = u := ⟨_, rfl⟩
        have w1 : IntKind.i64.wrap ((t : Int) + 1) = (u : Int) := by rw [IntWalk.i64_in _ (by omega)]; omega
        obtain ⟨x, hx⟩ : ∃ x, ns.getD t 0 = x := ⟨_, rfl⟩
        have c0 : wr.cell? ⟨g, off + t, none⟩ = some (.int .i64 x) := by rw [← hx]; exact (HC2.out _).trans (HCL.out t ht)
        obtain ⟨g0, g1⟩ := HGT.out t ht
        rw [hx] at g0 g1
        have w2 : IntKind.i64.wrap (x + 1) = x + 1 := IntWalk.i64_in _ (by omega)
        have HXX := Lib.hid hx; clear hx
        by_cases h1 : u < ns.length
        case' pos =>
          obtain ⟨y, hy⟩ : ∃ y, ns.getD u 0 = y := ⟨_, rfl⟩
          have c1 : wr.cell? ⟨g, off + u, none⟩ = some (.int .i64 y) := by rw [← hy]; exact (HC2.out _).trans (HCL.out u h1)
          have j1 : (u : Int) < (ns.length : Int) := by omega
          have HYY := Lib.hid hy; clear hy
          by_cases h2 : y = x + 1
          case pos =>
            have HE2 : Hid (runE ns u = runE ns k) := Lib.hid (by rw [← HE.out]; conv => rhs; rw [runE, hu, if_pos h1, HXX.out, HYY.out, if_pos h2])
            have e1 : (y == x + 1) = true := by rw [beq_iff_eq]; exact h2
            clear h2
            go_wp2_with fail
            go_quiet (fail)
            go_wp2_with fail
            go_roundw
            case rel => exact ⟨u, h1, by omega, rfl, HE2, Lib.hid (by obtain ⟨n, e⟩ := HW.out; rw [e]; exact ⟨n + nq, by simp [World.drewN, Nat.add_assoc]⟩)⟩
            case measure => simp [intOf]; omega
          have HE2 : Hid (runE ns k = t) := Lib.hid (by rw [← HE.out, runE, hu, if_pos h1, HXX.out, HYY.out, if_neg h2])
          have e1 : (y == x + 1) = false := by rw [beq_eq_false_iff_ne]; exact h2
          clear h2
        case' neg =>
          have HE2 : Hid (runE ns k = t) := Lib.hid (by rw [← HE.out, runE, hu, if_neg h1])
          have j1 : decide ((u : Int) < (ns.length : Int)) = false := by rw [decide_eq_false_iff_not]; omega
        all_goals
          obtain ⟨z, hz⟩ : ∃ z, ns.getD k 0 = z := ⟨_, rfl⟩
          have c2 : wr.cell? ⟨g, off + k, none⟩ = some (.int .i64 z) := by rw [← hz]; exact (HC2.out _).trans (HCL.out k hlt)
          obtain ⟨f0, f1⟩ := HGT.out k hlt
          rw [hz] at f0 f1
          have HZZ := Lib.hid hz; clear hz
          go_wp2_with fail
          go_quiet (fail)
          have hgs : g < wr.heap.size := Nat.lt_of_lt_of_le (Nat.lt_of_lt_of_le hg HB.out.size) HBR.out.size
          have HP2 : Hid (P.map (·.data.toList) ++ pieceB ns k t :: piecesF ns (t + 1) = piecesF ns 0) := Lib.hid (by rw [← HP.out]; congr 1; conv => rhs; rw [piecesF, dif_pos hlt, HE2.out])
          have l1 := Lib.itoa_length_le x (by omega) (by omega)
          have l2 := Lib.itoa_length_le z (by omega) (by omega)
          have n1 : ¬ 9223372036854775807 < 1 + (Lib.itoa x).length := by omega
          have n2 : ¬ 9223372036854775807 < (Lib.itoa z).length + (1 + (Lib.itoa x).length) := by omega
          by_cases hkt2 : k < t
          case' pos =>
            have j4 : decide (k < t) = true := decide_eq_true hkt2
            have HPB : Hid (pieceB ns k t = Lib.itoa z ++ (45 :: Lib.itoa x)) := Lib.hid (by rw [pieceB, if_pos hkt2, HZZ.out, HXX.out])
          case' neg =>
            have j4 : decide (k < t) = false := decide_eq_false hkt2
            have HPB : Hid (pieceB ns k t = Lib.itoa z) := Lib.hid (by rw [pieceB, if_neg hkt2, HZZ.out, List.append_nil])
          all_goals
            go_wp2_with (first
              | (go_at_call 17; go_loud (refine (digits_any _ _ (by omega) (by omega) (Lib.tabBelow_of_tabIs HT.out _ (by first | exact bl_call HB.out (bl_drewN _ HBR.out) | exact bl_call HB.out HBR.out))).mono ?_; rintro e w' ⟨rfl, hb⟩; replace HBR := Lib.hid (by first | exact bl_call (bl_drewN _ HBR.out) hb | exact bl_call HBR.out hb); replace c0 := (hb.cell (p := ⟨g, off + t, none⟩) hgs).trans c0; replace hgs := Nat.lt_of_lt_of_le hgs hb.size; clear hb))
              | (at_builtin; refine wpList_append_own _ rfl _ _ 64 rfl w.heap.size 9 i0 (.string ⟨#[]⟩) 1 16 Tryd.underlying64 hi hz0 hz1 hz2 rfl (by decide) _ _ _ rfl ((row_below HR.out HBR.out).alloc _) ⟨_, 0, none⟩ 1 1 [.string _] rfl rfl (cells_new _ _ [_]) (by simp [Value.oneCell']) (by unfold maxLen; omega) (by omega) (by have q1 := HB.out.size; have q2 := HBR.out.size; simp; omega) ?_; intro v' w1 hown hgrow _; have hbw : Below w.heap.size w w1 := ((bl_call HB.out HBR.out).alloc (bl_call HB.out HBR.out).size _).grown hgrow (by have q1 := HB.out.size; have q2 := HBR.out.size; simp; omega) (fun k e => ((row_below HR.out HBR.out).lt k e).1); have HBW := Lib.hid hbw; have HOWN := Lib.hid hown; clear hbw hown hgrow))
            go_roundw
            case rel =>
              refine ⟨u, by omega, rfl, HBW, P ++ [_], by simp; omega, Lib.hid (by unfold SRow; rw [List.length_append, List.map_append]; exact HOWN.out), Lib.hid ?_⟩
              rw [← HP2.out, List.map_append, List.append_assoc, HPB.out, hu]; simp
            case measure => simp [intOf]; omega
    · have hpe : P.map (·.data.toList) = piecesF ns 0 := by rw [← HP.out, piecesF, dif_neg hlt, List.append_nil]
      have hjl := join_len [44] 43 (piecesF ns 0) (pieces_len HG.out 0)
      have hl2 : (piecesF ns 0).length = P.length := by rw [← hpe, List.length_map]
      rw [hl2] at hjl
      have hjl2 : (Lib.join (P.map (·.data.toList)) [44]).length ≤ 140737488355328 := by rw [hpe]; simp at hjl; omega
      have HPE := Lib.hid hpe; have HJ := Lib.hid hjl2; clear hpe hjl hl2 hjl2
      go_wp2_with (go_at_call 51; refine (join_row ⟨#[44]⟩ HR.out (by omega) HJ.out).mono ?_; rintro e w' ⟨rfl, hb⟩; have HB1 := Lib.hid hb; clear hb)
      go_ret
      exact ⟨ret_str (by rw [HPE.out]; rfl), bl_call HB.out HB1.out⟩
end Go.Proofs.YtdcjnklagklckaaDoor
