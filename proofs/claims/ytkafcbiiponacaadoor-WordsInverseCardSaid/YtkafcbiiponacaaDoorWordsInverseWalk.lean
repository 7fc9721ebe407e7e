/- The law WordsInverse: the walk. -/
import Derived.Test.YtkafcbiiponacaaDoorInvA
import Derived.Test.YtkafcbiiponacaaDoorInvB
import Derived.Test.YtkafcbiiponacaaDoorInvC
import Derived.Test.YtkafcbiiponacaaDoorParseG
import Derived.Test.YtkafcbiiponacaaDoorBothA
import Derived.Test.YtkafcbiiponacaaDoorWordsY
import Derived.Deep.DeepCutAuto
import Derived.Deep.RegionHeld3
namespace Go.Proofs.YtkafcbiiponacaaDoor
open Go.RowKit Go.Shelf
set_option linter.unusedVariables false

/-- What every call leaves as it was. -/
structure V8 (w : World) (va lv : Value) (fs : List FD) (ns : List Int) (n : Int) (W : World) : Prop where
  g1 : G1 W
  mx : MaxAt W
  fa : FA W va fs
  ia : IA W lv ns
  c0 : W.cell? ⟨w.heap.size, 0, none⟩ = some lv
  c1 : W.cell? ⟨w.heap.size, 1, none⟩ = some (.int .i64 n)
  lt : w.heap.size < W.heap.size
  bel : Below w.heap.size w W
theorem V8.step {w : World} {va lv : Value} {fs : List FD} {ns : List Int} {n : Int} {W W' : World} (h : V8 w va lv fs ns n W) (hb : Below W.heap.size W W') : V8 w va lv fs ns n W' :=
  ⟨h.g1.below hb, h.mx.below hb, h.fa.later hb, h.ia.later hb, (hb.cell (p := ⟨w.heap.size, 0, none⟩) h.lt).trans h.c0, (hb.cell (p := ⟨w.heap.size, 1, none⟩) h.lt).trans h.c1, Nat.lt_of_lt_of_le h.lt hb.size, h.bel.trans (hb.mono (Nat.le_of_lt h.lt))⟩
theorem V8.drew {w : World} {va lv : Value} {fs : List FD} {ns : List Int} {n : Int} {W : World} (h : V8 w va lv fs ns n W) (k : Nat) : V8 w va lv fs ns n (W.drewN k) := h.step (bl_drewN k (Below.refl _ W))
theorem V8.start {w : World} {va lv : Value} {fs : List FD} {ns : List Int} {n : Int} (t : TypeId) (hG : G1 w) (hM : MaxAt w) (hA : FA w va fs) (hI : IA w lv ns) : V8 w va lv fs ns n (w.alloc (.cells #[lv, .int .i64 n] t)) := by
  have hb : Below w.heap.size w (w.alloc (.cells #[lv, .int .i64 n] t)) := bl_alloc _ (Below.refl _ w)
  have hnew := heap_alloc_new w (.cells #[lv, .int .i64 n] t)
  obtain ⟨c0, c1, _, _⟩ := cell_of2 hnew
  exact ⟨hG.below hb, hM.below hb, hA.later hb, hI.later hb, c0, c1, by simp, hb⟩
theorem ba_of {s : ByteArray} {l : List UInt8} (h : l = s.data.toList) : (⟨l.toArray⟩ : ByteArray) = s := by subst h; exact ba_eta s


theorem itoa_len (x : Int) (h0 : 0 ≤ x) (h1 : x ≤ 1000000000) : (Lib.itoa x).length ≤ 10 := by
  rw [itoa_nat x h0]
  rcases Nat.lt_or_ge 10 (Lib.decDigits x.toNat).length with h | h
  · exfalso
    have h2 := natB_ge (natB_dd x.toNat) (by omega)
    rw [dd_val] at h2
    have h3 : 10 ^ 10 ≤ 10 ^ ((Lib.decDigits x.toNat).length - 1) := Nat.pow_le_pow_right (by decide) (by omega)
    have h4 : (10 : Nat) ^ 10 = 10000000000 := by decide
    omega
  · exact h
theorem dd_len (x : Nat) (h : x < 100000000000000000000) : (Lib.decDigits x).length ≤ 20 := by
  rcases Nat.lt_or_ge 20 (Lib.decDigits x).length with h' | h'
  · exfalso
    have h2 := natB_ge (natB_dd x) (by omega)
    rw [dd_val] at h2
    have h3 : 10 ^ 20 ≤ 10 ^ ((Lib.decDigits x).length - 1) := Nat.pow_le_pow_right (by decide) (by omega)
    have h4 : (10 : Nat) ^ 20 = 100000000000000000000 := by decide
    omega
  · exact h'
theorem itoa_len64 (x : Int) (h0 : -9223372036854775808 ≤ x) (h1 : x ≤ 9223372036854775807) : (Lib.itoa x).length ≤ 21 := by
  unfold Lib.itoa
  split
  · have := dd_len (-x).toNat (by omega)
    have := dd_len x.natAbs (by omega)
    simp only [List.length_cons]; omega
  · have := dd_len x.toNat (by omega); omega
theorem intSp_bnds {l : List UInt8} {low high k : Int} (h : intSp l low high = (k, 0)) : low ≤ k ∧ k ≤ high := by
  unfold intSp at h
  split at h
  · split at h <;> simp at h <;> omega
  · simp at h
theorem piece_len {ns : List Int} (h : rangeB ns = false) (i k : Nat) (hi : i < ns.length) (hk : k < ns.length) : (pieceB ns i k).length ≤ 21 := by
  have a := rangeB_get h i hi
  have b := rangeB_get h k hk
  have c := itoa_len _ a.1 a.2
  have d := itoa_len _ b.1 b.2
  unfold pieceB
  split
  · simp only [List.length_append, List.length_cons]; omega
  · simp only [List.append_nil]; omega
theorem pcs_len {ns : List Int} (h : rangeB ns = false) : ∀ (m i : Nat), ns.length - i ≤ m → (piecesF ns i).length ≤ ns.length - i ∧ ∀ p ∈ piecesF ns i, p.length ≤ 21
  | 0, i, hm => by rw [piecesF, dif_neg (by omega)]; simp
  | m + 1, i, hm => by
    rw [piecesF]
    split
    · rename_i hi
      have g := runE_ge ns i
      have l := runE_lt ns i hi
      obtain ⟨a, b⟩ := pcs_len h m (runE ns i + 1) (by omega)
      refine ⟨by simp only [List.length_cons]; omega, fun p hp => ?_⟩
      rcases List.mem_cons.1 hp with rfl | hp
      · exact piece_len h i _ hi l
      · exact b p hp
    · simp
theorem jt_len : ∀ P : List (List UInt8), (∀ p ∈ P, p.length ≤ 21) → (Lib.joinTail [44] P).length ≤ 22 * P.length
  | [], _ => by simp [Lib.joinTail]
  | p :: P, h => by
    have a := jt_len P (fun q hq => h q (by simp [hq]))
    have b := h p (by simp)
    unfold Lib.joinTail at a ⊢
    rw [List.map_cons, List.flatten_cons, List.length_append, List.length_append, List.length_cons, List.length_cons, List.length_nil]; omega
theorem list_len {ns : List Int} {t : List UInt8} (h : listL ns = (t, 0)) : t.length ≤ 1048576 := by
  unfold listL at h
  split at h
  · cases h
  · rename_i hl
    split at h
    · cases h
    · rename_i hr
      split at h
      · cases h
      · split at h
        · cases h; simp
        · cases h
          obtain ⟨a, b⟩ := pcs_len (ns := ns) (by simpa using hr) ns.length 0 (by omega)
          unfold listS
          cases hp : piecesF ns 0 with
          | nil => simp [Lib.join]
          | cons p P =>
            rw [hp] at a b
            rw [Lib.join_cons, List.length_append]
            have c := jt_len P (fun q hq => b q (by simp [hq]))
            have d := b p (by simp)
            rw [List.length_cons] at a
            omega

set_option maxRecDepth 20000 in
set_option maxHeartbeats 4000000 in
theorem inv_main (s : ByteArray) (va : Value) (fs : List FD) (la : Option Addr) (lc : Nat) (ns : List Int) (n : Int) (w : World) (hG : G1 w) (hM : MaxAt w) (hs : s.size ≤ 3000) (hf : farB fs = false) (hn : ns.length ≤ 510) (hA : FA w va fs)
    (hI : IA w (.slice la ns.length lc) ns) (h0 : -9223372036854775808 ≤ n) (h1 : n ≤ 9223372036854775807) :
    Calls Tryd.prog 9 #[.string s, va, .agg #[.slice la ns.length lc, .int .i64 n]] w fun e w' => e = .returned (.bool true) ∧ Below w.heap.size w w' := by
  obtain ⟨lv, hlv⟩ : ∃ v, v = Value.slice la ns.length lc := ⟨_, rfl⟩
  have hV : V8 w va lv fs ns n (w.alloc (.cells #[.slice la ns.length lc, .int .i64 n] 47)) := by subst hlv; exact V8.start _ hG hM hA hI
  have HV := Lib.hid hV; have HLV := Lib.hid hlv
  have x0 : (w.alloc (.cells #[.slice la ns.length lc, .int .i64 n] 47)).cell? ⟨w.heap.size, 0, none⟩ = some (.slice la ns.length lc) := by rw [hV.c0, hlv]
  have x1 := hV.c1
  have HF := Lib.hid hf
  have HS : Hid (s.size ≤ maxLen) := Lib.hid (by unfold maxLen; omega)
  clear hG hM hA hI hf hlv hV
  go_enter Tryd.func9, Tryd.ntmps9
  obtain ⟨sp, hsp⟩ : ∃ x, splitL s.data.toList = x := ⟨_, rfl⟩
  obtain ⟨f1, e1⟩ := sp
  have HSP : Hid (∀ W, V8 w va lv fs ns n W → Calls Tryd.prog 23 #[.string s] W fun e w' => ∃ v, e = .returned (.tuple #[v, .int .i64 e1]) ∧ FSl w' v f1 ∧ Below W.heap.size W w') := Lib.hid (fun W h => by
    have := split_any s W HS.out h.g1.esc h.g1.lt
    unfold SplitPost at this
    rw [hsp] at this; exact this)
  go_upto_if 45 with (first
    | (go_at_call 26; refine (farA _ fs _ HV.out.fa).mono ?_; rintro e w1 ⟨rfl, rfl⟩; rw [HF.out])
    | (go_at_call 23; refine (HSP.out _ HV.out).mono ?_; rintro e w1 ⟨v1, rfl, hv, hb⟩; have HV1 := Lib.hid hv; replace HV := Lib.hid (HV.out.step hb); clear hb hv x0 x1))
  go_cut [] (fun wc => Hid (V8 w va lv fs ns n wc))
  case first =>
    by_cases he : e1 = 0
    · subst he
      have HJ : Hid (∀ W, V8 w va lv fs ns n W → FSl W v1 f1 → Calls Tryd.prog 27 #[v1] W fun e w' => e = .returned (.tuple #[.string s, .int .i64 0]) ∧ Below W.heap.size W w') := Lib.hid (fun W h hv => by
        have := joinA_any v1 f1 W (.inl hv) h.g1.esc h.g1.lt
        unfold JoinPost at this
        rw [join_split hsp] at this
        dsimp only at this
        rwa [ba_eta] at this)
      have q : (s.toList != s.toList) = false := by simp
      go_wp2_with (go_at_call 27; refine (HJ.out _ HV.out HV1.out).mono ?_; rintro e w2 ⟨rfl, hb⟩; replace HV := Lib.hid (HV.out.step hb); clear hb)
      go_meet
      exact HV
    · have j : (e1 == 0) = false := beq_eq_false_iff_ne.2 he
      go_wp2_with fail
      go_meet
      exact HV
  case rest =>
    clear HSP HV1
    replace HV := hcut
    clear hcut hsp
    obtain ⟨T2, hT2⟩ : ∃ T : ByteArray, (⟨(joinL fs).1.toArray⟩ : ByteArray) = T := ⟨_, rfl⟩
    obtain ⟨e2, he2⟩ : ∃ x, (joinL fs).2 = x := ⟨_, rfl⟩
    have HJ2 : Hid (∀ W, V8 w va lv fs ns n W → Calls Tryd.prog 27 #[va] W fun e w' => e = .returned (.tuple #[.string T2, .int .i64 e2]) ∧ Below W.heap.size W w') := Lib.hid (fun W h => by
      refine (joinA_any va fs W h.fa h.g1.esc h.g1.lt).mono ?_; rintro e w' ⟨rfl, hb⟩; exact ⟨by rw [hT2, he2], hb⟩)
    go_upto_if 64 with (go_at_call 27; refine (HJ2.out _ HV.out).mono ?_; rintro e w1 ⟨rfl, hb⟩; replace HV := Lib.hid (HV.out.step hb); clear hb)
    go_cut [] (fun wc => Hid (V8 w va lv fs ns n wc))
    case first =>
      by_cases he : e2 = 0
      · subst he
        have hj : joinL fs = ((joinL fs).1, 0) := by rw [← he2]
        have hsz : T2.size ≤ maxLen := by
          have := (joinL_ok hj).2.2.2
          rw [← hT2]; show (joinL fs).1.toArray.size ≤ _; unfold maxLen; simp; omega
        have hd : T2.data.toList = (joinL fs).1 := by rw [← hT2]
        have HS2 : Hid (∀ W, V8 w va lv fs ns n W → Calls Tryd.prog 23 #[.string T2] W fun e w' => ∃ v, e = .returned (.tuple #[v, .int .i64 0]) ∧ FSl w' v fs ∧ Below W.heap.size W w') := Lib.hid (fun W h => by
          have := split_any T2 W hsz h.g1.esc h.g1.lt
          unfold SplitPost at this
          rw [hd, split_join hj] at this; exact this)
        clear hj hsz hd hT2 he2
        go_wp2_with (first
          | (go_at_call 23; refine (HS2.out _ HV.out).mono ?_; rintro e w2 ⟨v2, rfl, hv, hb⟩; have HV2 := Lib.hid hv; replace HV := Lib.hid (HV.out.step hb); clear hb hv)
          | (go_at_call 25; refine (same_eq _ _ fs _ (.inl HV2.out) HV.out.fa).mono ?_; rintro e w3 ⟨rfl, k, rfl⟩; replace HV := Lib.hid (HV.out.drew k); clear HV2))
        go_meet
        exact HV
      · have j : (e2 == 0) = false := beq_eq_false_iff_ne.2 he
        go_wp2_with fail
        go_meet
        exact HV
    case rest =>
      replace HV := hcut
      clear hcut hT2 he2 HJ2
      obtain ⟨Q, hQ⟩ : ∃ T : ByteArray, (⟨(quoteL s.data.toList).toArray⟩ : ByteArray) = T := ⟨_, rfl⟩
      have hQd : Q.data.toList = quoteL s.data.toList := by rw [← hQ]
      have hQs : Q.size ≤ 35184372088000 := by
        have := quoteL_len s.data.toList
        rw [len_data] at this
        rw [← hQ]; show (quoteL s.data.toList).toArray.size ≤ _; simp; omega
      obtain ⟨uq, huq⟩ : ∃ x, unqL s.data.toList = x := ⟨_, rfl⟩
      obtain ⟨V, e3⟩ := uq
      have HQ1 : Hid (∀ W, V8 w va lv fs ns n W → Calls Tryd.prog 21 #[.string s] W fun e w' => e = .returned (.string Q) ∧ Below W.heap.size W w') := Lib.hid (fun W h => by
        refine (quote_any s W (by omega) h.g1.esc h.g1.lt).mono ?_; rintro e w' ⟨rfl, hb⟩; exact ⟨by rw [hQ], hb⟩)
      have HU1 : Hid (∀ W, V8 w va lv fs ns n W → Calls Tryd.prog 19 #[.string Q] W fun e w' => e = .returned (.tuple #[.string s, .int .i64 0]) ∧ Below W.heap.size W w') := Lib.hid (fun W h => by
        refine (unquote_any Q W hQs h.g1.esc h.g1.lt).mono ?_; rintro e w' ⟨rfl, hb⟩; exact ⟨by rw [hQd, unq_quote, ba_eta], hb⟩)
      have HU2 : Hid (∀ W, V8 w va lv fs ns n W → Calls Tryd.prog 19 #[.string s] W fun e w' => e = .returned (.tuple #[.string ⟨V.toArray⟩, .int .i64 e3]) ∧ Below W.heap.size W w') := Lib.hid (fun W h => by
        refine (unquote_any s W (by omega) h.g1.esc h.g1.lt).mono ?_; rintro e w' ⟨rfl, hb⟩; exact ⟨by rw [huq], hb⟩)
      have HQ2 : Hid (e3 = 0 → ∀ W, V8 w va lv fs ns n W → Calls Tryd.prog 21 #[.string ⟨V.toArray⟩] W fun e w' => e = .returned (.string s) ∧ Below W.heap.size W w') := Lib.hid (fun he W h => by
        subst he
        have hv := quote_unq huq
        have hl : V.length ≤ s.data.toList.length := by
          rw [← hv]; unfold quoteL; have := flat_len_ge V
          rw [List.length_append, List.length_cons]; omega
        rw [len_data] at hl
        refine (quote_any ⟨V.toArray⟩ W (by show V.toArray.size ≤ _; simp; omega) h.g1.esc h.g1.lt).mono ?_; rintro e w' ⟨rfl, hb⟩
        refine ⟨?_, hb⟩
        show Ending.returned (.string ⟨(quoteL V).toArray⟩) = _
        rw [hv, ba_eta])
      clear hQ hQd hQs huq
      have q : (s.toList != s.toList) = false := by simp
      have tok1 : True := trivial
      have tok2 : True := trivial
      go_upto_region 15 with (first
        | (go_at_call 21; have _t := tok1; refine (HQ1.out _ HV.out).mono ?_; rintro e w1 ⟨rfl, hb⟩; replace HV := Lib.hid (HV.out.step hb); clear hb tok1 _t)
        | (go_at_call 19; have _t := tok2; refine (HU1.out _ HV.out).mono ?_; rintro e w1 ⟨rfl, hb⟩; replace HV := Lib.hid (HV.out.step hb); clear hb tok2 _t)
        | (go_at_call 19; refine (HU2.out _ HV.out).mono ?_; rintro e w1 ⟨rfl, hb⟩; replace HV := Lib.hid (HV.out.step hb); clear hb))
      go_cut [105] (fun s105 wc => s105 = .bool false ∧ Hid (V8 w va lv fs ns n wc))
      case first =>
        by_cases he : e3 = 0
        · subst he
          go_wp2_with (go_at_call 21; refine (HQ2.out rfl _ HV.out).mono ?_; rintro e w1 ⟨rfl, hb⟩; replace HV := Lib.hid (HV.out.step hb); clear hb)
          go_meet
          exact ⟨rfl, HV⟩
        · have j : (e3 == 0) = false := beq_eq_false_iff_ne.2 he
          go_wp2_with fail
          go_meet
          exact ⟨rfl, HV⟩
      case rest =>
        obtain ⟨rfl, hcut⟩ := hcut
        replace HV := hcut
        clear hcut HQ1 HQ2 HU1 HU2
        obtain ⟨T4, hT4⟩ : ∃ T : ByteArray, (⟨(listL ns).1.toArray⟩ : ByteArray) = T := ⟨_, rfl⟩
        obtain ⟨e4, he4⟩ : ∃ x, (listL ns).2 = x := ⟨_, rfl⟩
        have HL4 : Hid (∀ W, V8 w va lv fs ns n W → Calls Tryd.prog 30 #[.slice la ns.length lc] W fun e w' => e = .returned (.tuple #[.string T4, .int .i64 e4]) ∧ Below W.heap.size W w') := Lib.hid (fun W h => by
          have hi := h.ia
          rw [HLV.out] at hi
          refine (listA_any _ ns W hi h.g1.tab).mono ?_; rintro e w' ⟨rfl, hb⟩; exact ⟨by rw [hT4, he4], hb⟩)
        have x0 : wc.cell? ⟨w.heap.size, 0, none⟩ = some (.slice la ns.length lc) := by rw [HV.out.c0, HLV.out]
        go_upto_if 113 with (go_at_call 30; refine (HL4.out _ HV.out).mono ?_; rintro e w1 ⟨rfl, hb⟩; replace HV := Lib.hid (HV.out.step hb); clear hb x0)
        go_cut [] (fun wc => Hid (V8 w va lv fs ns n wc))
        case first =>
          by_cases he : e4 = 0
          · subst he
            have hj : listL ns = ((listL ns).1, 0) := by rw [← he4]
            have hsz : T4.size ≤ 1048576 := by
              have := list_len hj
              rw [← hT4]; show (listL ns).1.toArray.size ≤ _; simp; omega
            have hd : T4.data.toList = (listL ns).1 := by rw [← hT4]
            have HP4 : Hid (∀ W, V8 w va lv fs ns n W → Calls Tryd.prog 32 #[.string T4] W fun e w' => ∃ v, e = .returned (.tuple #[v, .int .i64 0]) ∧ ISl w' v ns ∧ Below W.heap.size W w') := Lib.hid (fun W h => by
              have := parseList_any T4 W hsz h.mx h.g1.err
              unfold ParsePost at this
              rw [hd, parse_list hj] at this; exact this)
            clear hj hsz hd hT4 he4
            go_wp2_with (first
              | (go_at_call 32; refine (HP4.out _ HV.out).mono ?_; rintro e w2 ⟨v2, rfl, hv, hb⟩; have HV2 := Lib.hid hv; replace HV := Lib.hid (HV.out.step hb); have x0 : w2.cell? ⟨w.heap.size, 0, none⟩ = some (.slice la ns.length lc) := (by rw [HV.out.c0, HLV.out]); clear hb hv)
              | (go_at_call 34; refine (lists_eq _ _ ns _ (.inl HV2.out) (by rw [← HLV.out]; exact HV.out.ia)).mono ?_; rintro e w3 ⟨rfl, k, rfl⟩; replace HV := Lib.hid (HV.out.drew k); clear HV2))
            go_meet
            exact HV
          · have j : (e4 == 0) = false := beq_eq_false_iff_ne.2 he
            go_wp2_with fail
            go_meet
            exact HV
        case rest =>
          replace HV := hcut
          clear hcut hT4 he4 HL4
          obtain ⟨pl, hpl⟩ : ∃ x, parseL s.data.toList = x := ⟨_, rfl⟩
          obtain ⟨ms, e5⟩ := pl
          have HP5 : Hid (∀ W, V8 w va lv fs ns n W → Calls Tryd.prog 32 #[.string s] W fun e w' => ∃ v, e = .returned (.tuple #[v, .int .i64 e5]) ∧ ISl w' v ms ∧ Below W.heap.size W w') := Lib.hid (fun W h => by
            have := parseList_any s W (by omega) h.mx h.g1.err
            unfold ParsePost at this
            rw [hpl] at this; exact this)
          go_upto_if 134 with (go_at_call 32; refine (HP5.out _ HV.out).mono ?_; rintro e w1 ⟨v5, rfl, hv, hb⟩; have HV5 := Lib.hid hv; replace HV := Lib.hid (HV.out.step hb); clear hb hv)
          go_cut [] (fun wc => Hid (V8 w va lv fs ns n wc))
          case first =>
            by_cases he : e5 = 0
            · subst he
              have HL5 : Hid (∀ W, V8 w va lv fs ns n W → ISl W v5 ms → Calls Tryd.prog 30 #[v5] W fun e w' => e = .returned (.tuple #[.string s, .int .i64 0]) ∧ Below W.heap.size W w') := Lib.hid (fun W h hv => by
                have := listA_any v5 ms W (.inl hv) h.g1.tab
                rw [list_parse hpl] at this
                dsimp only at this
                rwa [ba_eta] at this)
              have q : (s.toList != s.toList) = false := by simp
              go_wp2_with (go_at_call 30; refine (HL5.out _ HV.out HV5.out).mono ?_; rintro e w2 ⟨rfl, hb⟩; replace HV := Lib.hid (HV.out.step hb); clear hb)
              go_meet
              exact HV
            · have j : (e5 == 0) = false := beq_eq_false_iff_ne.2 he
              go_wp2_with fail
              go_meet
              exact HV
          case rest =>
            replace HV := hcut
            clear hcut HP5 HV5 hpl
            obtain ⟨D, hD⟩ : ∃ T : ByteArray, (⟨(Lib.itoa n).toArray⟩ : ByteArray) = T := ⟨_, rfl⟩
            have hDd : D.data.toList = Lib.itoa n := by rw [← hD]
            have hDs : D.size ≤ 281474976710656 := by
              have := itoa_len64 n h0 h1
              rw [← hD]; show (Lib.itoa n).toArray.size ≤ _; simp; omega
            have HD : Hid (∀ W, V8 w va lv fs ns n W → Calls Tryd.prog 17 #[.int .i64 n] W fun e w' => e = .returned (.string D) ∧ Below W.heap.size W w') := Lib.hid (fun W h => by
              refine (digits_any n W h0 h1 h.g1.tab).mono ?_; rintro e w' ⟨rfl, hb⟩; exact ⟨by rw [hD], hb⟩)
            have HN : Hid (∀ W, V8 w va lv fs ns n W → Calls Tryd.prog 13 #[.string D, .int .i64 n, .int .i64 n] W fun e w' => e = .returned (.tuple #[.int .i64 n, .int .i64 0]) ∧ Below W.heap.size W w') := Lib.hid (fun W h => by
              refine (int_any D n n W hDs h0 h1 h.g1.err).mono ?_; rintro e w' ⟨rfl, hb⟩; exact ⟨by rw [hDd, int_digits n n n (Int.le_refl _) (Int.le_refl _)], hb⟩)
            obtain ⟨ki, hki⟩ : ∃ x, intSp s.data.toList (-9223372036854775808) 9223372036854775807 = x := ⟨_, rfl⟩
            obtain ⟨k, e6⟩ := ki
            have HI6 : Hid (∀ W, V8 w va lv fs ns n W → Calls Tryd.prog 13 #[.string s, .int .i64 (-9223372036854775808), .int .i64 9223372036854775807] W fun e w' => e = .returned (.tuple #[.int .i64 k, .int .i64 e6]) ∧ Below W.heap.size W w') := Lib.hid (fun W h => by
              refine (int_any s _ _ W (by omega) (by omega) (by omega) h.g1.err).mono ?_; rintro e w' ⟨rfl, hb⟩; exact ⟨by rw [hki], hb⟩)
            have HD6 : Hid (e6 = 0 → ∀ W, V8 w va lv fs ns n W → Calls Tryd.prog 17 #[.int .i64 k] W fun e w' => e = .returned (.string s) ∧ Below W.heap.size W w') := Lib.hid (fun he W h => by
              subst he
              have hk := intSp_bnds hki
              refine (digits_any k W hk.1 hk.2 h.g1.tab).mono ?_; rintro e w' ⟨rfl, hb⟩; exact ⟨by rw [digits_int hki, ba_eta], hb⟩)
            have HVd : Hid (V8 w va lv fs ns n wc.drew) := Lib.hid (HV.out.drew 1)
            clear hD hDd hDs hki
            go_upto_region 27 with fail
            go_region_held3 (fun w' => w'.cell? ⟨w.heap.size, 1, none⟩ = some (.int .i64 n) ∧ Hid (V8 w va lv fs ns n w')) (first | exact ⟨HVf.out.c1, HVf⟩ | exact ⟨HVe.out.c1, HVe⟩ | exact ⟨HVd.out.c1, HVd⟩)
              (first
                | (go_at_call 17; refine (HD.out _ HVd.out).mono ?_; rintro e w2 ⟨rfl, hb⟩; have HVe := Lib.hid (HVd.out.step hb); clear hb)
                | (go_at_call 13; refine (HN.out _ HVe.out).mono ?_; rintro e w3 ⟨rfl, hb⟩; have HVf := Lib.hid (HVe.out.step hb); clear hb))
            clear HV
            have HV := HVf
            clear HVd HVe HVf HD HN
            have x1 := HV.out.c1
            have jn : (n == n) = true := beq_self_eq_true _
            have q : (s.toList == s.toList) = true := beq_self_eq_true _
            by_cases he : e6 = 0
            case' pos =>
              subst he
              replace HD6 := Lib.hid (HD6.out rfl)
            case' neg => have j : (e6 != 0) = true := bne_iff_ne.2 he
            all_goals
              go_wp2_with (first
                | (go_at_call 13; refine (HI6.out _ HV.out).mono ?_; rintro e w4 ⟨rfl, hb⟩; replace HV := Lib.hid (HV.out.step hb); replace x1 := HV.out.c1; clear hb)
                | (go_at_call 17; refine (HD6.out _ HV.out).mono ?_; rintro e w5 ⟨rfl, hb⟩; replace HV := Lib.hid (HV.out.step hb); clear hb)
                | (go_at_call 12; refine (shown_any _ HV.out.g1).mono ?_; rintro e w6 ⟨rfl, hb⟩; replace HV := Lib.hid (HV.out.step hb); clear hb))
              go_ret
              exact ⟨rfl, HV.out.bel⟩
set_option maxRecDepth 20000 in
set_option maxHeartbeats 1000000 in
/-- What is not examined. -/
theorem inv_early (s : ByteArray) (va : Value) (fs : List FD) (la : Option Addr) (lc : Nat) (ns : List Int) (n : Int) (w : World) (hG : G1 w) (hM : MaxAt w) (hs : s.size ≤ maxLen) (hn : ns.length ≤ maxLen) (hA : FA w va fs)
    (hI : IA w (.slice la ns.length lc) ns) (hc : 3000 < s.size ∨ (s.size ≤ 3000 ∧ (farB fs = true ∨ (farB fs = false ∧ 510 < ns.length)))) :
    Calls Tryd.prog 9 #[.string s, va, .agg #[.slice la ns.length lc, .int .i64 n]] w fun e w' => e = .returned (.bool true) ∧ Below w.heap.size w w' := by
  have hV : V8 w va (.slice la ns.length lc) fs ns n (w.alloc (.cells #[.slice la ns.length lc, .int .i64 n] 47)) := V8.start _ hG hM hA hI
  have HV := Lib.hid hV
  have x0 := hV.c0
  clear hG hM hA hI hV
  unfold maxLen at hs hn
  rcases hc with hc | ⟨hc, hf | ⟨hf, hc2⟩⟩
  case' inl => have HF : Hid (farB fs = farB fs) := Lib.hid rfl
  case' inr.inl => have HF := Lib.hid hf; clear hf
  case' inr.inr => have HF := Lib.hid hf; clear hf
  all_goals
    go_enter Tryd.func9, Tryd.ntmps9
    go_wp2_with (first
      | (go_at_call 26; refine (farA _ fs _ HV.out.fa).mono ?_; rintro e w1 ⟨rfl, rfl⟩; rw [HF.out])
      | (go_at_call 12; refine (shown_any _ HV.out.g1).mono ?_; rintro e w6 ⟨rfl, hb⟩; replace HV := Lib.hid (HV.out.step hb); clear hb x0))
    go_ret
    exact ⟨rfl, HV.out.bel⟩
theorem inverse_any (s : ByteArray) (va : Value) (fs : List FD) (lv : Value) (ns : List Int) (n : Int) (w : World) (hG : G1 w) (hM : MaxAt w) (hs : s.size ≤ maxLen) (hA : FA w va fs) (hI : IA w lv ns) (hn : -9223372036854775808 ≤ n ∧ n ≤ 9223372036854775807) :
    Calls Tryd.prog 9 #[.string s, va, .agg #[lv, .int .i64 n]] w fun e w' => e = .returned (.bool true) ∧ Below w.heap.size w w' := by
  obtain ⟨la, lc, rfl, hml⟩ := hI.len
  by_cases h1 : 3000 < s.size
  · exact inv_early s va fs la lc ns n w hG hM hs hml hA hI (.inl h1)
  cases hf : farB fs
  · by_cases h2 : 510 < ns.length
    · exact inv_early s va fs la lc ns n w hG hM hs hml hA hI (.inr ⟨by omega, .inr ⟨hf, h2⟩⟩)
    · exact inv_main s va fs la lc ns n w hG hM (by omega) hf (by omega) hA hI hn.1 hn.2
  · exact inv_early s va fs la lc ns n w hG hM hs hml hA hI (.inr ⟨by omega, .inl hf⟩)
end Go.Proofs.YtkafcbiiponacaaDoor
