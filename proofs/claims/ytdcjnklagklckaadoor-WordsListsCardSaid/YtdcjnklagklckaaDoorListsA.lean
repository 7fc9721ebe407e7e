/- The reference's List. -/
import Derived.Test.YtdcjnklagklckaaDoorInvC
import Derived.Test.YtdcjnklagklckaaDoorDecM
namespace Go.Proofs.YtdcjnklagklckaaDoor
open Go.RowKit Go.Shelf
set_option linter.unusedVariables false

set_option maxRecDepth 20000 in
set_option maxHeartbeats 4000000 in
theorem rlist_any (v : Value) (ns : List Int) (w : World) (h : ISl w v ns) :
    Calls Tryd.prog 31 #[v] w fun e w' => e = .returned (.tuple #[.string ⟨(listL ns).1.toArray⟩, .int .i64 (listL ns).2]) ∧ Below w.heap.size w w' := by
  rcases h with ⟨rfl, rfl⟩ | ⟨g, off, cap, rfl, hg, hml, hcell⟩
  · go_enter Tryd.func31, Tryd.ntmps31
    go_wp2_with fail
    refine wp_loop_rounds 1 ?_
    rw [rounds_succ]
    go_wp2_with fail
    refine wp_loop_rounds 1 ?_
    rw [rounds_succ]
    go_wp2_with fail
    refine bodyPost_ret (v := .tuple #[.string ⟨#[45]⟩, .int .i64 0]) (by simp [results, Tryd.f31, go_sem]) rfl ⟨rfl, Below.refl _ _⟩
  · have HC := Lib.hid hcell; clear hcell
    unfold maxLen at hml
    by_cases hlong : 500 < ns.length
    · have HN : Hid (listL ns = ([], 3)) := Lib.hid (by unfold listL; rw [if_pos hlong])
      go_enter Tryd.func31, Tryd.ntmps31
      go_wp2_with fail
      refine bodyPost_ret (v := .tuple #[.string ⟨#[]⟩, .int .i64 3]) (by simp [results, Tryd.f31, go_sem]) rfl ⟨by rw [HN.out], Below.refl _ _⟩
    · go_enter Tryd.func31, Tryd.ntmps31
      go_wp2_with fail
      go_loopw [4] (fun i wr => ∃ k : Nat, k ≤ ns.length ∧ i = .int .i64 k ∧ Hid (wr = w) ∧ Hid (∀ j, j < k → 0 ≤ ns.getD j 0 ∧ ns.getD j 0 ≤ 1000000000)) (fun i _ => ns.length - (intOf i).toNat)
      case atStart => exact ⟨0, by omega, rfl, Lib.hid rfl, Lib.hid (fun j hj => absurd hj (by omega))⟩
      case round =>
        obtain ⟨k, hk, rfl, HW, HX⟩ := hrel
        by_cases hlt : k < ns.length
        · obtain ⟨x, hx⟩ : ∃ x, ns.getD k 0 = x := ⟨_, rfl⟩
          have c0 : wr.cell? ⟨g, off + k, none⟩ = some (.int .i64 x) := by
            rw [HW.out, ← hx, List.getD_eq_getElem?_getD, List.getElem?_eq_getElem hlt]; exact HC.out k hlt
          have j1 : (k : Int) < (ns.length : Int) := by omega
          have HXX := Lib.hid hx; clear hx
          have HG : Hid ((x < 0 ∨ 1000000000 < x) → listL ns = ([], 7)) := Lib.hid (fun hb => by
            unfold listL; rw [if_neg hlong, if_pos (rangeB_bad hlt (by rw [HXX.out]; omega))])
          by_cases hb1 : x < 0
          case' pos =>
            have j2 : decide (x < 0) = true := decide_eq_true hb1
            have HN := Lib.hid (HG.out (.inl hb1))
          case' neg =>
            have j2 : decide (x < 0) = false := decide_eq_false hb1
            by_cases hb2 : 1000000000 < x
            case' pos =>
              have j3 : decide (1000000000 < x) = true := decide_eq_true hb2
              have HN := Lib.hid (HG.out (.inr hb2))
            case' neg =>
              have j3 : decide (1000000000 < x) = false := decide_eq_false hb2
              have HX2 : Hid (∀ j, j < k + 1 → 0 ≤ ns.getD j 0 ∧ ns.getD j 0 ≤ 1000000000) := Lib.hid (fun j hj => by
                by_cases h : j < k
                · exact HX.out j h
                · obtain rfl : j = k := by omega
                  rw [HXX.out]; omega)
          all_goals go_wp2_with fail
          all_goals first
            | (refine bodyPost_ret (v := .tuple #[.string ⟨#[]⟩, .int .i64 7]) (by simp [results, Tryd.f31, go_sem]) rfl ⟨by rw [HN.out], by rw [HW.out]; exact Below.refl _ _⟩)
            | (go_roundw
               case rel => exact ⟨k + 1, by omega, by go_num, HW, HX2⟩
               case measure => simp [intOf]; omega)
        · have hR : rangeB ns = false := (rangeB_iff ns).2 (fun j hj => HX.out j (by omega))
          have HL : Hid (listL ns = if !ascB ns then ([], 6) else if ns.length = 0 then ([45], 0) else (listS ns, 0)) := Lib.hid (by
            unfold listL; rw [if_neg hlong, hR]; rfl)
          have HR := Lib.hid hR; clear hR
          obtain ⟨wo, hwo⟩ : ∃ wo, wo = wr := ⟨_, rfl⟩
          subst hwo
          go_wp2_with fail
          go_loopw [5] (fun i wr => ∃ k : Nat, 1 ≤ k ∧ (k ≤ ns.length ∨ k = 1) ∧ i = .int .i64 k ∧ Hid (∃ n, wr = w.drewN n) ∧ Hid (∀ j, j < k → j < ns.length → 1 ≤ j → ns.getD (j - 1) 0 < ns.getD j 0)) (fun i _ => ns.length - (intOf i).toNat)
          case atStart => exact ⟨1, by omega, .inr rfl, rfl, Lib.hid ⟨0, HW.out⟩, Lib.hid (fun j hj => by omega)⟩
          case round =>
            obtain ⟨m, hm1, hm2, rfl, HW2, HY⟩ := hrel
            have HC2 : Hid (∀ p, wr.cell? p = w.cell? p) := Lib.hid (fun p => by obtain ⟨n, e⟩ := HW2.out; rw [e]; rfl)
            have HB : Hid (Below w.heap.size w wr) := Lib.hid (by obtain ⟨n, e⟩ := HW2.out; rw [e]; exact bl_drewN _ (Below.refl _ _))
            by_cases hlt2 : m < ns.length
            · obtain ⟨q, hq⟩ : ∃ q : Nat, m - 1 = q := ⟨_, rfl⟩
              obtain ⟨x, hx⟩ : ∃ x, ns.getD m 0 = x := ⟨_, rfl⟩
              obtain ⟨y, hy⟩ : ∃ y, ns.getD q 0 = y := ⟨_, rfl⟩
              have hq2 : q < ns.length := by omega
              have c0 : wr.cell? ⟨g, off + m, none⟩ = some (.int .i64 x) := by
                rw [HC2.out, ← hx, List.getD_eq_getElem?_getD, List.getElem?_eq_getElem hlt2]; exact HC.out m hlt2
              have c1 : wr.cell? ⟨g, off + q, none⟩ = some (.int .i64 y) := by
                rw [HC2.out, ← hy, List.getD_eq_getElem?_getD, List.getElem?_eq_getElem hq2]; exact HC.out q hq2
              have j1 : (m : Int) < (ns.length : Int) := by omega
              have j2 : (q : Int) < (ns.length : Int) := by omega
              have w1 : IntKind.i64.wrap ((m : Int) - 1) = (q : Int) := by rw [IntWalk.i64_in _ (by omega)]; omega
              have HXX := Lib.hid hx; have HYY := Lib.hid hy; clear hx hy
              by_cases hb1 : x ≤ y
              case' pos =>
                have j3 : decide (x ≤ y) = true := decide_eq_true hb1
                have HN : Hid (listL ns = ([], 6)) := Lib.hid (by
                  rw [HL.out, show ascB ns = false from decide_eq_false (fun h => by have := h m hlt2 hm1; rw [HXX.out, hq, HYY.out] at this; omega)]; rfl)
              case' neg =>
                have j3 : decide (x ≤ y) = false := decide_eq_false hb1
                have HY2 : Hid (∀ j, j < m + 1 → j < ns.length → 1 ≤ j → ns.getD (j - 1) 0 < ns.getD j 0) := Lib.hid (fun j hj hj2 hj3 => by
                  by_cases h : j < m
                  · exact HY.out j h hj2 hj3
                  · obtain rfl : j = m := by omega
                    rw [HXX.out, hq, HYY.out]; omega)
              all_goals
                go_wp2_with fail
                go_quiet (fail)
                go_wp2_with fail
              all_goals first
                | (refine bodyPost_ret (v := .tuple #[.string ⟨#[]⟩, .int .i64 6]) (by simp [results, Tryd.f31, go_sem]) rfl ⟨by rw [HN.out], bl_drewN _ HB.out⟩)
                | (go_roundw
                   case rel => exact ⟨m + 1, by omega, .inl (by omega), by go_num, Lib.hid (by obtain ⟨n, e⟩ := HW2.out; rw [e]; exact ⟨n + nq, by simp [World.drewN, Nat.add_assoc]⟩), HY2⟩
                   case measure => simp [intOf]; omega)
            · have HL2 : Hid (listL ns = if ns.length = 0 then ([45], 0) else (listS ns, 0)) := Lib.hid (by
                rw [HL.out, show ascB ns = true from decide_eq_true (fun j hj hj2 => HY.out j (by omega) hj hj2)]; rfl)
              have j1 : decide ((m : Int) < (ns.length : Int)) = false := decide_eq_false (by omega)
              by_cases h0 : ns.length = 0
              case' pos =>
                have j2 : ((ns.length : Int) == 0) = true := by rw [beq_iff_eq]; omega
                have HN : Hid (listL ns = ([45], 0)) := Lib.hid (by rw [HL2.out, if_pos h0])
              case' neg =>
                have j2 : ((ns.length : Int) == 0) = false := by rw [beq_eq_false_iff_ne]; omega
                have HN : Hid (listL ns = (listS ns, 0)) := Lib.hid (by rw [HL2.out, if_neg h0])
              case pos =>
                go_wp2_with fail
                refine bodyPost_ret (v := .tuple #[.string ⟨#[45]⟩, .int .i64 0]) (by simp [results, Tryd.f31, go_sem]) rfl ⟨by rw [HN.out], HB.out⟩
              case neg =>
                obtain ⟨wo, hwo⟩ : ∃ wo, wo = wr := ⟨_, rfl⟩
                subst hwo
                have HG := Lib.hid (rangeB_get HR.out)
                have h5 : ns.length ≤ 500 := by omega
                go_wp2_with fail
                clear j2 h0 j1 HL2 HL HR HY HX HW HW2 hm1 hm2 hlt2 hk hlt
                go_loopw [6, 7] (fun v i wr => ∃ (k : Nat) (O : ByteArray), k ≤ ns.length ∧ i = .int .i64 k ∧ v = .string O ∧ O.size ≤ 44 * k ∧ (k = 0 ∧ O.size = 0 ∨ 0 < k ∧ 0 < O.size) ∧ Hid (Below w.heap.size w wr) ∧ Hid (∃ P : List (List UInt8), P ++ piecesF ns k = piecesF ns 0 ∧ Lib.join P [44] = O.data.toList ∧ (k = 0 → P = []) ∧ (0 < k → P ≠ []))) (fun _ i _ => ns.length - (intOf i).toNat)
                case atStart => exact ⟨0, ⟨#[]⟩, by omega, rfl, rfl, by decide, .inl ⟨rfl, rfl⟩, HB, Lib.hid ⟨[], rfl, rfl, fun _ => rfl, fun h => absurd h (by omega)⟩⟩
                case round =>
                  clear HB
                  obtain ⟨k, O, hk, rfl, rfl, hO, hO2, HB, HP⟩ := hrel
                  obtain ⟨wo, hwo⟩ : ∃ wo, wo = wr := ⟨_, rfl⟩
                  subst hwo
                  by_cases hlt : k < ns.length
                  · have hcl : ∀ j, j < ns.length → wo.cell? ⟨g, off + j, none⟩ = some (.int .i64 (ns.getD j 0)) := fun j hj => by
                      rw [HB.out.cell (p := ⟨g, off + j, none⟩) hg, HC.out j hj, List.getD_eq_getElem?_getD, List.getElem?_eq_getElem hj]; rfl
                    have HCL := Lib.hid hcl; clear hcl
                    have HGT := Lib.hid HG.out
                    have j1 : (k : Int) < (ns.length : Int) := by omega
                    go_wp2_with fail
                    go_loopw [8] (fun i w2 => ∃ t : Nat, t < ns.length ∧ k ≤ t ∧ i = .int .i64 t ∧ Hid (runE ns t = runE ns k) ∧ Hid (∃ n, w2 = wo.drewN n)) (fun i _ => ns.length - (intOf i).toNat)
                    case atStart => exact ⟨k, hlt, Nat.le_refl _, rfl, Lib.hid rfl, Lib.hid ⟨0, rfl⟩⟩
                    case round =>
                      clear j1
                      obtain ⟨t, ht, hkt, rfl, HE, HW⟩ := hrel
                      have hcell2 : ∀ p, wr.cell? p = wo.cell? p := fun p => by obtain ⟨nd, e⟩ := HW.out; rw [e]; rfl
                      have HC2 := Lib.hid hcell2; clear hcell2
                      have hbr : Below wo.heap.size wo wr := by obtain ⟨nd, e⟩ := HW.out; rw [e]; exact bl_drewN _ (Below.refl _ _)
                      have HBR := Lib.hid hbr; clear hbr
                      obtain ⟨u, hu⟩ : ∃ u : Nat, t + 1 = u := ⟨_, rfl⟩
                      have w1 : IntKind.i64.wrap ((t : Int) + 1) = (u : Int) := by rw [IntWalk.i64_in _ (by omega)]; omega
                      obtain ⟨x, hx⟩ : ∃ x, ns.getD t 0 = x := ⟨_, rfl⟩
                      have c0 : wr.cell? ⟨g, off + t, none⟩ = some (.int .i64 x) := by rw [← hx]; exact (HC2.out _).trans (HCL.out t ht)
                      obtain ⟨g0, g1⟩ := HGT.out t ht
                      rw [hx] at g0 g1
                      have w2 : IntKind.i64.wrap (x + 1) = x + 1 := IntWalk.i64_in _ (by omega)
                      have HXX := Lib.hid hx; clear hx
                      by_cases h1 : u < ns.length
                      case' pos =>
                        obtain ⟨y, hy⟩ : ∃ y, ns.getD u 0 = y := ⟨_, rfl⟩
                        have c1 : wr.cell? ⟨g, off + u, none⟩ = some (.int .i64 y) := by rw [← hy]; exact (HC2.out _).trans (HCL.out u h1)
                        have j1 : (u : Int) < (ns.length : Int) := by omega
                        have HYY := Lib.hid hy; clear hy
                        by_cases h2 : y = x + 1
                        case pos =>
                          have HE2 : Hid (runE ns u = runE ns k) := Lib.hid (by rw [← HE.out]; conv => rhs; rw [runE, hu, if_pos h1, HXX.out, HYY.out, if_pos h2])
                          have e1 : (y == x + 1) = true := by rw [beq_iff_eq]; exact h2
                          clear h2
                          go_wp2_with fail
                          go_quiet (fail)
                          go_wp2_with fail
                          go_roundw
                          case rel => exact ⟨u, h1, by omega, rfl, HE2, Lib.hid (by obtain ⟨n, e⟩ := HW.out; rw [e]; exact ⟨n + nq, by simp [World.drewN, Nat.add_assoc]⟩)⟩
                          case measure => simp [intOf]; omega
                        have HE2 : Hid (runE ns k = t) := Lib.hid (by rw [← HE.out, runE, hu, if_pos h1, HXX.out, HYY.out, if_neg h2])
                        have e1 : (y == x + 1) = false := by rw [beq_eq_false_iff_ne]; exact h2
                        clear h2
                      case' neg =>
                        have HE2 : Hid (runE ns k = t) := Lib.hid (by rw [← HE.out, runE, hu, if_neg h1])
                        have j1 : decide ((u : Int) < (ns.length : Int)) = false := by rw [decide_eq_false_iff_not]; omega
                      all_goals
                        obtain ⟨z, hz⟩ : ∃ z, ns.getD k 0 = z := ⟨_, rfl⟩
                        have c2 : wr.cell? ⟨g, off + k, none⟩ = some (.int .i64 z) := by rw [← hz]; exact (HC2.out _).trans (HCL.out k hlt)
                        obtain ⟨f0, f1⟩ := HGT.out k hlt
                        rw [hz] at f0 f1
                        have HZZ := Lib.hid hz; clear hz
                        go_wp2_with fail
                        go_quiet (fail)
                        obtain ⟨DZ, hDZ⟩ : ∃ T : ByteArray, (⟨(Lib.itoa z).toArray⟩ : ByteArray) = T := ⟨_, rfl⟩
                        obtain ⟨DX, hDX⟩ : ∃ T : ByteArray, (⟨(Lib.itoa x).toArray⟩ : ByteArray) = T := ⟨_, rfl⟩
                        have lz : DZ.size ≤ 21 := by
                          have := Lib.itoa_length_le z (by omega) (by omega)
                          rw [← hDZ]; show (Lib.itoa z).toArray.size ≤ _; simp; omega
                        have lx : DX.size ≤ 21 := by
                          have := Lib.itoa_length_le x (by omega) (by omega)
                          rw [← hDX]; show (Lib.itoa x).toArray.size ≤ _; simp; omega
                        have lz0 : 0 < DZ.size := by
                          have : Lib.itoa z ≠ [] := by rw [itoa_nat z f0]; exact dd_ne _
                          have := List.length_pos_iff.2 this
                          rw [← hDZ]; show 0 < (Lib.itoa z).toArray.size; simpa using this
                        have HDZ : Hid (∀ W, Calls Tryd.prog 18 #[.int .i64 z] W fun e w' => e = .returned (.string DZ) ∧ Below W.heap.size W w') := Lib.hid (fun W => by
                          refine (rdigits_any z W (by omega) (by omega)).mono ?_; rintro e w' ⟨rfl, hb⟩; exact ⟨by rw [hDZ], hb⟩)
                        have HDX : Hid (∀ W, Calls Tryd.prog 18 #[.int .i64 x] W fun e w' => e = .returned (.string DX) ∧ Below W.heap.size W w') := Lib.hid (fun W => by
                          refine (rdigits_any x W (by omega) (by omega)).mono ?_; rintro e w' ⟨rfl, hb⟩; exact ⟨by rw [hDX], hb⟩)
                        have HP2 : Hid (∃ P : List (List UInt8), (P ++ [pieceB ns k t]) ++ piecesF ns u = piecesF ns 0 ∧ Lib.join (P ++ [pieceB ns k t]) [44] = if k = 0 then pieceB ns k t else O.data.toList ++ [44] ++ pieceB ns k t) := Lib.hid (by
                          obtain ⟨P, h1, h2, h3, h4⟩ := HP.out
                          refine ⟨P, ?_, ?_⟩
                          · rw [← h1, List.append_assoc]; congr 1; conv => rhs; rw [piecesF, dif_pos hlt, HE2.out]
                            rw [← hu]; rfl
                          · rw [join_snoc]
                            by_cases hk0 : k = 0
                            · rw [if_pos hk0, h3 hk0]; rfl
                            · rw [if_neg hk0, h2, if_neg (by have := h4 (by omega); simpa using this)])
                        have HPB : Hid (pieceB ns k t = DZ.data.toList ++ if k < t then 45 :: DX.data.toList else []) := Lib.hid (by rw [pieceB, HZZ.out, HXX.out, ← hDZ, ← hDX])
                        have HB2 : Hid (Below w.heap.size w wr) := Lib.hid (bl_call HB.out HBR.out)
                        have hgs : g < wr.heap.size := Nat.lt_of_lt_of_le hg HB2.out.size
                        clear hDZ hDX HBR HB HE HW HP HC2 HCL HGT g0 g1 f0 f1 w2 HE2
                        have hO5 : O.size ≤ 22000 := by omega
                        rcases hO2 with ⟨hk0, hO0⟩ | ⟨hk0, hO0⟩
                        case' inl =>
                          have HK0 := Lib.hid hk0
                          clear hk0
                          obtain rfl : O = ⟨#[]⟩ := by
                            apply WideShapes.bytes_inj
                            exact List.eq_nil_of_length_eq_zero (by rw [len_data]; exact hO0)
                        case' inr =>
                          have HK0 : Hid (¬ k = 0) := Lib.hid (by omega)
                          have hem : O.toList.isEmpty = false := by rw [isEmpty_size]; exact decide_eq_false (by omega)
                        all_goals
                          by_cases hkt2 : k < t
                          case' pos => have j4 : decide (k < t) = true := decide_eq_true hkt2
                          case' neg => have j4 : decide (k < t) = false := decide_eq_false hkt2
                          all_goals
                            have tokd : True := trivial
                            go_wp2_with (first
                              | (go_at_call 18; have _t := tokd; refine (HDZ.out _).mono ?_; rintro e w4 ⟨rfl, hb⟩; have c0' : w4.cell? ⟨g, off + t, none⟩ = some (.int .i64 x) := (hb.cell (p := ⟨g, off + t, none⟩) hgs).trans c0; replace HB2 := Lib.hid (bl_call (by first | exact HB2.out | exact bl_drewN _ HB2.out) hb); clear hb tokd _t)
                              | (go_at_call 18; refine (HDX.out _).mono ?_; rintro e w4 ⟨rfl, hb⟩; replace HB2 := Lib.hid (bl_call HB2.out hb); clear hb))
                            go_roundw
                            case rel =>
                              refine ⟨u, _, by omega, rfl, rfl, ?_, .inr ⟨by omega, ?_⟩, HB2, Lib.hid ?_⟩
                              · have s1 : (⟨#[44]⟩ : ByteArray).size = 1 := rfl
                                have s2 : (⟨#[45]⟩ : ByteArray).size = 1 := rfl
                                have s3 : (⟨#[]⟩ : ByteArray).size = 0 := rfl
                                simp only [ByteArray.size_append, s1, s2, s3]; omega
                              · have s1 : (⟨#[44]⟩ : ByteArray).size = 1 := rfl
                                have s2 : (⟨#[45]⟩ : ByteArray).size = 1 := rfl
                                have s3 : (⟨#[]⟩ : ByteArray).size = 0 := rfl
                                simp only [ByteArray.size_append, s1, s2, s3]; omega
                              · obtain ⟨P, h1, h2⟩ := HP2.out
                                refine ⟨P ++ [pieceB ns k t], h1, ?_, fun h => absurd h (by omega), fun _ => by simp⟩
                                rw [h2, HPB.out]
                                (first | rw [if_pos HK0.out] | rw [if_neg HK0.out])
                                (first | rw [if_pos hkt2] | rw [if_neg hkt2])
                                simp
                            case measure => simp [intOf]; omega
                  · have hO' : (⟨(listS ns).toArray⟩ : ByteArray) = O := by
                      obtain ⟨P, h1, h2, _, _⟩ := HP.out
                      rw [piecesF, dif_neg hlt, List.append_nil] at h1
                      apply WideShapes.bytes_inj
                      rw [← h2, h1]; rfl
                    have HO := Lib.hid hO'; clear hO'
                    have j1 : decide ((k : Int) < (ns.length : Int)) = false := decide_eq_false (by omega)
                    go_wp2_with fail
                    refine bodyPost_ret (v := .tuple #[.string O, .int .i64 0]) (by simp [results, Tryd.f31, go_sem]) rfl ⟨by rw [HN.out]; show _ = Ending.returned (.tuple #[.string ⟨(listS ns).toArray⟩, .int .i64 0]); rw [HO.out], HB.out⟩

set_option maxRecDepth 20000 in
set_option maxHeartbeats 400000 in
theorem rlist_zero (a : Option Addr) (ca : Nat) (w : World) :
    Calls Tryd.prog 31 #[.slice a 0 ca] w fun e w' => e = .returned (.tuple #[.string ⟨#[45]⟩, .int .i64 0]) ∧ Below w.heap.size w w' := by
  go_enter Tryd.func31, Tryd.ntmps31
  go_wp2_with fail
  refine wp_loop_rounds 1 ?_
  rw [rounds_succ]
  go_wp2_with fail
  refine wp_loop_rounds 1 ?_
  rw [rounds_succ]
  go_wp2_with fail
  refine bodyPost_ret (v := .tuple #[.string ⟨#[45]⟩, .int .i64 0]) (by simp [results, Tryd.f31, go_sem]) rfl ⟨rfl, Below.refl _ _⟩
theorem rlistA_any (v : Value) (ns : List Int) (w : World) (h : IA w v ns) :
    Calls Tryd.prog 31 #[v] w fun e w' => e = .returned (.tuple #[.string ⟨(listL ns).1.toArray⟩, .int .i64 (listL ns).2]) ∧ Below w.heap.size w w' := by
  rcases h with h | ⟨a, c, rfl, rfl⟩
  · exact rlist_any v ns w h
  · rw [list_nilL]; exact rlist_zero a c w
end Go.Proofs.YtdcjnklagklckaaDoor
