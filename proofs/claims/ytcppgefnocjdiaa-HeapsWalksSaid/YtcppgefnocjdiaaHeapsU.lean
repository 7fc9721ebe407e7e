/- Ints as arguments; made. -/
import Derived.Test.YtcppgefnocjdiaaHeapsT
namespace Go.Proofs.Ytcppgefnocjdiaa
open Go.RowKit Go.Lib Go.Sort Go.Shelf
set_option linter.unusedVariables false

/-- A slice of ints that is only read. -/
def RI (w : World) (v : Value) (xs : List Int) : Prop :=
  (∃ A c, v = .slice A 0 c ∧ xs = []) ∨
  ∃ g off c, v = .slice (some ⟨g, off, none⟩) xs.length c ∧ g < w.heap.size ∧ 0 < xs.length ∧ ∀ i, i < xs.length → w.cell? ⟨g, off + i, none⟩ = some (.int .i64 (xs.getD i 0))
theorem RI.later {W W' : World} {v : Value} {xs : List Int} (h : RI W v xs) (hb : Go.RowKit.Below W.heap.size W W') : RI W' v xs := by
  rcases h with h | ⟨g, off, c, rfl, h1, h0, h4⟩
  · exact .inl h
  · exact .inr ⟨g, off, c, rfl, Nat.lt_of_lt_of_le h1 hb.size, h0, fun i hi => (World.cell?_of_block (a := ⟨g, off + i, none⟩) (hb.block g h1)).trans (h4 i hi)⟩
theorem RI.len {W : World} {v : Value} {xs : List Int} (h : RI W v xs) : ∃ A c, v = .slice A xs.length c := by
  rcases h with ⟨A, c, rfl, rfl⟩ | ⟨g, off, c, rfl, _⟩
  · exact ⟨A, c, rfl⟩
  · exact ⟨_, _, rfl⟩
theorem RI.cell {W : World} {A : Option Addr} {n c : Nat} {xs : List Int} (h : RI W (.slice A n c) xs) {i : Nat} (hi : i < xs.length) : ∃ g off, A = some ⟨g, off, none⟩ ∧ W.cell? ⟨g, off + i, none⟩ = some (.int .i64 (xs.getD i 0)) := by
  rcases h with ⟨A', c', e, rfl⟩ | ⟨g, off, c', e, h1, h0, h4⟩
  · simp at hi
  · simp only [Value.slice.injEq] at e
    exact ⟨g, off, e.1, h4 i hi⟩
/-- The items that pushes of values make. -/
def itemsOf (l : List Int) : List HItem := l.zipIdx.map fun p => ((p.2 : Int) + 1, p.1)
theorem itemsOf_snoc (l : List Int) (x : Int) : itemsOf (l ++ [x]) = itemsOf l ++ [((l.length : Int) + 1, x)] := by
  unfold itemsOf
  rw [List.zipIdx_append, List.map_append]
  simp
theorem itemsOf_len (l : List Int) : (itemsOf l).length = l.length := by simp [itemsOf]
theorem itemsOf_mem {l : List Int} {x : HItem} (h : x ∈ itemsOf l) : ∃ i, i < l.length ∧ x.1 = (i : Int) + 1 ∧ l.getD i 0 = x.2 := by
  unfold itemsOf at h
  obtain ⟨p, hp, rfl⟩ := List.mem_map.1 h
  obtain ⟨i, hi⟩ := List.mem_iff_getElem?.1 hp
  rw [List.getElem?_zipIdx] at hi
  cases hx : l[i]? with
  | none => simp [hx] at hi
  | some y =>
    rw [hx] at hi
    simp at hi
    subst hi
    exact ⟨i, (List.getElem?_eq_some_iff.1 hx).1, by simp, by rw [List.getD_eq_getElem?_getD, hx]; rfl⟩
/-- A queue with pushed values. -/
def MaR (W : World) (qb mb : Nat) (odd : Bool) (l : List Int) (v : Value) (wr : World) : Prop :=
  ∃ S, QS wr W.heap.size qb mb (ordF odd) v (ordL odd) ((l.length : Int) + 1) S ∧ S.Perm (itemsOf l) ∧ Go.RowKit.Below W.heap.size W wr
theorem MaR.push {W wr : World} {qb mb : Nat} {odd : Bool} {l : List Int} {v : Value} (h : MaR W qb mb odd l v wr) (hl : l.length < 5000) (x : Int) :
    Calls Try.prog 20 #[.pointer (some ⟨qb, 0, none⟩), .int .i64 x] wr fun e w' => e = .returned (.tuple #[.int .i64 ((l.length : Int) + 1), .int .i64 0]) ∧ ∃ v', Hid (MaR W qb mb odd (l ++ [x]) v' w') := by
  obtain ⟨S, h1, h2, h3⟩ := h
  have hSl : S.length = l.length := by rw [h2.length_eq, itemsOf_len]
  obtain ⟨k, hk⟩ := place_ex (befI (ordL odd)) S ((l.length : Int) + 1, x)
  obtain ⟨xs, hq, _⟩ := h1.mem
  refine (push_some _ qb mb _ v _ _ S k x wr h1 hk (by omega) (by omega)).mono ?_
  rintro e w' ⟨he, v', g1, g2⟩
  refine ⟨he, v', Lib.hid (show MaR W qb mb odd (l ++ [x]) v' w' from ⟨putL S k ((l.length : Int) + 1, x), ?_, ?_, h3.trans (g2.below hq)⟩)⟩
  · rw [show ((l ++ [x]).length : Int) = (l.length : Int) + 1 by simp]; exact g1
  · rw [itemsOf_snoc]
    exact (putL_perm S k _).trans ((h2.cons _).trans (List.perm_append_singleton _ _).symm)
set_option maxRecDepth 100000 in
set_option maxHeartbeats 2000000 in
theorem made_any (n : Nat) (lv : Value) (l : List Int) (W : World) (hn : n < 256) (hl : RI W lv l) (hle : l.length ≤ 300) :
    Calls Try.prog 27 #[.int .u8 n, lv] W fun e w' => ∃ qb mb v, e = .returned (.pointer (some ⟨qb, 0, none⟩)) ∧ Hid (MaR W qb mb (decide (n % 2 = 1)) l v w') := by
  have k1 := order_any n W hn
  generalize decide (n % 2 = 1) = odd at k1 ⊢
  have k2 := fun W => news_any (ordF odd) (ordL odd) (ord_less odd) (ordL_weak odd) W
  have HF : ∃ F, ordF odd = F := ⟨_, rfl⟩
  obtain ⟨F, hF⟩ := HF
  rw [hF] at k1 k2
  obtain ⟨A, c, rfl⟩ := hl.len
  obtain ⟨m, hm⟩ : ∃ m, l.length = m := ⟨_, rfl⟩
  rw [hm] at hle hl ⊢
  have HM := Lib.hid hm; have HL := Lib.hid hl; have HFF := Lib.hid hF
  have hmz : ¬ (m : Int) > 300 := by omega
  clear hm hl hF
  go_enter Try.func27, Try.ntmps27
  go_wp2_with (first | (go_at_call 12; refine k1.mono ?_; rintro e w0 ⟨rfl, hw⟩; subst hw) | (go_at_call 11; refine (k2 _).mono ?_; rintro e w' ⟨qb, mb, rfl, H⟩))
  go_loopw [6] (fun vi wr => ∃ (i : Nat) (v : Value), vi = .int .i64 i ∧ i ≤ m ∧ Hid (MaR w0 qb mb odd (l.take i) v wr)) (fun vi _ => m - (intOf vi).toNat)
  case atStart =>
    have h1 := H.out.1
    rw [← HFF.out] at h1
    exact ⟨0, .slice none 0 0, rfl, by omega, Lib.hid (show MaR w0 qb mb odd (l.take 0) (.slice none 0 0) _ from ⟨[], h1, List.Perm.refl _, H.out.2⟩)⟩
  case round =>
    obtain ⟨i, v, rfl, hi, HR⟩ := hrel
    by_cases hlt : i < m
    · have hlen : (l.take i).length = i := by rw [List.length_take]; have := HM.out; omega
      have hR := HR.out
      have hli : RI wr (.slice A m c) l := by
        obtain ⟨_, _, _, hb⟩ := hR
        exact HL.out.later hb
      obtain ⟨g, off, rfl, c1⟩ := hli.cell (i := i) (by rw [HM.out]; exact hlt)
      have k3 := hR.push (by omega) (l.getD i 0)
      rw [hlen] at k3
      have ht : l.take i ++ [l.getD i 0] = l.take (i + 1) := by
        rw [List.take_succ_eq_append_getElem (by rw [HM.out]; exact hlt), List.getD_eq_getElem?_getD, List.getElem?_eq_getElem (by rw [HM.out]; exact hlt)]; rfl
      rw [ht] at k3
      have i1 : (i : Int) < (m : Int) := by omega
      have i2 : IntKind.i64.wrap ((i : Int) + 1) = (i : Int) + 1 := IntWalk.i64_in _ (by omega)
      generalize l.getD i 0 = u at c1 k3
      clear hR hli ht hlen
      go_wp2_with (first | (go_at_call 20; refine k3.mono ?_; rintro e w2 ⟨rfl, v', HP⟩))
      go_roundw
      case rel => exact ⟨i + 1, v', by go_num, by omega, HP⟩
      case measure => simp [intOf]; omega
    · obtain rfl : i = m := by omega
      go_wp2_with fail
      go_ret
      refine ⟨qb, mb, v, rfl, ?_⟩
      have := HR.out
      rw [List.take_of_length_le (by rw [HM.out]; exact Nat.le_refl _)] at this
      exact Lib.hid this
end Go.Proofs.Ytcppgefnocjdiaa
