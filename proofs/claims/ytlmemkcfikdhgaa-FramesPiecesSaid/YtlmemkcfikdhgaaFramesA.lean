/- Slices of bytes: what they read as; memory of one's own; bytes as a string, a string as bytes; a part of a slice. -/
import Derived.Test.YtlmemkcfikdhgaaFramesM
import Derived.Laws.BytesArg
import Derived.Shelf.Bytes.SlSmallAll
import Derived.Laws.AppendOwn
import Derived.Laws.AppendOwnNone
import Derived.Laws.OwnMore
import Derived.Laws.CopyOwn
import Derived.Great.BuildSlice
import Derived.ChangeSlices
import Derived.Deep.Slices
import Derived.Lib.ConvBytes
import Derived.Lib.Hide
import Derived.Laws.Cover3
import Derived.WalkKit
import Derived.WalkSpells
import Derived.WalkLawsBesides
import Derived.Outline
import Derived.Deep.QuietTactic
import Derived.BigQuiet
import Derived.Laws.Rows
import Derived.Deep.MidRow
import Derived.Deep.WholeRow
import Derived.Deep.DeepCutAuto
import Derived.Deep.RegionHeld3
import Derived.Lib.SliceRun
import Derived.RegionTactic
import Derived.StillTailTactics
namespace Go.Proofs.Ytlmemkcfikdhgaa
open Go.RowKit Go.Lib
set_option linter.unusedVariables false

theorem bl_alloc {w W : World} (o : Obj) (h : Below w.heap.size w W) : Below w.heap.size w (W.alloc o) := h.alloc h.size o
theorem bl_drewN {w W : World} (n : Nat) (h : Below w.heap.size w W) : Below w.heap.size w (W.drewN n) := h.trans ⟨rfl, rfl, rfl, Nat.le_refl _, fun _ _ => rfl⟩
theorem bl_call {w W W' : World} (h : Below w.heap.size w W) (k : Below W.heap.size W W') : Below w.heap.size w W' := h.trans (k.mono h.size)
theorem bl_set {w W : World} {p : Addr} (v : Value) (h : Below w.heap.size w W) (hp : w.heap.size ≤ p.block) : Below w.heap.size w (W.setCell p v) := h.setCell hp v
theorem ret_int {k : IntKind} {a b : Int} (h : a = b) : Ending.returned (.int k a) = .returned (.int k b) := by rw [h]

def yL (l : List Nat) : List Value := l.map fun (x : Nat) => Value.int .u8 x
theorem yL_len (l : List Nat) : (yL l).length = l.length := by simp [yL]
theorem yL_one (l : List Nat) : ∀ v ∈ yL l, v.oneCell' = true := by intro v hv; unfold yL at hv; obtain ⟨x, _, rfl⟩ := List.mem_map.1 hv; rfl
theorem yL_app (l m : List Nat) : yL (l ++ m) = yL l ++ yL m := by simp [yL]

/-- The slice v reads as the bytes xs. -/
def RN (w : World) (v : Value) (xs : List Nat) : Prop :=
  (∃ A c, v = .slice A 0 c ∧ xs = [] ∧ (A = none → c = 0)) ∨
  ∃ g off c, v = .slice (some ⟨g, off, none⟩) xs.length c ∧ g < w.heap.size ∧ 0 < xs.length ∧ xs.length ≤ c ∧ c ≤ maxLen ∧ ∀ i, i < xs.length → w.cell? ⟨g, off + i, none⟩ = some (.int .u8 (xs.getD i 0 : Nat))
theorem RN.later {W W' : World} {v : Value} {xs : List Nat} (h : RN W v xs) (hb : Below W.heap.size W W') : RN W' v xs := by
  rcases h with h | ⟨g, off, c, rfl, h1, h0, h2, h3, h4⟩
  · exact .inl h
  · exact .inr ⟨g, off, c, rfl, Nat.lt_of_lt_of_le h1 hb.size, h0, h2, h3, fun i hi => (hb.cell (p := ⟨g, _, none⟩) h1).trans (h4 i hi)⟩
theorem RN.nil (w : World) : RN w (.slice none 0 0) [] := .inl ⟨none, 0, rfl, rfl, fun _ => rfl⟩
theorem RN.drawn {W : World} {v : Value} {xs : List Nat} (h : RN W v xs) (n : Nat) : RN (W.drewN n) v xs := h
theorem RN.len {W : World} {v : Value} {xs : List Nat} (h : RN W v xs) : ∃ A c, v = .slice A xs.length c := by
  rcases h with ⟨A, c, rfl, rfl, _⟩ | ⟨g, off, c, rfl, _⟩
  · exact ⟨A, c, rfl⟩
  · exact ⟨_, _, rfl⟩
theorem RN.max {W : World} {v : Value} {xs : List Nat} (h : RN W v xs) : xs.length ≤ maxLen := by
  rcases h with ⟨A, c, rfl, rfl, _⟩ | ⟨g, off, c, rfl, h1, h0, h2, h3, h4⟩
  · exact Nat.zero_le _
  · omega
theorem RN.two {W : World} {v : Value} {xs : List Nat} (h : RN W v xs) : (v = .slice none 0 0 ∧ xs = []) ∨ ∃ ad c, v = .slice (some ad) xs.length c ∧ ∀ j u, (yL xs)[j]? = some u → W.cell? (ad.add j) = some u := by
  rcases h with ⟨A, c, rfl, rfl, hn⟩ | ⟨g, off, c, rfl, hg, h0, h2, h3, h4⟩
  · cases A with
    | none => rw [hn rfl]; exact .inl ⟨rfl, rfl⟩
    | some ad => exact .inr ⟨ad, c, rfl, fun j u hj => by simp [yL] at hj⟩
  · refine .inr ⟨_, c, rfl, fun j u hj => ?_⟩
    rw [Addr.add_mid]
    have hlt : j < xs.length := by
      have := (List.getElem?_eq_some_iff.1 hj).1
      rwa [yL_len] at this
    rw [h4 j hlt, ← hj, yL, List.getElem?_map, List.getElem?_eq_getElem hlt, List.getD_eq_getElem?_getD, List.getElem?_eq_getElem hlt]
    rfl
/-- One byte. -/
theorem RN.at {W : World} {A : Option Addr} {n c : Nat} {xs : List Nat} (h : RN W (.slice A n c) xs) (h0 : 0 < xs.length) : ∃ g off, A = some ⟨g, off, none⟩ ∧ n = xs.length ∧ n ≤ c ∧ c ≤ maxLen ∧ g < W.heap.size ∧ ∀ i, i < xs.length → W.cell? ⟨g, off + i, none⟩ = some (.int .u8 (xs.getD i 0 : Nat)) := by
  rcases h with ⟨A', c', e, rfl, hn⟩ | ⟨g, off, c', e, hg, h0, h2, h3, h4⟩
  · simp at h0
  · cases e; exact ⟨g, off, rfl, rfl, h2, h3, hg, h4⟩
theorem info_u8 : (Try.prog.info? 5).map (fun i => (i.zero, i.size, i.bytes)) = some (some (.int .u8 0), 1, 1) := by kernel_rfl
/-- The slice v holds the bytes xs, in memory from block B on. -/
def ON (w : World) (B : Nat) (v : Value) (xs : List Nat) : Prop := w.ownsRow B 5 1 v xs.length (yL xs)
theorem ON.len {w : World} {B : Nat} {v : Value} {xs : List Nat} (h : ON w B v xs) : ∃ A c, v = .slice A xs.length c := by
  have h' : w.ownsRow B 5 1 v xs.length (yL xs) := h
  rcases h'.2 with ⟨rfl, h0⟩ | ⟨g, c, cur, rfl, _⟩
  · rw [h0]; exact ⟨_, _, rfl⟩
  · exact ⟨_, _, rfl⟩
theorem ON.rn {w : World} {B : Nat} {v : Value} {xs : List Nat} (h : ON w B v xs) : RN w v xs := by
  have h' : w.ownsRow B 5 1 v xs.length (yL xs) := h
  rcases h'.2 with ⟨rfl, h0⟩ | ⟨g, c, cur, rfl, hb, hg, hc, hm, hs, ht⟩
  · obtain rfl : xs = [] := List.eq_nil_of_length_eq_zero h0
    exact RN.nil w
  · rcases Nat.eq_zero_or_pos xs.length with h0 | h0
    · obtain rfl : xs = [] := List.eq_nil_of_length_eq_zero h0
      exact .inl ⟨_, _, rfl, rfl, fun h => by cases h⟩
    · refine .inr ⟨g, 0, c, rfl, (h'.lt g rfl).2, h0, hc, hm, fun i hi => ?_⟩
      rw [Nat.zero_add, h'.cellAt i (by omega), yL, List.getElem?_map, List.getElem?_eq_getElem hi, List.getD_eq_getElem?_getD, List.getElem?_eq_getElem hi]
      rfl
theorem ON.nil (w : World) (B : Nat) : ON w B (.slice none 0 0) [] := ⟨rfl, Or.inl ⟨rfl, rfl⟩⟩
theorem ON.later {W W' : World} {B : Nat} {v : Value} {xs : List Nat} (h : ON W B v xs) (hb : Below W.heap.size W W') : ON W' B v xs := by
  have hg : W.grownBy W' none := ⟨hb.os, hb.tape, hb.output, hb.size, fun k hk _ => hb.block k hk⟩
  exact World.ownsRow.kept h hg (Decidable.em _)
theorem cells_new (w : World) (t : TypeId) (l : List Value) : ∀ j u, l[j]? = some u → (w.alloc (.cells l.toArray t)).cell? ((⟨w.heap.size, 0, none⟩ : Addr).add j) = some u := by
  intro j u hj
  rw [Addr.add_mid, World.cell?_alloc_at _ _ _ _ rfl]
  simpa using hj
theorem on_new (w : World) (xs : List Nat) (n : Nat) (hn : xs.length = n) (h : n ≤ 2000000) : ON (w.alloc (.cells (yL xs).toArray 5)) w.heap.size (.slice (some ⟨w.heap.size, 0, none⟩) n n) xs := by
  subst hn
  exact World.ownsRow_lit (base := w.heap.size) (e := 5) (size := 1) w (yL xs).toArray xs.length (Nat.le_refl _) (by unfold maxLen; omega) (by simp [yL_len])
/-- What a function returns: bytes in memory of its own. -/
def Mem (w : World) (xs : List Nat) (e : Ending) (w' : World) : Prop := ∃ v, e = .returned v ∧ ON w' w.heap.size v xs ∧ Below w.heap.size w w'
def Gives (w : World) (v : Value) (e : Ending) (w' : World) : Prop := e = .returned v ∧ Below w.heap.size w w'

theorem wpList_append_on (w : World) {ops : Array Oper} {rest : List Oper} {o : Oper} {a : Act} {Q : Exit → Act → World → Prop} (hgd : o.guard = none) (s x : Operand)
    (ho : o.op = .call { callee := .builtin .append, args := #[s, x], argTypes := #[22, 22] })
    (B : Nat) (v b : Value) (zs xs : List Nat) (hs : a.eval s = v) (hown : ON w B v zs) (hx : a.eval x = b) (hb : RN w b xs) (hB : B ≤ w.heap.size) (hl : zs.length + xs.length ≤ 10000000)
    (h : ∀ v' w', ON w' B v' (zs ++ xs) → w.grownBy w' v.ownBlock → wpList Try.prog ops Q rest (a.put o.dst v') w') : wpList Try.prog ops Q (o :: rest) a w := by
  obtain ⟨i0, hi, hz0, hz1, hz2⟩ := info_parts info_u8
  have hown' : w.ownsRow B 5 1 v zs.length (yL zs) := hown
  rcases hb.two with ⟨rfl, rfl⟩ | ⟨ad, c, rfl, hc⟩
  · exact wpList_append_own_none hgd s x 22 ho B 5 i0 1 Try.underlying22 hi v zs.length (yL zs) hs hown' hx (h v w (by simpa using hown) ⟨rfl, rfl, rfl, Nat.le_refl _, fun _ _ _ => rfl⟩)
  · refine wpList_append_own w hgd s x 22 ho B 5 i0 (.int .u8 0) 1 1 Try.underlying22 hi hz0 hz1 hz2 rfl (by decide) v zs.length (yL zs) hs hown' ad xs.length c (yL xs) hx (by simp [yL]) hc (yL_one xs) (by unfold maxLen; omega) (by omega) hB ?_
    intro v' w' hn hg _
    refine h v' w' ?_ hg
    unfold ON
    rw [yL_app, List.length_append]
    exact hn

/-! ### slices.Clone -/
set_option maxHeartbeats 2000000 in
theorem clone_any (v : Value) (xs : List Nat) (w : World) (h : RN w v xs) (hs : xs.length ≤ 2000000) : Calls Try.prog 21 #[v] w (Mem w xs) := by
  have kn := fun (W : World) (a : Option Addr) (l c : Nat) => Lib.run_eql_slice_nil (P := Try.prog) W 22 5 a l c 0 0 Try.underlying22
  have h0 := h
  rcases h with ⟨A, c, rfl, rfl, hn⟩ | ⟨g, off, c, rfl, hg, h0', h2, h3, h4⟩
  · rcases A with _ | ad
    · obtain rfl := hn rfl
      go_enter Try.func21, Try.ntmps21
      go_wp2_with fail
      go_ret
      exact ⟨_, rfl, ON.nil _ _, Below.refl _ _⟩
    · have H0 := Lib.hid h0; clear h0
      go_enter Try.func21, Try.ntmps21
      go_wp2_with (at_builtin; refine wpList_append_on _ rfl _ _ rfl w.heap.size _ _ [] [] rfl (World.ownsRow_lit _ #[] 0 (Nat.le_refl _) (by unfold maxLen; omega) rfl) rfl (H0.out.later (bl_alloc _ (Below.refl _ _))) (by simp) (by simp) ?_; intro v' w2 hown hgrow; have hbw : Below w.heap.size w w2 := (bl_alloc _ (Below.refl _ _)).grown hgrow (by simp) (fun k e => by cases e; exact Nat.le_refl _); have HB := Lib.hid hbw; have HO := Lib.hid hown; clear hbw hown hgrow)
      go_ret
      exact ⟨_, rfl, HO.out, HB.out⟩
  · have H0 := Lib.hid h0; clear h0 h4
    go_enter Try.func21, Try.ntmps21
    go_wp2_with (at_builtin; refine wpList_append_on _ rfl _ _ rfl w.heap.size _ _ [] xs rfl (World.ownsRow_lit _ #[] 0 (Nat.le_refl _) (by unfold maxLen; omega) rfl) rfl (H0.out.later (bl_alloc _ (Below.refl _ _))) (by simp) (by simp; omega) ?_; intro v' w2 hown hgrow; have hbw : Below w.heap.size w w2 := (bl_alloc _ (Below.refl _ _)).grown hgrow (by simp) (fun k e => by cases e; exact Nat.le_refl _); have HB := Lib.hid hbw; have HO := Lib.hid hown; clear hbw hown hgrow)
    go_ret
    exact ⟨_, rfl, HO.out, HB.out⟩

/-! ### Bytes and strings -/
def nI (xs : List Nat) : List Int := xs.map fun (x : Nat) => (x : Int)
theorem nI_get (xs : List Nat) (i : Nat) (h : i < xs.length) : (nI xs).getD i 0 = ((xs.getD i 0 : Nat) : Int) := by
  unfold nI
  rw [List.getD_eq_getElem?_getD, List.getD_eq_getElem?_getD, List.getElem?_map, List.getElem?_eq_getElem h]; rfl
/-- The string of bytes. -/
def strB (xs : List Nat) : ByteArray := strOfNums (nI xs)
theorem conv_rn {W : World} {v : Value} {xs : List Nat} (h : RN W v xs) : (convert 22 9 v).run Try.prog W = .ok (.string (strB xs)) W := by
  rcases h with ⟨A, c, rfl, rfl, _⟩ | ⟨g, off, c, rfl, _, h0, h2, h3, h4⟩
  · exact run_convert_bytes_zero W 22 5 Try.underlying22 Try.underlying5 A c 9 Try.underlying9
  · exact run_convert_bytes_arg W 22 5 Try.underlying22 Try.underlying5 g off xs.length c (nI xs) (by simp [nI]) (fun i hi => by rw [nI_get xs i hi]; exact h4 i hi) 9 Try.underlying9
theorem nI_inj : ∀ (xs ys : List Nat), BB xs → BB ys → (nI xs).map (fun n => UInt8.ofNat n.toNat) = (nI ys).map (fun n => UInt8.ofNat n.toNat) → xs = ys
  | [], [], _, _, _ => rfl
  | [], y :: ys, _, _, h => by simp [nI] at h
  | x :: xs, [], _, _, h => by simp [nI] at h
  | x :: xs, y :: ys, hx, hy, h => by
    simp only [nI, List.map_cons, List.cons.injEq, Int.toNat_natCast] at h
    have h1 := congrArg UInt8.toNat h.1
    rw [UInt8.toNat_ofNat_of_lt' (hx x (List.mem_cons_self ..)), UInt8.toNat_ofNat_of_lt' (hy y (List.mem_cons_self ..))] at h1
    rw [h1, nI_inj xs ys (fun z hz => hx z (List.mem_cons_of_mem _ hz)) (fun z hz => hy z (List.mem_cons_of_mem _ hz)) h.2]
theorem str_inj {xs ys : List Nat} (hx : BB xs) (hy : BB ys) (h : strB xs = strB ys) : xs = ys := by
  have h1 := congrArg (fun s : ByteArray => s.data.toList) h
  simp only [strB, strOfNums_data] at h1
  exact nI_inj xs ys hx hy h1
theorem strB_data (xs : List Nat) : (strB xs).data.toList = xs.map UInt8.ofNat := by
  unfold strB
  rw [strOfNums_data]
  simp [nI]
theorem strB_size (xs : List Nat) : (strB xs).size = xs.length := by
  have := congrArg List.length (strB_data xs)
  simpa using this
theorem strB_app (xs ys : List Nat) : strB xs ++ strB ys = strB (xs ++ ys) := by
  apply WideShapes.bytes_inj
  rw [ByteArray.data_append, Array.toList_append, strB_data, strB_data, strB_data, List.map_append]
/-- A string's bytes, as bytes. -/
theorem rn_str {w : World} {xs : List Nat} (hb : BB xs) (hl : xs.length ≤ 2000000) (c : Nat) (hc : (strB xs).size ≤ c) (hm : c ≤ maxLen) : RN (Lib.bytesWorld w 5 (strB xs)) (.slice (some ⟨w.heap.size, 0, none⟩) (strB xs).size c) xs := by
  rcases Nat.eq_zero_or_pos xs.length with h0 | h0
  · obtain rfl := List.eq_nil_of_length_eq_zero h0
    exact .inl ⟨_, _, rfl, rfl, fun h => by cases h⟩
  · refine .inr ⟨w.heap.size, 0, c, by rw [strB_size], by rw [Lib.bytesWorld_size]; omega, h0, by rw [← strB_size]; exact hc, hm, fun i hi => ?_⟩
    rw [Nat.zero_add, Lib.bytesWorld_cell w 5 (strB xs) i (by rw [strB_size]; exact hi), strB_data]
    have e : (xs.map UInt8.ofNat).getD i 0 = UInt8.ofNat (xs.getD i 0) := by
      rw [List.getD_eq_getElem?_getD, List.getD_eq_getElem?_getD, List.getElem?_map, List.getElem?_eq_getElem hi]; rfl
    rw [e, UInt8.toNat_ofNat_of_lt' (hb.get i)]
theorem bl_bytes (w : World) (s : ByteArray) : Below w.heap.size w (Lib.bytesWorld w 5 s) := ⟨rfl, rfl, rfl, by rw [Lib.bytesWorld_size]; omega, fun k hk => Lib.bytesWorld_at_old w 5 s k hk⟩

/-! ### Parts of slices -/
theorem elem_u8 : Try.prog.elem 22 = 5 := by kernel_rfl
theorem under_u8s : Try.prog.underlying 22 = some (.slice (Try.prog.elem 22)) := by kernel_rfl
theorem size_u8s : ∀ w : World, (sizeOf (Try.prog.elem 22)).run Try.prog w = .ok 1 w := fun w => by kernel_rfl
theorem sliced_rn {W : World} {A : Option Addr} {n c l h : Nat} {xs : List Nat} (hr : RN W (.slice A n c) xs) (hl : l ≤ h) (hh : h ≤ xs.length) : RN W (sliced A l h c 1) ((xs.take h).drop l) := by
  have hlen : ((xs.take h).drop l).length = h - l := by rw [List.length_drop, List.length_take]; omega
  rcases hr with ⟨A', c', e, rfl, hn⟩ | ⟨g, off, c', e, hg, h0, h2, h3, h4⟩
  · cases e
    obtain rfl : h = 0 := by simpa using hh
    obtain rfl : l = 0 := by omega
    refine .inl ⟨_, _, rfl, rfl, fun e => ?_⟩
    cases A with
    | none => rw [hn rfl]
    | some a => exfalso; revert e; split <;> simp
  · cases e
    by_cases he : l = h
    · subst he
      refine .inl ⟨(if c = l then some ⟨g, off, none⟩ else (some (⟨g, off, none⟩ : Addr)).map (·.add (l * 1))), c - l, by unfold sliced; rw [Nat.sub_self], List.eq_nil_of_length_eq_zero (by omega), fun e => ?_⟩
      exfalso; revert e; split <;> simp
    · refine .inr ⟨g, off + l, c - l, ?_, hg, by omega, by omega, by omega, fun i hi => ?_⟩
      · unfold sliced
        rw [if_neg (by omega), hlen]
        simp [Addr.add_mid]
      · rw [hlen] at hi
        rw [Nat.add_assoc, h4 (l + i) (by omega), List.getD_eq_getElem?_getD, List.getD_eq_getElem?_getD, List.getElem?_drop, List.getElem?_take, if_pos (by omega)]
theorem slice_lo {W : World} {A : Option Addr} {n c k : Nat} {xs : List Nat} (hr : RN W (.slice A n c) xs) (hk : k ≤ xs.length) (z : Int) (hz : z = k) :
    ∃ A' c', (∀ W', (Instr.slice 22 (.slice A n c) (some (.int .i64 z)) none none).run Try.prog W' = .ok (.slice A' (n - k) c') W') ∧ RN W (.slice A' (n - k) c') (xs.drop k) := by
  subst hz
  have hn : n = xs.length := by obtain ⟨_, _, e⟩ := hr.len; cases e; rfl
  refine ⟨_, _, fun W' => ?_, by have := sliced_rn hr hk (Nat.le_refl _); rw [List.take_length, ← hn] at this; exact this⟩
  have h1 := run_slice_l (P := Try.prog) (w := W') 22 A n c under_u8s .i64 (k : Int) (by omega) (by omega)
  rw [h1, size_u8s W']
  simp only [Result.andThen_ok, Int.toNat_natCast, sliced]
theorem slice_hi {W : World} {A : Option Addr} {n c k : Nat} {xs : List Nat} (hr : RN W (.slice A n c) xs) (hk : k ≤ xs.length) (z : Int) (hz : z = k) :
    ∃ A' c', (∀ W', (Instr.slice 22 (.slice A n c) none (some (.int .i64 z)) none).run Try.prog W' = .ok (.slice A' k c') W') ∧ RN W (.slice A' k c') (xs.take k) := by
  subst hz
  have hn : n = xs.length := by obtain ⟨_, _, e⟩ := hr.len; cases e; rfl
  have hc : xs.length ≤ c := by
    rcases hr with ⟨A', c', e, rfl, _⟩ | ⟨g, off, c', e, hg, h0, h2, h3, h4⟩
    · simp
    · cases e; exact h2
  refine ⟨_, _, fun W' => ?_, by have := sliced_rn hr (Nat.zero_le k) hk; rw [List.drop_zero] at this; exact this⟩
  have h1 := run_slice_h (P := Try.prog) (w := W') 22 A n c under_u8s .i64 (k : Int) (by omega) (by omega)
  rw [h1, size_u8s W']
  simp only [Result.andThen_ok, Int.toNat_natCast, sliced, Nat.sub_zero]
end Go.Proofs.Ytlmemkcfikdhgaa
