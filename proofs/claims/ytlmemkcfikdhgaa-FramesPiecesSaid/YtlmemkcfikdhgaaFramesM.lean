/- Frames: bytes as a list; what is read of them. -/
import Derived.Test.YtlmemkcfikdhgaaChecked
namespace Go.Proofs.Ytlmemkcfikdhgaa
set_option linter.unusedVariables false

/-- Each of the numbers is a byte. -/
def BB (xs : List Nat) : Prop := ∀ x ∈ xs, x < 256
theorem BB.app {l m : List Nat} (h : BB l) (k : BB m) : BB (l ++ m) := fun x hx => (List.mem_append.1 hx).elim (h x) (k x)
theorem BB.take {l : List Nat} (h : BB l) (k : Nat) : BB (l.take k) := fun x hx => h x (List.mem_of_mem_take hx)
theorem BB.drop {l : List Nat} (h : BB l) (k : Nat) : BB (l.drop k) := fun x hx => h x (List.mem_of_mem_drop hx)
theorem BB.nil : BB [] := fun x hx => by cases hx
theorem BB.get {l : List Nat} (h : BB l) (i : Nat) : l.getD i 0 < 256 := by
  by_cases hi : i < l.length
  · rw [List.getD_eq_getElem?_getD, List.getElem?_eq_getElem hi]; exact h _ (List.getElem_mem hi)
  · rw [List.getD_eq_getElem?_getD, List.getElem?_eq_none (by omega)]; decide

/-- What the head of a stream says of the size of its payload. -/
def szL (b : List Nat) : Nat := 256 * b.getD 2 0 + b.getD 3 0
/-- Whether the first bytes of a stream are not the beginning of a frame. -/
def brkL (b : List Nat) : Bool :=
  (decide (4 ≤ b.length) && (decide (szL b = 0) || decide (1024 < szL b))) || ((decide (3 ≤ b.length) && decide (4 < b.getD 2 0)) || ((decide (2 ≤ b.length) && !decide (b.getD 1 0 = 1)) || (decide (1 ≤ b.length) && !decide (b.getD 0 0 = 71))))
def leastL (b : List Nat) : Nat := if b.length < 4 then 5 else 4 + szL b
/-- Whether a stream begins with a whole frame. -/
def oneL (b : List Nat) : Bool := !brkL b && decide (leastL b ≤ b.length)
def payL (b : List Nat) : List Nat := (b.take (leastL b)).drop 4
def restL (b : List Nat) : List Nat := b.drop (leastL b)
theorem least_pos (b : List Nat) : 4 ≤ leastL b := by unfold leastL; split <;> omega
def frG : Nat → List Nat → List (List Nat × List Nat)
  | 0, _ => []
  | F + 1, b => if oneL b then (payL b, restL b) :: frG F (restL b) else []
/-- The frames with which a stream begins: each one's payload, and the bytes after it. -/
def frY (b : List Nat) : List (List Nat × List Nat) := frG b.length b
theorem oneL_len {b : List Nat} (h : oneL b = true) : 5 ≤ b.length ∧ leastL b ≤ b.length ∧ brkL b = false := by
  unfold oneL at h
  simp only [Bool.and_eq_true, Bool.not_eq_true', decide_eq_true_eq] at h
  obtain ⟨h1, h2⟩ := h
  refine ⟨?_, h2, h1⟩
  unfold leastL at h2
  split at h2
  · omega
  · rename_i h4
    have : szL b ≠ 0 := by
      intro e
      unfold brkL at h1
      rw [e] at h1
      simp at h1
      omega
    omega
theorem frG_fuel : ∀ (F G : Nat) (b : List Nat), b.length ≤ F → b.length ≤ G → frG F b = frG G b
  | 0, 0, _, _, _ => rfl
  | 0, G + 1, b, h, _ => by
    have : oneL b = false := by
      cases ho : oneL b with
      | false => rfl
      | true => have := oneL_len ho; omega
    simp [frG, this]
  | F + 1, 0, b, _, h => by
    have : oneL b = false := by
      cases ho : oneL b with
      | false => rfl
      | true => have := oneL_len ho; omega
    simp [frG, this]
  | F + 1, G + 1, b, hF, hG => by
    unfold frG
    split
    · rename_i ho
      have h1 := oneL_len ho
      have hl : (restL b).length = b.length - leastL b := by simp [restL]
      have := least_pos b
      rw [frG_fuel F G (restL b) (by omega) (by omega)]
    · rfl
theorem frY_one {b : List Nat} (h : oneL b = true) : frY b = (payL b, restL b) :: frY (restL b) := by
  have h1 := oneL_len h
  have hl : (restL b).length = b.length - leastL b := by simp [restL]
  have h4 := least_pos b
  unfold frY
  obtain ⟨n, hn⟩ : ∃ n, b.length = n + 1 := ⟨b.length - 1, by omega⟩
  rw [hn, frG, if_pos h]
  rw [frG_fuel n (restL b).length (restL b) (by omega) (Nat.le_refl _)]
theorem frY_none {b : List Nat} (h : oneL b = false) : frY b = [] := by
  unfold frY
  cases b.length with
  | zero => rfl
  | succ n => simp [frG, h]
/-- The payloads, and what is left. -/
def paysL (b : List Nat) : List (List Nat) := (frY b).map (·.1)
def leftL (b : List Nat) : List Nat := ((frY b).getLast?.map (·.2)).getD b
theorem pays_one {b : List Nat} (h : oneL b = true) : paysL b = payL b :: paysL (restL b) := by unfold paysL; rw [frY_one h]; rfl
theorem pays_none {b : List Nat} (h : oneL b = false) : paysL b = [] := by unfold paysL; rw [frY_none h]; rfl
theorem left_none {b : List Nat} (h : oneL b = false) : leftL b = b := by unfold leftL; rw [frY_none h]; rfl
theorem left_one {b : List Nat} (h : oneL b = true) : leftL b = leftL (restL b) := by
  unfold leftL
  rw [frY_one h]
  cases hf : frY (restL b) with
  | nil => simp
  | cons x xs => rw [List.getLast?_cons_cons]; cases hq : (x :: xs).getLast? with
    | none => simp at hq
    | some y => rfl
theorem rest_lt {b : List Nat} (h : oneL b = true) : (restL b).length < b.length := by
  have h1 := oneL_len h
  have := least_pos b
  simp [restL]; omega
theorem sp_ind {P : List Nat → Prop} (h0 : ∀ b, oneL b = false → P b) (h1 : ∀ b, oneL b = true → P (restL b) → P b) : ∀ b, P b := by
  have : ∀ n b, b.length ≤ n → P b := by
    intro n
    induction n with
    | zero => intro b hb; exact h0 b (by cases ho : oneL b with | false => rfl | true => have := oneL_len ho; omega)
    | succ n ih =>
      intro b hb
      cases ho : oneL b with
      | false => exact h0 b ho
      | true => exact h1 b ho (ih _ (by have := rest_lt ho; omega))
  exact fun b => this b.length b (Nat.le_refl _)
theorem left_stuck : ∀ b, oneL (leftL b) = false := sp_ind (fun b h => by rw [left_none h]; exact h) (fun b h ih => by rw [left_one h]; exact ih)
theorem left_le : ∀ b, (leftL b).length ≤ b.length := sp_ind (fun b h => by rw [left_none h]; exact Nat.le_refl _) (fun b h ih => by rw [left_one h]; have := rest_lt h; omega)
theorem frY_len : ∀ b, (frY b).length ≤ b.length := sp_ind (fun b h => by rw [frY_none h]; exact Nat.zero_le _) (fun b h ih => by rw [frY_one h]; have := rest_lt h; simp; omega)

/-! ### The beginning of a stream, and bytes after it -/
theorem getD_app {a c : List Nat} {i : Nat} (h : i < a.length) : (a ++ c).getD i 0 = a.getD i 0 := by
  rw [List.getD_eq_getElem?_getD, List.getD_eq_getElem?_getD, List.getElem?_append_left h]
theorem sz_app {a c : List Nat} (h : 4 ≤ a.length) : szL (a ++ c) = szL a := by unfold szL; rw [getD_app (by omega), getD_app (by omega)]
theorem brk_iff (b : List Nat) : brkL b = true ↔ (4 ≤ b.length ∧ (szL b = 0 ∨ 1024 < szL b)) ∨ (3 ≤ b.length ∧ 4 < b.getD 2 0) ∨ (2 ≤ b.length ∧ b.getD 1 0 ≠ 1) ∨ (1 ≤ b.length ∧ b.getD 0 0 ≠ 71) := by
  unfold brkL
  simp only [Bool.or_eq_true, Bool.and_eq_true, decide_eq_true_eq, Bool.not_eq_true', decide_eq_false_iff_not]
theorem brk_app {a c : List Nat} (h : brkL a = true) : brkL (a ++ c) = true := by
  rw [brk_iff] at h ⊢
  rw [List.length_append]
  rcases h with ⟨h4, h⟩ | ⟨h3, h⟩ | ⟨h2, h⟩ | ⟨h1, h⟩
  · rw [sz_app h4]; exact .inl ⟨by omega, h⟩
  · rw [getD_app (by omega)]; exact .inr (.inl ⟨by omega, h⟩)
  · rw [getD_app (i := 1) (by omega)]; exact .inr (.inr (.inl ⟨by omega, h⟩))
  · rw [getD_app (i := 0) (by omega)]; exact .inr (.inr (.inr ⟨by omega, h⟩))
/-- With a whole head it is seen whether a stream is broken. -/
theorem brk_whole {a c : List Nat} (h : 4 ≤ a.length) : brkL (a ++ c) = brkL a := by
  have e : ∀ x y : Bool, (x = true ↔ y = true) → x = y := by decide
  apply e
  rw [brk_iff, brk_iff, sz_app h, getD_app (by omega), getD_app (i := 1) (by omega), getD_app (i := 0) (by omega), List.length_append]
  constructor <;> rintro (⟨_, h⟩ | ⟨_, h⟩ | ⟨_, h⟩ | ⟨_, h⟩) <;> first | exact .inl ⟨by omega, h⟩ | exact .inr (.inl ⟨by omega, h⟩) | exact .inr (.inr (.inl ⟨by omega, h⟩)) | exact .inr (.inr (.inr ⟨by omega, h⟩))
theorem one_app {a : List Nat} (c : List Nat) (h : oneL a = true) : oneL (a ++ c) = true ∧ payL (a ++ c) = payL a ∧ restL (a ++ c) = restL a ++ c := by
  obtain ⟨h1, h2, h3⟩ := oneL_len h
  have hl : leastL (a ++ c) = leastL a := by unfold leastL; rw [sz_app (by omega), if_neg (by simp; omega), if_neg (by omega)]
  refine ⟨?_, ?_, ?_⟩
  · unfold oneL; rw [brk_whole (by omega), h3, hl]; simp; omega
  · unfold payL; rw [hl, List.take_append_of_le_length h2]
  · unfold restL; rw [hl, List.drop_append_of_le_length h2]
/-- THE LAYER'S HEART: reading goes on where it stopped. -/
theorem pays_app (c : List Nat) : ∀ a, brkL (leftL a) = false → paysL (a ++ c) = paysL a ++ paysL (leftL a ++ c) ∧ leftL (a ++ c) = leftL (leftL a ++ c) := by
  refine sp_ind (fun b h hb => ?_) (fun b h ih hb => ?_)
  · rw [pays_none h, left_none h]; exact ⟨rfl, rfl⟩
  · obtain ⟨h1, h2, h3⟩ := one_app c h
    rw [left_one h] at hb ⊢
    rw [pays_one h1, left_one h1, pays_one h, h2, h3]
    obtain ⟨h4, h5⟩ := ih hb
    rw [h4, h5]
    exact ⟨rfl, rfl⟩
theorem stuck_brk {b : List Nat} (h : brkL b = true) : oneL b = false := by unfold oneL; rw [h]; rfl
/-- What comes after a stream is broken turns nothing. -/
theorem pays_broken (c : List Nat) : ∀ a, brkL (leftL a) = true → paysL (a ++ c) = paysL a ∧ brkL (leftL (a ++ c)) = true := by
  refine sp_ind (fun b h hb => ?_) (fun b h ih hb => ?_)
  · rw [left_none h] at hb
    have := stuck_brk (brk_app (c := c) hb)
    rw [pays_none h, pays_none this, left_none this]
    exact ⟨rfl, brk_app hb⟩
  · obtain ⟨h1, h2, h3⟩ := one_app c h
    rw [left_one h] at hb
    rw [pays_one h1, left_one h1, pays_one h, h2, h3]
    obtain ⟨h4, h5⟩ := ih hb
    rw [h4]
    exact ⟨rfl, h5⟩

/-! ### Frames -/
def headL (n : Nat) : List Nat := [71, 1, n / 256 % 256, n % 256]
def frameL (p : List Nat) : List Nat := headL p.length ++ p
def joinL (ps : List (List Nat)) : List Nat := ps.flatMap frameL
/-- The error of a payload. -/
def errP (p : List Nat) : Int := if p.length = 0 then 6 else if 1024 < p.length then 3 else 0
def errG : List (List Nat) → Int
  | [] => 0
  | p :: ps => if errP p = 0 then errG ps else errP p
def errJ (ps : List (List Nat)) : Int := if 1000 < ps.length then 3 else errG ps
theorem frame_one {p : List Nat} (c : List Nat) (h0 : 0 < p.length) (h1 : p.length ≤ 1024) : oneL (frameL p ++ c) = true ∧ payL (frameL p ++ c) = p ∧ restL (frameL p ++ c) = c := by
  have hlen : (frameL p ++ c).length = 4 + p.length + c.length := by simp [frameL, headL]; omega
  have g0 : (frameL p ++ c).getD 0 0 = 71 := rfl
  have g1 : (frameL p ++ c).getD 1 0 = 1 := rfl
  have g2 : (frameL p ++ c).getD 2 0 = p.length / 256 % 256 := rfl
  have g3 : (frameL p ++ c).getD 3 0 = p.length % 256 := rfl
  have hs : szL (frameL p ++ c) = p.length := by unfold szL; rw [g2, g3]; omega
  have hl : leastL (frameL p ++ c) = 4 + p.length := by unfold leastL; rw [hs, if_neg (by omega)]
  have hf : (frameL p).length = 4 + p.length := by simp [frameL, headL]; omega
  refine ⟨?_, ?_, ?_⟩
  · have hb : brkL (frameL p ++ c) = false := by
      rw [Bool.eq_false_iff]
      intro hb
      rw [brk_iff, hs, g2, g1, g0] at hb
      omega
    unfold oneL; rw [hb, hl, hlen]; simp
  · unfold payL; rw [hl, List.take_append_of_le_length (by omega), List.take_of_length_le (by omega)]; rfl
  · unfold restL; rw [hl, List.drop_append_of_le_length (by omega), List.drop_of_length_le (by omega)]; rfl
theorem stuck_nil : oneL [] = false := by decide
theorem split_join : ∀ ps : List (List Nat), errG ps = 0 → paysL (joinL ps) = ps ∧ leftL (joinL ps) = []
  | [], _ => ⟨pays_none stuck_nil, left_none stuck_nil⟩
  | p :: ps, h => by
    unfold errG at h
    have hp : errP p = 0 := by
      by_cases e : errP p = 0
      · exact e
      · rw [if_neg e] at h; exact h
    rw [if_pos hp] at h
    have h0 : 0 < p.length ∧ p.length ≤ 1024 := by
      unfold errP at hp
      split at hp
      · omega
      · split at hp <;> omega
    obtain ⟨h1, h2, h3⟩ := frame_one (joinL ps) h0.1 h0.2
    have e : joinL (p :: ps) = frameL p ++ joinL ps := rfl
    obtain ⟨h4, h5⟩ := split_join ps h
    rw [e, pays_one h1, left_one h1, h2, h3, h4]
    exact ⟨rfl, h5⟩
theorem take4 {b : List Nat} (h : 4 ≤ b.length) : b.take 4 = [b.getD 0 0, b.getD 1 0, b.getD 2 0, b.getD 3 0] := by
  match b, h with
  | a :: b :: c :: d :: r, _ => rfl
/-- A whole frame is the frame of its payload. -/
theorem frame_of {b : List Nat} (hb : BB b) (h : oneL b = true) : frameL (payL b) ++ restL b = b ∧ 0 < (payL b).length ∧ (payL b).length ≤ 1024 := by
  obtain ⟨h1, h2, h3⟩ := oneL_len h
  have hn : ¬ brkL b = true := by rw [h3]; simp
  rw [brk_iff] at hn
  have hl : leastL b = 4 + szL b := by unfold leastL; rw [if_neg (by omega)]
  have hp : (payL b).length = szL b := by unfold payL; rw [List.length_drop, List.length_take]; omega
  have b2 := hb.get 2
  have b3 := hb.get 3
  refine ⟨?_, by omega, by omega⟩
  unfold frameL headL
  rw [hp, show szL b / 256 % 256 = b.getD 2 0 by unfold szL; omega, show szL b % 256 = b.getD 3 0 by unfold szL; omega]
  have e0 : b.getD 0 0 = 71 := by omega
  have e1 : b.getD 1 0 = 1 := by omega
  have e : [71, 1, b.getD 2 0, b.getD 3 0] = (b.take (leastL b)).take 4 := by rw [List.take_take, Nat.min_eq_left (by omega), take4 (by omega), e0, e1]
  unfold payL restL
  rw [e, List.take_append_drop, List.take_append_drop]
theorem join_split : ∀ b, BB b → joinL (paysL b) ++ leftL b = b := by
  refine sp_ind (fun b h _ => ?_) (fun b h ih hb => ?_)
  · rw [pays_none h, left_none h]; rfl
  · rw [pays_one h, left_one h]
    have e : joinL (payL b :: paysL (restL b)) = frameL (payL b) ++ joinL (paysL (restL b)) := rfl
    rw [e, List.append_assoc, ih (hb.drop _)]
    exact (frame_of hb h).1
theorem pays_ok : ∀ b, BB b → ∀ p ∈ paysL b, 0 < p.length ∧ p.length ≤ 1024 := by
  refine sp_ind (fun b h _ p hp => ?_) (fun b h ih hb p hp => ?_)
  · rw [pays_none h] at hp; cases hp
  · rw [pays_one h] at hp
    rcases List.mem_cons.1 hp with rfl | hp
    · exact (frame_of hb h).2
    · exact ih (hb.drop _) p hp
theorem pays_bb : ∀ b, BB b → ∀ p ∈ paysL b, BB p := by
  refine sp_ind (fun b h _ p hp => ?_) (fun b h ih hb p hp => ?_)
  · rw [pays_none h] at hp; cases hp
  · rw [pays_one h] at hp
    rcases List.mem_cons.1 hp with rfl | hp
    · exact (hb.take _).drop _
    · exact ih (hb.drop _) p hp
/-- With fewer bytes than the frame still needs none is read. -/
theorem need_none {b c : List Nat} (hs : oneL b = false) (hk : brkL b = false) (h : b.length + c.length < leastL b) : paysL (b ++ c) = [] := by
  apply pays_none
  cases ho : oneL (b ++ c) with
  | false => rfl
  | true =>
    obtain ⟨h1, h2, h3⟩ := oneL_len ho
    rw [List.length_append] at h1 h2
    unfold leastL at h
    split at h
    · omega
    · rename_i h4
      have : leastL (b ++ c) = 4 + szL b := by unfold leastL; rw [sz_app (by omega), if_neg (by simp; omega)]
      omega
theorem stuck_lt {b : List Nat} (hs : oneL b = false) (hk : brkL b = false) : b.length < leastL b := by
  unfold oneL at hs
  rw [hk] at hs
  simpa using hs
end Go.Proofs.Ytlmemkcfikdhgaa
