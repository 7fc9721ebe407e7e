/- Bytes as a string. -/
import Derived.Test.YtaeicjgkoofmpaaDoorShaY
import Derived.Shelf.Bytes.SlSmallAll
namespace Go.Proofs.YtaeicjgkoofmpaaDoor
open Go.RowKit
set_option linter.unusedVariables false

def nI (xs : List Nat) : List Int := xs.map fun (x : Nat) => (x : Int)
theorem nI_get (xs : List Nat) (i : Nat) (h : i < xs.length) : (nI xs).getD i 0 = ((xs.getD i 0 : Nat) : Int) := by
  unfold nI
  rw [List.getD_eq_getElem?_getD, List.getD_eq_getElem?_getD, List.getElem?_map, List.getElem?_eq_getElem h]; rfl
theorem conv_rn {W : World} {v : Value} {xs : List Nat} (h : RN W v xs) : (convert 27 9 v).run Tryd.prog W = .ok (.string (strOfNums (nI xs))) W := by
  rcases h with ⟨A, c, rfl, rfl, _⟩ | ⟨g, off, c, rfl, _, h0, h2, h3, h4⟩
  · exact run_convert_bytes_zero W 27 5 Tryd.underlying27 Tryd.underlying5 A c 9 Tryd.underlying9
  · exact run_convert_bytes_arg W 27 5 Tryd.underlying27 Tryd.underlying5 g off xs.length c (nI xs) (by simp [nI]) (fun i hi => by rw [nI_get xs i hi]; exact h4 i hi) 9 Tryd.underlying9

theorem nI_inj : ∀ (xs ys : List Nat), BB xs → BB ys → (nI xs).map (fun n => UInt8.ofNat n.toNat) = (nI ys).map (fun n => UInt8.ofNat n.toNat) → xs = ys
  | [], [], _, _, _ => rfl
  | [], y :: ys, _, _, h => by simp [nI] at h
  | x :: xs, [], _, _, h => by simp [nI] at h
  | x :: xs, y :: ys, hx, hy, h => by
    simp only [nI, List.map_cons, List.cons.injEq, Int.toNat_natCast] at h
    have h1 := congrArg UInt8.toNat h.1
    rw [UInt8.toNat_ofNat_of_lt' (hx x (List.mem_cons_self ..)), UInt8.toNat_ofNat_of_lt' (hy y (List.mem_cons_self ..))] at h1
    rw [h1, nI_inj xs ys (fun z hz => hx z (List.mem_cons_of_mem _ hz)) (fun z hz => hy z (List.mem_cons_of_mem _ hz)) h.2]
theorem str_inj {xs ys : List Nat} (hx : BB xs) (hy : BB ys) (h : strOfNums (nI xs) = strOfNums (nI ys)) : xs = ys := by
  have h1 := congrArg (fun s : ByteArray => s.data.toList) h
  simp only [strOfNums_data] at h1
  exact nI_inj xs ys hx hy h1
end Go.Proofs.YtaeicjgkoofmpaaDoor
