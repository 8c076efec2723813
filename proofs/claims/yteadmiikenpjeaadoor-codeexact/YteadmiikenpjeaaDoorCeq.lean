/- Code: the document's letters are the program's kinds; fits of any letter. -/
import Derived.Test.YteadmiikenpjeaaDoorCep
import Derived.Test.YteadmiikenpjeaaDoorCdt
namespace Go.Proofs.YteadmiikenpjeaaDoor
open Go.RowKit
set_option linter.unusedVariables false

/-- The letters of the document's table. -/
def lts : List UInt8 := [32, 107, 112, 75, 119, 109, 102, 110, 115, 97, 103, 108, 76, 114, 122, 116, 121]
set_option maxRecDepth 100000 in
theorem ofI_fin : ∀ (e : Bool) (n : Fin 48) (j : Fin 3), isOf ((n.val : Nat) : Int) e = true → (ofI ((n.val : Nat) : Int)).length = 3 ∧ lts.contains ((ofI ((n.val : Nat) : Int)).getD j.val 0) = true ∧ ltK (((ofI ((n.val : Nat) : Int)).getD j.val 0).toNat : Int) = kat (kin ((n.val : Nat) : Int)) j.val := by decide +kernel
theorem ofI_kat {op : Int} {e : Bool} (h : isOf op e = true) {j : Nat} (hj : j < 3) : (ofI op).length = 3 ∧ lts.contains ((ofI op).getD j 0) = true ∧ ltK (((ofI op).getD j 0).toNat : Int) = kat (kin op) j := by
  have := isOf_rng h
  obtain ⟨n, rfl⟩ : ∃ n : Fin 48, op = ((n.val : Nat) : Int) := ⟨⟨op.toNat, by omega⟩, by simp only; omega⟩
  exact ofI_fin e n ⟨j, hj⟩ h
theorem fits_any (enc : Bool) (ac ae : Option Addr) (nc cc ne ce : Nat) (c : UInt8) (x : Int) (w : World) (hnc : nc ≤ 140737488355328) (hne : ne ≤ 140737488355328) (hc : lts.contains c = true) :
    Calls Tryd.prog 64 #[.agg #[.bool enc, .slice ac nc cc, .slice ae ne ce], .int .u8 (c.toNat : Int), .int .i64 x] w fun e w' => e = .returned (.bool (alw nc ne (ltK (c.toNat : Int)) x)) ∧ Below w.heap.size w w' := by
  have hm : c ∈ lts := by simpa using hc
  unfold lts at hm
  simp only [List.mem_cons, List.not_mem_nil, or_false] at hm
  rcases hm with rfl | rfl | rfl | rfl | rfl | rfl | rfl | rfl | rfl | rfl | rfl | rfl | rfl | rfl | rfl | rfl | rfl
  case inl => exact fits_no enc ac ae nc cc ne ce x w
  all_goals first
    | exact fits_w enc ac ae nc cc ne ce x w
    | exact fits_r enc ac ae nc cc ne ce x w
    | (refine (fits_in enc ac ae nc cc ne ce _ x w hnc hne (by decide)).mono ?_; exact fun e w' h => h)
end Go.Proofs.YteadmiikenpjeaaDoor
