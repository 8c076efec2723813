/- The document's Types of layer 11; Picks. -/
import Derived.Test.YtegejchamojfgaaDoorPe
import Derived.Test.YtegejchamojfgaaDoorPf
namespace Go.Proofs.YtegejchamojfgaaDoor
open Go.RowKit
set_option linter.unusedVariables false

set_option maxRecDepth 100000 in
set_option maxHeartbeats 4000000 in
theorem types11_any (aT : Option Addr) (cT : Nat) (T : List Ty) (aR : Option Addr) (cR : Nat) (R : List Rt) (t : Int) (aV : Option Addr) (cV : Nat) (V : List Nv) (w : World) (hn : T.length ≤ 1000000000) (hm : R.length ≤ 10000000000000) (hV : V.length ≤ 2000000) (hL : Hid (LensT T)) (hT : Hid (TRow w aT T)) (hRr : Hid (RRow w aR R)) (hVr : Hid (VRow w aV V)) (hNv : Hid (∀ x ∈ V, NvOk x)) :
    Calls Tryd.prog 23 #[.agg #[.slice aT T.length cT, .slice aR R.length cR], .int .i64 t, .slice aV V.length cV] w fun e w' => TyTo (tyV T R t V) w e w' := by
  have hB := below2 w (.cells #[.slice aT T.length cT, .slice aR R.length cR] 25) (.cells #[.int .i64 0, .int .i64 0] 40)
  obtain ⟨k1, k2⟩ := blk2 w #[.slice aT T.length cT, .slice aR R.length cR] #[.int .i64 0, .int .i64 0] 25 40
  obtain ⟨w0, hw0⟩ : ∃ wx, wx = (w.alloc (.cells #[.slice aT T.length cT, .slice aR R.length cR] 25)).alloc (.cells #[.int .i64 0, .int .i64 0] 40) := ⟨_, rfl⟩
  rw [← hw0] at hB k1 k2
  have HB0 := hide_ hB
  have K2 := hide_ k2
  have hz0 : w.heap.size + 1 < w0.heap.size := k2.lt
  have i0 := k1.cell 0; have i1 := k1.cell 1
  simp at i0 i1
  have HTy := hide_ (typesR_any aT cT T aR cR R t aV cV V w0 hn hm hV hL (hide_ (hT.out.later hB)) (hide_ (hRr.out.later hB)) (hide_ (hVr.out.later hB)) hNv)
  generalize tyV T R t V = A at *
  obtain ⟨nums, E, P⟩ := A
  clear hB k1 k2
  go_enter Tryd.func23, Tryd.ntmps23
  go_upto_region 1 with fail
  rw [← hw0]
  clear hw0
  go_wp2_with fail
  refine HTy.out.mono ?_
  rintro e w1 ⟨v, rfl, HO, HB1⟩
  simp only at HO
  have k3 := K2.out.later HB1.out
  have n0 := k3.cell 0; have n1 := k3.cell 1
  have nf := fun i => k3.frozen i
  simp at n0 n1
  have HKz := hide_ (wr2 k3 (.int .i64 E) (.int .i64 P))
  have HBz := hide_ (below_wr2 (below_to HB0.out HB1.out) (w.heap.size + 1) (by omega) (.int .i64 E) (.int .i64 P))
  have HOz := hide_ (HO.out.upd (((Upd.refl (fun b => b = w.heap.size + 1) w1).set ⟨w.heap.size + 1, 0, none⟩ (.int .i64 E) (.inl rfl)).set ⟨w.heap.size + 1, 1, none⟩ (.int .i64 P) (.inl rfl)) (fun b hb e => by
    obtain ⟨zs, hz⟩ := ownS_type HO.out hb
    subst e
    exact absurd (blk_type k3 hz) (by decide)))
  clear k3
  go_wp2
  exact retTF (x := E) (y := P) rfl rfl rfl HKz.out ⟨v, rfl, hide_ (HOz.out.base (by omega)), HBz⟩
/-- The picks that stand in a value. -/
def picksL (T : List Ty) (nums : List Int) (V : List Nv) : List Int := List.zipWith (fun s x => pickOf (T.getD s.toNat ty0) x) nums V
theorem picksL_at {T : List Ty} {nums : List Int} {V : List Nv} {i : Nat} {s : Int} {x : Nv} (hs : nums[i]? = some s) (hx : V[i]? = some x) : (picksL T nums V)[i]? = some (pickOf (T.getD s.toNat ty0) x) := by
  unfold picksL
  rw [List.getElem?_zipWith, hs, hx]
theorem picksL_len {T : List Ty} {nums : List Int} {V : List Nv} (h : nums.length = V.length) : (picksL T nums V).length = V.length := by
  unfold picksL
  rw [List.length_zipWith, h]
  omega
end Go.Proofs.YtegejchamojfgaaDoor
