/- The document's Fits and Elem, whatever the kind; the memory of its walk. -/
import Derived.Test.YtegejchamojfgaaDoorPb
import Derived.Test.YtegejchamojfgaaDoorOl
namespace Go.Proofs.YtegejchamojfgaaDoor
open Go.RowKit
set_option linter.unusedVariables false

theorem fitsR_any (t : Ty) (x : Nv) (va : Option Addr) (vc : Nat) (i : Int) (w : World) (hok : Hid (tyOk t i = true)) (hr : rightV x = true) (hx : NvOk x) (hP : Hid (PRow w va t.ps)) :
    Calls Tryd.prog 68 #[.agg #[.int .i64 t.k, .int .i64 t.n, .int .i64 t.e, .slice va t.ps.length vc], .agg #[.int .i64 x.k, .int .u64 x.n, .int .i64 x.kids]] w fun e w' => e = .returned (.int .i64 (misP t x)) ∧ Below w.heap.size w w' := by
  obtain ⟨k, n, el, ps⟩ := t
  obtain ⟨xk, xn, xd⟩ := x
  have hk := tyOk_kind hok.out
  have hps := tyOk_len hok.out
  have hd := (rightV_kids hr).1
  have hn := nOk_of hok.out
  have hpt : Hid (∀ (m : Nat) (p : Pt), ps[m]? = some p → 0 ≤ p.ty) := hide_ (fun m p hp => (tyOk_part hok.out hp).1)
  simp only at hk hps hd hn
  have hx2 := hx.2
  simp only at hx2
  rcases hk with rfl | rfl | rfl | rfl | rfl | rfl | rfl | rfl
  · have h4 : n = 1 ∨ n = 2 ∨ n = 4 ∨ n = 8 := by omega
    rcases h4 with rfl | rfl | rfl | rfl
    · exact fitsR1_1 el ps va vc xk xn xd w
    · exact fitsR1_2 el ps va vc xk xn xd w
    · exact fitsR1_4 el ps va vc xk xn xd w
    · exact fitsR1_8 el ps va vc xk xn xd w hx2
  · exact fitsR2_any n el ps va vc xk xn xd w
  · exact fitsR3_any n el ps va vc xk xn xd w
  · exact fitsR4_any n el ps va vc xk xn xd w
  · exact fitsR5_any n el ps va vc xk xn xd w hd
  · exact fitsR6_any n el ps va vc xk xn xd w
  · exact fitsR7_any n el ps va vc xk xn xd w (by omega) (hide_ (tyOk_tags hok.out)) hpt hP
  · exact fitsR8_any n el ps va vc xk xn xd w
/-- Elem, of a node that fits: the kid's type. -/
theorem elemR_any (t : Ty) (x : Nv) (va : Option Addr) (vc : Nat) (i : Int) (j : Nat) (w : World) (hok : Hid (tyOk t i = true)) (hm : misP t x = 0) (hr : rightV x = true) (hj : (j : Int) < x.kids) (hP : Hid (PRow w va t.ps)) :
    ∃ s, (kidsT t x)[j]? = some s ∧ Calls Tryd.prog 66 #[.agg #[.int .i64 t.k, .int .i64 t.n, .int .i64 t.e, .slice va t.ps.length vc], .agg #[.int .i64 x.k, .int .u64 x.n, .int .i64 x.kids], .int .i64 (j : Int)] w fun e w' => e = .returned (.int .i64 s) ∧ Below w.heap.size w w' := by
  have hl := kidsT_len hok.out hm hr
  have hkd := misP_kind hm
  have hps := tyOk_len hok.out
  have hr0 := (rightV_kids hr).1
  have h0 : x.k = 1 ∨ x.k = 2 → x.kids = 0 := kid0 hr
  have h8 : t.k = 8 → x.kids = t.ps.length := fun h => misP_struct hm h
  have h7 : t.k = 7 → ∃ m p, armI t.ps x.n = some m ∧ t.ps[m]? = some p ∧ p.tag = x.n := fun h => misP_arm hm h
  obtain ⟨k, n, el, ps⟩ := t
  obtain ⟨xk, xn, xd⟩ := x
  have hk := tyOk_kind hok.out
  simp only at hk hps hkd h0 h7 h8 hj hr0 hl
  have hrep : k = 4 ∨ k = 5 ∨ k = 6 → (kidsT ⟨k, n, el, ps⟩ ⟨xk, xn, xd⟩)[j]? = some el := fun h => by
    unfold kidsT
    simp only
    rw [if_neg (by omega), if_neg (by omega), List.getElem?_replicate, if_pos (by omega)]
  rcases hk with rfl | rfl | rfl | rfl | rfl | rfl | rfl | rfl
  · have := h0 (.inl hkd); omega
  · have := h0 (.inr hkd); omega
  · have := h0 (.inl hkd); omega
  · exact ⟨el, hrep (by omega), elem4_any n el ps va vc xk xn xd j w⟩
  · exact ⟨el, hrep (by omega), elem5_any n el ps va vc xk xn xd j w⟩
  · exact ⟨el, hrep (by omega), elem6_any n el ps va vc xk xn xd j w⟩
  · obtain ⟨m, p, ha, hp, -⟩ := h7 rfl
    have e1 : kidsT ⟨7, n, el, ps⟩ ⟨xk, xn, xd⟩ = [p.ty] := by
      unfold kidsT
      simp only
      rw [if_pos trivial, ha]
      simp [List.getD, hp]
    rw [e1] at hl
    have hj0 : j = 0 := by simp at hl; omega
    subst hj0
    refine ⟨p.ty, by rw [e1]; rfl, ?_⟩
    have h := elem7_any n el ps va vc xk xn xd ((0 : Nat) : Int) w (by omega) (hide_ (tyOk_tags hok.out)) hP
    rw [ha] at h
    simp only at h
    rw [show ps.getD m pt0 = p by simp [List.getD, hp]] at h
    exact h
  · have hjl : j < ps.length := by have := h8 rfl; omega
    have hp : ps[j]? = some (ps[j]'hjl) := List.getElem?_eq_getElem hjl
    refine ⟨(ps[j]'hjl).ty, ?_, elem8_any n el ps va vc xk xn xd j _ w hp hP⟩
    unfold kidsT
    simp only
    rw [if_neg (by decide), if_pos trivial, List.getElem?_map, hp]
    rfl
theorem retTTF {fn : Func} {u1 u2 p : Tmp} (h : fn.results = #[.tmp u1, .tmp u2, .cell p 40]) {R : Ending → World → Prop} {tmps : Array Value} {g : Nat} {w : World} {v1 v2 x y : Value} (h1 : tmps.getD u1 undef = v1) (h2 : tmps.getD u2 undef = v2) (hp : tmps.getD p undef = .pointer (some ⟨g, 0, none⟩)) (hK : Blk w g 40 [x, y]) (hR : R (.returned (.tuple #[v1, v2, .agg #[x, y]])) w) :
    bodyPost Tryd.prog fn R Exit.ret ⟨tmps, []⟩ w := by
  have hp' : tmps[p]?.getD undef = .pointer (some ⟨g, 0, none⟩) := by simpa using hp
  have h1' : tmps[u1]?.getD undef = v1 := by simpa using h1
  have h2' : tmps[u2]?.getD undef = v2 := by simpa using h2
  refine bodyPost_ret (v := .tuple #[v1, v2, .agg #[x, y]]) ?_ rfl hR
  simp only [results, h]
  simp [hp', h1', h2', asAddr, Result.andThen, run_loadVar_row w g 40 40 #[x, y] (0, 0) _ hK Tryd.underlying40 rfl (by show _ = some 2; kernel_rfl)]
/-- What the document's walk answers: the fault, or the types so far and the place behind the value. -/
def WalkTo (T : List Ty) (t0 : Int) (V : List Nv) (st : List Int) (B i : Nat) (v : Value) (w : World) (e : Ending) (w' : World) : Prop :=
  ∃ (v2 : Value) (p : Nat) (E A : Int), e = .returned (.tuple #[v2, .int .i64 (p : Int), .agg #[.int .i64 E, .int .i64 A]]) ∧ Hid (Upd (fun k => v.ownBlock = some k) w w') ∧
    Hid ((E ≠ 0 ∧ wkT T [t0] V 0 = ([], E, A) ∧ v2 = .slice none 0 0) ∨ (E = 0 ∧ A = 0 ∧ i < p ∧ ∃ nums2, WkI T t0 V p st nums2 ∧ IOwn w' B v2 nums2 ∧ ∀ k, v2.ownBlock = some k → v.ownBlock = some k ∨ w.heap.size ≤ k))
end Go.Proofs.YtegejchamojfgaaDoor
