/- begins; what moves when nodes are laid. -/
import Derived.Test.YtokepgimjdalaaaSc
namespace Go.Proofs.Ytokepgimjdalaaa
open Go.RowKit
set_option linter.unusedVariables false

set_option maxRecDepth 100000 in
set_option maxHeartbeats 4000000 in
theorem begins_any (s : ByteArray) (w : World) : Calls Try.prog 51 #[.string s] w fun e w' => e = .returned (.tuple #[.int .i64 (beg s).1, .int .i64 (beg s).2]) ∧ w = w' := by
  have HN := hide_ (name_any s w)
  have HB : Hid (beg s = beg s) := rfl
  by_cases h0 : s = ⟨#[117, 56]⟩
  · have HE : Hid (beg s = (1, 1)) := by show _ = _; subst h0; decide
    rw [HE.out]
    clear HE HB HN
    subst h0
    go_enter Try.func51, Try.ntmps51
    go_wp2
    go_ret2
    exact ⟨rfl, rfl⟩
  have k0 := str_ne s _ h0
  by_cases h1 : s = ⟨#[117, 49, 54]⟩
  · have HE : Hid (beg s = (1, 2)) := by show _ = _; subst h1; decide
    rw [HE.out]
    clear HE HB HN
    subst h1
    go_enter Try.func51, Try.ntmps51
    go_wp2
    go_ret2
    exact ⟨rfl, rfl⟩
  have k1 := str_ne s _ h1
  by_cases h2 : s = ⟨#[117, 51, 50]⟩
  · have HE : Hid (beg s = (1, 4)) := by show _ = _; subst h2; decide
    rw [HE.out]
    clear HE HB HN
    subst h2
    go_enter Try.func51, Try.ntmps51
    go_wp2
    go_ret2
    exact ⟨rfl, rfl⟩
  have k2 := str_ne s _ h2
  by_cases h3 : s = ⟨#[117, 54, 52]⟩
  · have HE : Hid (beg s = (1, 8)) := by show _ = _; subst h3; decide
    rw [HE.out]
    clear HE HB HN
    subst h3
    go_enter Try.func51, Try.ntmps51
    go_wp2
    go_ret2
    exact ⟨rfl, rfl⟩
  have k3 := str_ne s _ h3
  by_cases h4 : s = ⟨#[98, 111, 111, 108]⟩
  · have HE : Hid (beg s = (2, 0)) := by show _ = _; subst h4; decide
    rw [HE.out]
    clear HE HB HN
    subst h4
    go_enter Try.func51, Try.ntmps51
    go_wp2
    go_ret2
    exact ⟨rfl, rfl⟩
  have k4 := str_ne s _ h4
  by_cases h5 : s = ⟨#[118, 97, 114, 105, 110, 116]⟩
  · have HE : Hid (beg s = (3, 0)) := by show _ = _; subst h5; decide
    rw [HE.out]
    clear HE HB HN
    subst h5
    go_enter Try.func51, Try.ntmps51
    go_wp2
    go_ret2
    exact ⟨rfl, rfl⟩
  have k5 := str_ne s _ h5
  by_cases h6 : s = ⟨#[118, 101, 99, 116, 111, 114]⟩
  · have HE : Hid (beg s = (4, 0)) := by show _ = _; subst h6; decide
    rw [HE.out]
    clear HE HB HN
    subst h6
    go_enter Try.func51, Try.ntmps51
    go_wp2
    go_ret2
    exact ⟨rfl, rfl⟩
  have k6 := str_ne s _ h6
  by_cases h7 : s = ⟨#[108, 105, 115, 116]⟩
  · have HE : Hid (beg s = (5, 0)) := by show _ = _; subst h7; decide
    rw [HE.out]
    clear HE HB HN
    subst h7
    go_enter Try.func51, Try.ntmps51
    go_wp2
    go_ret2
    exact ⟨rfl, rfl⟩
  have k7 := str_ne s _ h7
  by_cases h8 : s = ⟨#[111, 112, 116, 105, 111, 110]⟩
  · have HE : Hid (beg s = (6, 0)) := by show _ = _; subst h8; decide
    rw [HE.out]
    clear HE HB HN
    subst h8
    go_enter Try.func51, Try.ntmps51
    go_wp2
    go_ret2
    exact ⟨rfl, rfl⟩
  have k8 := str_ne s _ h8
  by_cases h9 : s = ⟨#[117, 110, 105, 111, 110]⟩
  · have HE : Hid (beg s = (7, 0)) := by show _ = _; subst h9; decide
    rw [HE.out]
    clear HE HB HN
    subst h9
    go_enter Try.func51, Try.ntmps51
    go_wp2
    go_ret2
    exact ⟨rfl, rfl⟩
  have k9 := str_ne s _ h9
  by_cases h10 : s = ⟨#[115, 116, 114, 117, 99, 116]⟩
  · have HE : Hid (beg s = (8, 0)) := by show _ = _; subst h10; decide
    rw [HE.out]
    clear HE HB HN
    subst h10
    go_enter Try.func51, Try.ntmps51
    go_wp2
    go_ret2
    exact ⟨rfl, rfl⟩
  have k10 := str_ne s _ h10
  have HE : Hid (beg s = if isName s then (9, 0) else (0, 0)) := by
    show _ = _
    unfold beg
    rw [if_neg h0, if_neg h1, if_neg h2, if_neg h3, if_neg h4, if_neg h5, if_neg h6, if_neg h7, if_neg h8, if_neg h9, if_neg h10]
  rw [HE.out]
  clear h0
  clear h1
  clear h2
  clear h3
  clear h4
  clear h5
  clear h6
  clear h7
  clear h8
  clear h9
  clear h10
  clear HE HB
  cases hn : isName s with
  | true =>
    rw [hn] at HN
    rw [if_pos rfl]
    go_enter Try.func51, Try.ntmps51
    go_wp2_with fail
    refine HN.out.mono ?_; rintro e w2 ⟨rfl, rfl⟩
    go_wp2
    go_ret2
    exact ⟨rfl, rfl⟩
  | false =>
    rw [hn] at HN
    rw [if_neg (by decide)]
    go_enter Try.func51, Try.ntmps51
    go_wp2_with fail
    refine HN.out.mono ?_; rintro e w2 ⟨rfl, rfl⟩
    go_wp2
    go_ret2
    exact ⟨rfl, rfl⟩
/-- Nodes were laid: the parser's block, the nodes' one and new ones may have changed. -/
def Mv (g : Nat) (v v' : Value) (w w' : World) : Prop := Upd (fun k => k = g ∨ v.ownBlock = some k) w w' ∧ ∀ k, v'.ownBlock = some k → v.ownBlock = some k ∨ w.heap.size ≤ k
section
variable {g : Nat} {v v' v'' : Value} {w w' w'' : World}
theorem Mv.refl (g : Nat) (v : Value) (w : World) : Mv g v v w w := ⟨Upd.refl _ _, fun _ h => .inl h⟩
theorem Mv.of (h : Upd (fun k => k = g) w w') (v : Value) : Mv g v v w w' := ⟨h.mono (fun _ _ h => .inl h), fun _ h => .inl h⟩
theorem Mv.of_below (h : Below w.heap.size w w') (g : Nat) (v : Value) : Mv g v v w w' := ⟨Upd.of_below h, fun _ h => .inl h⟩
theorem Mv.upd (h : Mv g v v' w w') (k : Upd (fun k => k = g ∨ v'.ownBlock = some k) w' w'') : Upd (fun k => k = g ∨ v.ownBlock = some k) w w'' :=
  h.1.trans k (fun j hj hk => by
    rcases hk with hk | hk
    · exact .inl hk
    · rcases h.2 j hk with h2 | h2
      · exact .inr h2
      · omega)
theorem Mv.trans (h : Mv g v v' w w') (k : Mv g v' v'' w' w'') : Mv g v v'' w w'' :=
  ⟨h.upd k.1, fun j hj => by
    rcases k.2 j hj with h2 | h2
    · exact h.2 j h2
    · exact .inr (Nat.le_trans h.1.size h2)⟩
theorem Mv.then (h : Mv g v v' w w') (k : Upd (fun k => k = g) w' w'') : Mv g v v' w w'' := h.trans (Mv.of k v')
theorem Mv.size (h : Mv g v v' w w') : w.heap.size ≤ w'.heap.size := h.1.size
end
/-- Behind a type's nodes. N: the nodes ahead, as they lie in memory. -/
def NodeTo (w : World) (B g : Nat) (tv : Value) (ts : List Tk) (L : Nat) (v : Value) (N : List Nd) (r : PR (List Nd × Nat)) (e : Ending) (w' : World) : Prop :=
  (∃ M j v', r = .ok (M, j) ∧ e = .returned (.tuple #[]) ∧ Hid (Par w' B g tv ts L j v' (N ++ M.map (ndP ts L)) ∧ (N ++ M.map (ndP ts L)).length ≤ j) ∧ Hid (Mv g v v' w w')) ∨
  (∃ y, r = .error y ∧ e = Flt y.1 (plc ts L y.2) ∧ Hid (Upd (fun k => k = g ∨ v.ownBlock = some k) w w'))
/-- node's contract, for types that may hold others f deep. -/
def NodeOk (f : Nat) : Prop := ∀ (w : World) (B g : Nat) (tv v : Value) (ts : List Tk) (L p : Nat) (N : List Nd) (x : Nd) (d : Nat), Hid (Par w B g tv ts L p v N) → N.length ≤ p → d + f = 17 →
  Calls Try.prog 48 #[.pointer (some ⟨g, 0, none⟩), ndv (ndP ts L x), .int .i64 (d : Int)] w fun e w' => NodeTo w B g tv ts L v N (nodeP (ts.map core) f x p) e w'
end Go.Proofs.Ytokepgimjdalaaa
