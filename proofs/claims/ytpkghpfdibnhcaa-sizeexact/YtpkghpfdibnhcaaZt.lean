/- size.Length: plain: the walk through a value's nodes. -/
import Derived.Test.YtpkghpfdibnhcaaZs
namespace Go.Proofs.Ytpkghpfdibnhcaa
open Go.RowKit
set_option linter.unusedVariables false

def plus3 (a b c : Int) : Int := capH (tot [a, b, c])
theorem plusC_any (a b d : Int) (w : World) (t : TypeId) (g : Nat) (hk : Hid (Blk w g t [.int .i64 a, .int .i64 b, .int .i64 d])) : Calls Try.prog 52 #[.slice (some ⟨g, 0, none⟩) 3 3] w fun e w' => e = .returned (.int .i64 (plus3 a b d)) ∧ w = w' := by
  refine plus_any (some ⟨g, 0, none⟩) 3 3 [a, b, d] w (by unfold maxLen; omega) rfl (.inr ⟨g, 0, rfl, fun i hi => ?_⟩)
  rw [Nat.zero_add, hk.out.cell]
  match i, hi with
  | 0, _ => rfl
  | 1, _ => rfl
  | 2, _ => rfl
/-- The kids of a node, m of them: the length so far, the lengths so far. -/
def kidsP (g : Nat → List Int → Option (Int × List Int)) (X : List Ex) (x : Nv) (t : Ty) : Nat → Int × List Int → Option (Int × List Int)
  | 0, s => some s
  | m + 1, s => (kidsP g X x t m s).bind fun s => (g (kidTy x t m).toNat s.2).bind fun r => some (plus3 s.1 (offP X t (kidTy x t m)) r.1, r.2)
/-- The value that comes next. -/
def nxP (T : List Ty) (X : List Ex) (V : List Nv) : Nat → Nat → List Int → Option (Int × List Int)
  | 0, _, _ => none
  | f + 1, num, L => if decide (L.length < V.length) && fitsP (V.getD L.length nv0) (T.getD num ty0) then
      (kidsP (nxP T X V f) X (V.getD L.length nv0) (T.getD num ty0) (V.getD L.length nv0).kids.toNat (ownP (V.getD L.length nv0) (T.getD num ty0), L ++ [0])).bind fun s => some (s.1, s.2.set L.length s.1)
    else none
theorem kidsP_len {g : Nat → List Int → Option (Int × List Int)} {X : List Ex} {x : Nv} {t : Ty} {N : Nat} (hg : ∀ num L r, L.length ≤ N → g num L = some r → L.length < r.2.length ∧ r.2.length ≤ N) :
    ∀ (m : Nat) (s r : Int × List Int), s.2.length ≤ N → kidsP g X x t m s = some r → s.2.length ≤ r.2.length ∧ r.2.length ≤ N
  | 0, s, r, hs, h => by
    simp only [kidsP] at h
    injection h with h
    subst h
    exact ⟨Nat.le_refl _, hs⟩
  | m + 1, s, r, hs, h => by
    simp only [kidsP, Option.bind_eq_some_iff] at h
    obtain ⟨q, h1, z, h2, h3⟩ := h
    have a1 := kidsP_len hg m s q hs h1
    have a2 := hg _ _ _ a1.2 h2
    injection h3 with h3
    subst h3
    exact ⟨by simp only; omega, a2.2⟩
theorem nxP_len {T : List Ty} {X : List Ex} {V : List Nv} : ∀ (f num : Nat) (L : List Int) (r : Int × List Int), L.length ≤ V.length → nxP T X V f num L = some r → L.length < r.2.length ∧ r.2.length ≤ V.length
  | 0, _, _, _, _, h => by simp [nxP] at h
  | f + 1, num, L, r, hL, h => by
    simp only [nxP] at h
    split at h
    · rename_i hc
      simp only [Bool.and_eq_true, decide_eq_true_eq] at hc
      rw [Option.bind_eq_some_iff] at h
      obtain ⟨s, h1, h2⟩ := h
      have a1 := kidsP_len (N := V.length) (fun num L r hl hg => nxP_len f num L r hl hg) _ _ _ (by simp; omega) h1
      injection h2 with h2
      subst h2
      simp only [List.length_set]
      simp at a1
      omega
    · cases h
/-- The walk's memory. -/
def WS (w : World) (bw : Nat) (vt vx vn vl : Value) (L : List Int) : Prop := Blk w bw 80 [vt, vx, vn, vl] ∧ w.ownsRow bw 3 1 vl L.length (cellsL .i64 L)
/-- What the walk may change. -/
def WU (bw : Nat) (vl : Value) (w w' : World) : Prop := Upd (fun k => k = bw ∨ vl.ownBlock = some k) w w'
theorem WS.later {w w' : World} {bw : Nat} {vt vx vn vl : Value} {L : List Int} (h : WS w bw vt vx vn vl L) (hB : Below w.heap.size w w') : WS w' bw vt vx vn vl L :=
  ⟨h.1.later hB, ownS_upd h.2 (Upd.of_below (S := fun _ => False) hB) (fun _ _ h => h)⟩
theorem WS.below {w w' : World} {bw : Nat} {vt vx vn vl : Value} {L : List Int} (h : WS w bw vt vx vn vl L) (hu : WU bw vl w w') : Below bw w w' :=
  Upd.below hu bw (Nat.le_of_lt h.1.lt) (fun k hk => by
    rcases hk with rfl | hk
    · exact Nat.le_refl _
    · exact (h.2.lt k hk).1)
theorem WS.keep {w w' : World} {bw : Nat} {vt vx vn vl : Value} {L : List Int} {g : Nat} {t : TypeId} {xs : List Value} (h : WS w bw vt vx vn vl L) (hu : WU bw vl w w') (hb : Blk w g t xs) (h1 : t ≠ 80) (h2 : t ≠ 3) : Blk w' g t xs :=
  hb.upd hu (fun e => by
    rcases e with rfl | e
    · exact h1 (blk_type hb h.1)
    · exact own_ne_t h.2 hb (Ne.symm h2) e)
/-- Where a later list of lengths lies. -/
def VN (vl vl' : Value) (w : World) : Prop := ∀ k, vl'.ownBlock = some k → vl.ownBlock = some k ∨ w.heap.size ≤ k
theorem VN.refl (vl : Value) (w : World) : VN vl vl w := fun k h => .inl h
theorem VN.trans {a b c : Value} {w w' : World} (h : VN a b w) (g : VN b c w') (hs : w.heap.size ≤ w'.heap.size) : VN a c w := fun k hk => by
  rcases g k hk with h1 | h1
  · exact h k h1
  · exact .inr (by omega)
theorem WU.trans {bw : Nat} {vl vl' : Value} {a b c : World} (h : WU bw vl a b) (g : WU bw vl' b c) (hv : VN vl vl' a) : WU bw vl a c :=
  Upd.trans h g (fun k hk ht => by
    rcases ht with ht | ht
    · exact .inl ht
    · rcases hv k ht with h1 | h1
      · exact .inr h1
      · omega)
theorem WU.then {bw : Nat} {vl : Value} {a b c : World} (h : WU bw vl a b) (g : Below b.heap.size b c) : WU bw vl a c := Upd.then h g
theorem WU.refl (bw : Nat) (vl : Value) (w : World) : WU bw vl w w := Upd.refl _ _
/-- What next answers. -/
def NxTo (r : Option (Int × List Int)) (w : World) (bw : Nat) (vt vx vn vl : Value) (e : Ending) (w' : World) : Prop :=
  WU bw vl w w' ∧ match r with
    | none => e = .returned (.tuple #[.int .i64 0, .bool false])
    | some r => e = .returned (.tuple #[.int .i64 r.1, .bool true]) ∧ ∃ vl', WS w' bw vt vx vn vl' r.2 ∧ VN vl vl' w
theorem kidTy_bd {x : Nv} {t : Ty} {i : Int} {j : Nat} (h : tyOk t i = true) (hf : fitsP x t = true) (hj : (j : Int) < x.kids) : 0 ≤ kidTy x t j ∧ kidTy x t j < i := by
  obtain ⟨k, n, el, ps⟩ := t
  have hk := tyOk_kind h
  simp only at hk
  unfold kidTy
  simp only
  rcases hk with rfl | rfl | rfl | rfl | rfl | rfl | rfl | rfl
  · simp [fitsP] at hf; omega
  · simp [fitsP] at hf; omega
  · simp [fitsP] at hf; omega
  · have := tyOk_elem h rfl; simpa using this
  · have := tyOk_elem h rfl; simpa using this
  · have := tyOk_elem h rfl; simpa using this
  · simp [fitsP] at hf
    obtain ⟨m, hm⟩ := Option.isSome_iff_exists.1 hf.2
    obtain ⟨p, hp, -⟩ := armI_some hm
    have := tyOk_part h hp
    simp [hm, List.getD, hp]
    exact this
  · simp [fitsP] at hf
    have hjl : j < ps.length := by omega
    have := tyOk_part h (List.getElem?_eq_getElem hjl)
    simp [List.getD, hjl]
    exact this
end Go.Proofs.Ytpkghpfdibnhcaa
