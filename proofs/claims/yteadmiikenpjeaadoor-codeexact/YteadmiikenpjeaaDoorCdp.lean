/- Code, plain: the bytes of a program. -/
import Derived.Test.YteadmiikenpjeaaDoorCdd
namespace Go.Proofs.YteadmiikenpjeaaDoor
open Go.RowKit
set_option linter.unusedVariables false

/-- The first operands that an instruction's row names. -/
def oat (x : In) : Nat → Int
  | 0 => x.a
  | 1 => x.b
  | _ => x.c
def kat (k : Int × Int × Int) : Nat → Int
  | 0 => k.1
  | 1 => k.2.1
  | _ => k.2.2
def nmj (k : Int × Int × Int) (x : In) : Nat → List Int
  | 0 => []
  | j + 1 => nmj k x j ++ (if kat k j ≠ 0 then [oat x j] else [])
def nmd (x : In) : List Int := nmj (kin x.op) x 3
def opB (n : Int) : List Int := form (n + 1).toNat
def insB (x : In) : List Int := form x.op.toNat ++ (nmd x).flatMap opB
def entB (n : Int) : List Int := form n.toNat
def encP (enc : Bool) (C : List In) (E : List Int) : List Int := [109, if enc then 1 else 0] ++ form E.length ++ E.flatMap entB ++ form C.length ++ C.flatMap insB
theorem bnd_rng (nc ne k : Int) (h1 : nc ≤ 1048576) (h2 : ne ≤ 1048576) : -1 ≤ (bnd nc ne k).1 ∧ (bnd nc ne k).2 ≤ 16777216 := by
  unfold bnd
  by_cases h : k = 1 ∨ k = 10
  · rw [if_pos h]; simp only; omega
  rw [if_neg h]; clear h
  by_cases h : k = 2
  · rw [if_pos h]; simp only; omega
  rw [if_neg h]; clear h
  by_cases h : k = 3
  · rw [if_pos h]; simp only; omega
  rw [if_neg h]; clear h
  by_cases h : k = 4
  · rw [if_pos h]; simp only; omega
  rw [if_neg h]; clear h
  by_cases h : k = 5
  · rw [if_pos h]; simp only; omega
  rw [if_neg h]; clear h
  by_cases h : k = 6
  · rw [if_pos h]; simp only; omega
  rw [if_neg h]; clear h
  by_cases h : k = 7
  · rw [if_pos h]; simp only; omega
  rw [if_neg h]; clear h
  by_cases h : k = 8
  · rw [if_pos h]; simp only; omega
  rw [if_neg h]; clear h
  by_cases h : k = 9
  · rw [if_pos h]; simp only; omega
  rw [if_neg h]; clear h
  by_cases h : k = 11
  · rw [if_pos h]; simp only; omega
  rw [if_neg h]; clear h
  by_cases h : k = 12
  · rw [if_pos h]; simp only; omega
  rw [if_neg h]; clear h
  by_cases h : k = 13
  · rw [if_pos h]; simp only; omega
  rw [if_neg h]; clear h
  by_cases h : k = 14
  · rw [if_pos h]; simp only; omega
  rw [if_neg h]; clear h
  by_cases h : k = 15
  · rw [if_pos h]; simp only; omega
  rw [if_neg h]; clear h
  by_cases h : k = 16
  · rw [if_pos h]; simp only; omega
  rw [if_neg h]; clear h
  simp only; omega
theorem alw_nm {nc ne k n : Int} (h1 : nc ≤ 1048576) (h2 : ne ≤ 1048576) (h : alw nc ne k n = true) : -1 ≤ n ∧ n ≤ 16777216 := by
  have a := alw_rng h
  have b := bnd_rng nc ne k h1 h2
  omega
theorem isOf_rng {op : Int} {enc : Bool} (h : isOf op enc = true) : 1 ≤ op ∧ op ≤ 47 := by
  unfold isOf at h
  cases enc with
  | true => simp at h; omega
  | false => simp at h; omega
/-- What an instruction that has its form holds. -/
structure InB (x : In) : Prop where
  op : 1 ≤ x.op ∧ x.op ≤ 47
  nm : ∀ j, j < 3 → -1 ≤ oat x j ∧ oat x j ≤ 16777216
theorem frmX_inB {enc : Bool} {nc ne : Int} {x : In} (h1 : nc ≤ 1048576) (h2 : ne ≤ 1048576) (h : frmX enc nc ne x = true) : InB x := by
  obtain ⟨a, b, c, d⟩ := frmX_parts h
  refine ⟨isOf_rng a, fun j hj => ?_⟩
  have : j = 0 ∨ j = 1 ∨ j = 2 := by omega
  rcases this with rfl | rfl | rfl
  · exact alw_nm h1 h2 b
  · exact alw_nm h1 h2 c
  · exact alw_nm h1 h2 d
theorem Chk.inB {enc : Bool} {C : List In} {E : List Int} (h : Chk enc C E) {i : Nat} {x : In} (hx : C[i]? = some x) : InB x := by
  have hi := (List.getElem?_eq_some_iff.1 hx).1
  have hf := h.code i hi
  unfold frm at hf
  rw [hx] at hf
  simp only [Bool.and_eq_true] at hf
  have := h.nc; have := h.ne
  exact frmX_inB (by omega) (by omega) hf.1
theorem nmj_in {x : In} (h : InB x) (k : Int × Int × Int) : ∀ j, j ≤ 3 → ∀ n ∈ nmj k x j, -1 ≤ n ∧ n ≤ 16777216
  | 0, _, n, hn => by simp [nmj] at hn
  | j + 1, hj, n, hn => by
    rw [nmj, List.mem_append] at hn
    rcases hn with hn | hn
    · exact nmj_in h k j (by omega) n hn
    · split at hn
      · simp at hn; rw [hn]; exact h.nm j (by omega)
      · simp at hn
theorem nmj_len (x : In) (k : Int × Int × Int) : ∀ j, (nmj k x j).length ≤ j
  | 0 => by simp [nmj]
  | j + 1 => by
    have := nmj_len x k j
    rw [nmj, List.length_append]
    split <;> simp <;> omega
theorem opB_len {n : Int} (h : n ≤ 16777216) : (opB n).length ≤ 10 := form_ten _ (by omega)
theorem flat_len {f : Int → List Int} : ∀ (l : List Int), (∀ n ∈ l, (f n).length ≤ 10) → (l.flatMap f).length ≤ 10 * l.length
  | [], _ => by simp
  | n :: l, h => by
    have a := h n (by simp)
    have b := flat_len l (fun m hm => h m (by simp [hm]))
    rw [List.flatMap_cons, List.length_append, List.length_cons]
    omega
theorem insB_len {x : In} (h : InB x) : (insB x).length ≤ 40 := by
  have a := form_ten x.op.toNat (by have := h.op; omega)
  have b := flat_len (f := opB) (nmd x) (fun n hn => opB_len (nmj_in h _ 3 (by omega) n hn).2)
  have c := nmj_len x (kin x.op) 3
  unfold insB
  unfold nmd at b ⊢
  rw [List.length_append]
  omega
theorem take_flat {α : Type} {f : α → List Int} {l : List α} {j : Nat} {x : α} (h : l[j]? = some x) : (l.take (j + 1)).flatMap f = (l.take j).flatMap f ++ f x := by
  rw [List.take_add_one, h]
  simp
theorem ent_len (E : List Int) (hE : ∀ i, i < E.length → 0 ≤ E.getD i 0 ∧ E.getD i 0 ≤ 1048576) : ∀ j, j ≤ E.length → ((E.take j).flatMap entB).length ≤ 10 * j
  | 0, _ => by simp
  | j + 1, hj => by
    have hx : E[j]? = some (E[j]'hj) := List.getElem?_eq_getElem hj
    rw [take_flat hx, List.length_append]
    have := ent_len E hE j (by omega)
    have h2 := hE j hj
    rw [List.getD, hx, Option.getD_some] at h2
    have := form_ten (E[j]'hj).toNat (by omega)
    unfold entB
    unfold entB at *
    omega
theorem code_len (C : List In) (hC : ∀ (i : Nat) (x : In), C[i]? = some x → InB x) : ∀ j, j ≤ C.length → ((C.take j).flatMap insB).length ≤ 40 * j
  | 0, _ => by simp
  | j + 1, hj => by
    have hx : C[j]? = some (C[j]'hj) := List.getElem?_eq_getElem hj
    rw [take_flat hx, List.length_append]
    have := code_len C hC j (by omega)
    have := insB_len (hC j _ hx)
    omega
end Go.Proofs.YteadmiikenpjeaaDoor
