/- read: plain. -/
import Derived.Test.YtlbgdgobhiokpaaDoorS
namespace Go.Proofs.YtlbgdgobhiokpaaDoor
open Go.RowKit
set_option linter.unusedVariables false

def rndM (t : List Int) (c : Int) (st : PS) : PS × Bool :=
  if c = 93 ∨ c = 125 ∨ c = 62 then (if mayC st.N st.O st.en c = true then (⟨st.p + 1, st.N, popO st.N st.O.tail, true⟩, true) else (st, false))
  else if c = 44 then
    (if mayGo st.N st.O st.en = true then
      (if (takeW t st.p [44, 32]).2 = true then (⟨(takeW t st.p [44, 32]).1, st.N, st.O, false⟩, true) else (⟨(takeW t st.p [44, 32]).1, st.N, st.O, st.en⟩, false))
    else (st, false))
  else if st.en = true then (st, false) else beginM t c st
def readM : Nat → List Int → PS → PS
  | 0, _, st => st
  | f + 1, t, st => match t[st.p]? with
    | none => st
    | some c => if (rndM t c st).2 = true then readM f t (rndM t c st).1 else (rndM t c st).1
theorem at_lt {t : List Int} {p : Nat} {c : Int} (h : t[p]? = some c) : p < t.length := by
  rcases Nat.lt_or_ge p t.length with h1 | h1
  · exact h1
  · rw [List.getElem?_eq_none h1] at h; cases h
theorem PSok.same {len : Nat} {p p' : Nat} {N : List Nd} {O O' : List Nat} {en en' : Bool} (h : PSok len ⟨p, N, O, en⟩) (hp : p ≤ p') (hl : p' ≤ len) (hO : ∀ o ∈ O', o ∈ O) (hO2 : O'.length ≤ O.length) : PSok len ⟨p', N, O', en'⟩ := by
  have h1 : N.length ≤ p := h.np
  have h2 : O.length ≤ N.length := h.ol
  exact ⟨hl, Nat.le_trans h1 hp, fun o ho => h.on o (hO o ho), Nat.le_trans hO2 h2, h.kd⟩
theorem leafM_ok {t : List Int} {c : Int} {st : PS} (h : PSok t.length st) : PSok t.length (leafM t c st).1 ∧ st.p ≤ (leafM t c st).1.p ∧ ((leafM t c st).2 = true → st.p < (leafM t c st).1.p) := by
  obtain ⟨p, N, O, en⟩ := st
  have hp : p ≤ t.length := h.pl
  obtain ⟨h1, h2, h3⟩ := leafW_le t c p hp
  unfold leafM
  simp only
  split
  · rename_i hok
    refine ⟨h.add _ _ (h3 hok) h2 (fun o ho => .inr ((popO_sub _ _).1 o ho)) (Nat.le_trans (popO_sub _ _).2 (by omega)), h1, fun _ => h3 hok⟩
  · exact ⟨h.same h1 h2 (fun _ h => h) (Nat.le_refl _), h1, fun h => by simp at h⟩
theorem beginM_ok {t : List Int} {c : Int} {st : PS} (h : PSok t.length st) (hlt : st.p < t.length) : PSok t.length (beginM t c st).1 ∧ st.p ≤ (beginM t c st).1.p ∧ ((beginM t c st).2 = true → st.p < (beginM t c st).1.p) := by
  obtain ⟨p, N, O, en⟩ := st
  have hp : p < t.length := hlt
  have mem : ∀ o ∈ N.length :: O, o = N.length ∨ o ∈ O := fun o ho => by simpa using ho
  unfold beginM
  simp only
  split
  · exact ⟨h.add _ _ (Nat.lt_succ_self _) hp mem (by simp), by simp, fun _ => by simp⟩
  · split
    · exact ⟨h.add _ _ (Nat.lt_succ_self _) hp mem (by simp), by simp, fun _ => by simp⟩
    · split
      · have hj := numL_le 255 (t.drop (p + 1)) true 0
        rw [List.length_drop] at hj
        have hq := takeW_le t [58] (p + 1 + (numL 255 (t.drop (p + 1)) true 0).2) (by omega)
        split
        · split
          · exact ⟨h.add _ _ (by omega) hq.2 mem (by simp), by simp only; omega, fun _ => by simp only; omega⟩
          · exact ⟨h.same (by omega) hq.2 (fun _ h => h) (Nat.le_refl _), by simp only; omega, fun h => by simp at h⟩
        · exact ⟨h.same (by omega) hp (fun _ h => h) (Nat.le_refl _), by simp, fun h => by simp at h⟩
      · split
        · have hq := takeW_le t [115, 111, 109, 101, 32] p (by omega)
          split
          · rename_i hok
            have hpos := takeW_pos t _ _ p hok (by omega)
            exact ⟨h.add _ _ hpos hq.2 mem (by simp), by simp only; omega, fun _ => hpos⟩
          · exact ⟨h.same hq.1 hq.2 (fun _ h => h) (Nat.le_refl _), hq.1, fun h => by simp at h⟩
        · exact leafM_ok h
theorem rndM_ok {t : List Int} {c : Int} {st : PS} (h : PSok t.length st) (hlt : st.p < t.length) : PSok t.length (rndM t c st).1 ∧ st.p ≤ (rndM t c st).1.p ∧ ((rndM t c st).2 = true → st.p < (rndM t c st).1.p) := by
  have hb := beginM_ok (c := c) h hlt
  obtain ⟨p, N, O, en⟩ := st
  have hp : p < t.length := hlt
  unfold rndM
  simp only
  split
  · split
    · refine ⟨h.same (by omega) hp (fun o ho => List.mem_of_mem_tail ((popO_sub _ _).1 o ho)) (Nat.le_trans (popO_sub _ _).2 (by simp)), by simp, fun _ => by simp⟩
    · exact ⟨h, Nat.le_refl _, fun h => by simp at h⟩
  · split
    · have hq := takeW_le t [44, 32] p (by omega)
      split
      · split
        · rename_i hok
          have hpos := takeW_pos t _ _ p hok (by omega)
          exact ⟨h.same hq.1 hq.2 (fun _ h => h) (Nat.le_refl _), hq.1, fun _ => hpos⟩
        · exact ⟨h.same hq.1 hq.2 (fun _ h => h) (Nat.le_refl _), hq.1, fun h => by simp at h⟩
      · exact ⟨h, Nat.le_refl _, fun h => by simp at h⟩
    · split
      · exact ⟨h, Nat.le_refl _, fun h => by simp at h⟩
      · exact hb
theorem readM_fuel (t : List Int) : ∀ (f g : Nat) (st : PS), PSok t.length st → t.length - st.p ≤ f → t.length - st.p ≤ g → readM f t st = readM g t st
  | 0, 0, _, _, _, _ => rfl
  | 0, g + 1, st, h, hf, _ => by
    rw [readM, readM, List.getElem?_eq_none (by omega)]
  | f + 1, 0, st, h, _, hg => by
    rw [readM, readM, List.getElem?_eq_none (by omega)]
  | f + 1, g + 1, st, h, hf, hg => by
    rw [readM, readM]
    cases hc : t[st.p]? with
    | none => rfl
    | some c =>
      have hlt := at_lt hc
      obtain ⟨h1, h2, h3⟩ := rndM_ok (c := c) h hlt
      simp only
      split
      · rename_i hok
        have := h3 hok
        exact readM_fuel t f g _ h1 (by omega) (by omega)
      · rfl
/-- The reading from a state on. -/
def readT (t : List Int) (st : PS) : PS := readM (t.length - st.p) t st
theorem readT_none {t : List Int} {st : PS} (h : t.length ≤ st.p) : readT t st = st := by rw [readT, show t.length - st.p = 0 by omega, readM]
theorem readT_some {t : List Int} {st : PS} {c : Int} (h : PSok t.length st) (hc : t[st.p]? = some c) : readT t st = if (rndM t c st).2 = true then readT t (rndM t c st).1 else (rndM t c st).1 := by
  have hlt := at_lt hc
  obtain ⟨h1, h2, h3⟩ := rndM_ok (c := c) h hlt
  rw [readT, show t.length - st.p = (t.length - st.p - 1) + 1 by omega, readM, hc]
  simp only
  split
  · rename_i hok
    have := h3 hok
    exact readM_fuel t _ _ _ h1 (by omega) (by omega)
  · rfl
theorem PSok.begin (len : Nat) : PSok len ⟨0, [], [], false⟩ := ⟨Nat.zero_le _, Nat.le_refl _, by simp, Nat.le_refl _, fun o => by simp [nil0]⟩
def okM (t : List Int) (st : PS) : Bool := decide (st.p = t.length) && st.en && decide (st.O = [])
end Go.Proofs.YtlbgdgobhiokpaaDoor
