/- A made value's text; bytes of a text in memory. -/
import Derived.Test.YtlbgdgobhiokpaaDoorZq
import Derived.Test.YtlbgdgobhiokpaaDoorZk
import Derived.Test.YtlbgdgobhiokpaaDoorZi
import Derived.Lib.AtoiErrMem
namespace Go.Proofs.YtlbgdgobhiokpaaDoor
open Go.RowKit
set_option linter.unusedVariables false
set_option linter.unusedSimpArgs false

theorem made_right {M : List Nd} (h : MadeOk M) : ∀ x ∈ M, right x = true ∧ 0 ≤ x.2.1 := fun x hx => ⟨(chk_enough M 1 0 h.ok).2.2 x hx, h.pos x hx⟩
theorem made_tx {M : List Nd} (h : MadeOk M) : tx (printS M) = printM M [] := by
  rw [printS, if_pos h.ok]
  exact tx_of (printM_bytes M [] (made_right h))
theorem made_ne {M : List Nd} (h : MadeOk M) : 0 < M.length := by
  rcases Nat.eq_zero_or_pos M.length with h0 | h0
  · have := h.ok
    rw [List.length_eq_zero_iff.1 h0] at this
    simp [chk] at this
  · exact h0
theorem beginT_pos (x : Nd) (hx : right x = true) : 0 < (beginT x).length := by
  obtain ⟨h1, h2, h3⟩ := (right_iff x).1 hx
  have hm : mostN x.1 ≤ 18446744073709551615 := by unfold mostN; split <;> (try split) <;> (try split) <;> omega
  obtain ⟨c, r, e, -⟩ := digs_head x.2.1 (by omega)
  unfold beginT
  split
  · rw [e]; simp
  · split
    · split <;> simp
    · split
      · simp
      · split
        · simp
        · split
          · simp
          · split <;> simp
theorem digF_len : ∀ (m f u : Nat), u < 10 ^ (m + 1) → (digF f u).length ≤ m + 1
  | m, 0, u, h => by simp [digF]
  | 0, f + 1, u, h => by simp at h; rw [digF, if_pos h]; simp
  | m + 1, f + 1, u, h => by
    by_cases hu : u < 10
    · rw [digF, if_pos hu]; simp
    · rw [digF, if_neg hu]
      have := digF_len m f (u / 10) (by rw [Nat.div_lt_iff_lt_mul (by decide)]; rw [Nat.pow_succ] at h; exact h)
      simp
      omega
theorem printM_small : ∀ (l : List Nd) (K : Stk), (∀ x ∈ l, right x = true ∧ 0 ≤ x.2.1) → (printM l K).length ≤ 22 * l.length + 3 * K.length
  | [], K, _ => by simp [printM]
  | x :: l, K, h => by
    obtain ⟨h1, h2, h3⟩ := (right_iff x).1 (h x (by simp)).1
    have h4 := printM_small l (closeM x.2.2 x.1 K).2 (fun y hy => h y (by simp [hy]))
    have h5 : (beginT x).length + (closeM x.2.2 x.1 K).1.length + 3 * (closeM x.2.2 x.1 K).2.length ≤ 22 + 3 * K.length := by
      by_cases hk : x.1 = 1
      · have e1 : (beginT x).length ≤ 20 := by
          have hm : x.2.1 ≤ 18446744073709551615 := by rw [hk] at h2; exact h2
          unfold beginT
          rw [if_pos hk]
          exact digF_len 19 20 x.2.1.toNat (by omega)
        have e2 : (closeM x.2.2 x.1 K).1.length + 3 * (closeM x.2.2 x.1 K).2.length ≤ 3 * K.length + 2 := by
          have h0 : x.2.2 = 0 := by rw [hk] at h3; have : leastK 1 = 0 := rfl; have : mostK 1 = 0 := rfl; omega
          rw [h0, hk]
          cases K with
          | nil => simp [closeM, endT]
          | cons e T =>
            obtain ⟨g, k2⟩ := e
            have := closeM_len T (g - 1) k2
            have h3 : (if 1 < g then ([44, 32] : List Int) else []).length ≤ 2 := by split <;> simp
            simp only [closeM, if_pos, endT, List.length_append, List.length_cons]
            simp
            omega
        omega
      · have e1 : (beginT x).length ≤ 5 := by
          unfold beginT
          rw [if_neg hk]
          split
          · split <;> simp
          · split
            · simp
            · split
              · simp
              · split
                · rename_i h6
                  have hm : x.2.1 ≤ 255 := by rw [h6] at h2; exact h2
                  have := digF_len 2 20 x.2.1.toNat (by omega)
                  simp [digs]
                  omega
                · split <;> simp
        have := closeM_len K x.2.2 x.1
        omega
    simp only [printM, List.length_append, List.length_cons]
    omega
theorem made_size {M : List Nd} (h : MadeOk M) : 0 < (printS M).size ∧ (printS M).size ≤ 9900 := by
  rw [← tx_len, made_tx h]
  have h1 := printM_small M [] (made_right h)
  have h2 := h.len
  refine ⟨?_, by simp at h1; omega⟩
  cases hM : M with
  | nil => have := made_ne h; rw [hM] at this; simp at this
  | cons x l =>
    have := beginT_pos x (made_right h x (by rw [hM]; simp)).1
    simp only [printM, List.length_append]
    omega
theorem made_read {M : List Nd} (h : MadeOk M) : okM (tx (printS M)) (readT (tx (printS M)) st00) = true ∧ parseN (tx (printS M)) = M ∧ parseF (tx (printS M)) = (0, 0) := by
  rw [made_tx h]
  exact parse_print M h.ok h.pos
theorem parseN_len (t : List Int) : (parseN t).length ≤ t.length := by
  have : ∀ (f : Nat) (st : PS), PSok t.length st → PSok t.length (readM f t st) := by
    intro f
    induction f with
    | zero => intro st h; exact h
    | succ f ih =>
      intro st h
      rw [readM]
      cases hc : t[st.p]? with
      | none => exact h
      | some c =>
        obtain ⟨h1, h2, h3⟩ := rndM_ok (c := c) h (at_lt hc)
        simp only
        split
        · exact ih _ h1
        · exact h1
  unfold parseN
  split
  · have h1 : PSok t.length (readT t st00) := this _ _ (PSok.begin t.length)
    exact Nat.le_trans h1.np h1.pl
  · exact Nat.zero_le _
theorem tx_front (s : ByteArray) (k : Nat) : tx (s.extract 0 k) = (tx s).take k := by
  unfold tx
  rw [← List.map_take]
  congr 1
  simp [ByteArray.data_extract]
/-- What the reading of a text comes to. -/
theorem parse_two (t : List Int) : (okM t (readT t st00) = true ∧ parseF t = (0, 0)) ∨ (okM t (readT t st00) = false ∧ parseN t = [] ∧ parseF t = (41, ((readT t st00).p : Int))) := by
  unfold parseN parseF
  cases h : okM t (readT t st00) with
  | true => left; simp
  | false => right; simp
/-- What a text that is read prints as. -/
theorem read_print (s : ByteArray) (h : okM (tx s) (readT (tx s) st00) = true) : printS (parseN (tx s)) = s ∧ (chk 1 0 (parseN (tx s))) = (0, 0) ∧ ∀ x ∈ parseN (tx s), 0 ≤ x.2.1 := by
  obtain ⟨h1, h2, h3⟩ := print_parse (tx s) h
  refine ⟨?_, h2, h1⟩
  rw [printS, if_pos (by rw [h2]), h3, of_tx]
theorem beq_self (s : ByteArray) : (s.toList == s.toList) = true := by simp
theorem beq_not {s t : ByteArray} (h : s ≠ t) : (s.toList == t.toList) = false := by
  rw [beq_eq_false_iff_ne]
  intro e
  apply h
  rw [ByteArray.toList_eq, ByteArray.toList_eq] at e
  exact ByteArray.ext (Array.toList_inj.1 e)
/-- Bytes in a block of a text's own. -/
structure Bts (B : Nat) (w : World) (g : Nat) (l : List Int) : Prop where
  at' : ∀ i, i < l.length → w.cell? ⟨g, i, none⟩ = some (.int .u8 (l.getD i 0))
  fz : ∀ i, i < l.length → w.frozen? ⟨g, i, none⟩ = false
  hb : B ≤ g
  lt : g < w.heap.size
theorem run_bytes (w : World) (s : ByteArray) : ∃ cap w', (convert 9 41 (.string s)).run Tryd.prog w = .ok (.slice (some ⟨w.heap.size, 0, none⟩) s.size cap) w' ∧ s.size ≤ cap ∧ Bts w.heap.size w' w.heap.size (tx s) ∧ Below w.heap.size w w' := by
  refine ⟨_, _, Lib.run_convert_string_bytes (P := Tryd.prog) w 9 41 5 s (u := .string) Tryd.underlying9 Tryd.underlying41 Tryd.underlying5, ?_, ⟨fun i hi => ?_, fun i hi => ?_, Nat.le_refl _, by rw [Lib.bytesWorld_size]; omega⟩, Lib.bytesWorld_below w 5 s⟩
  · exact grownCap_ge _ _ _ _
  · rw [tx_len] at hi
    rw [Lib.bytesWorld_cell w 5 s i hi]
    have h1 := tx_at s i hi
    have h2 : i < s.data.toList.length := by simpa using hi
    have e1 : (tx s).getD i 0 = ((s[i]'hi).toNat : Int) := by rw [List.getD, h1]; rfl
    rw [e1, List.getD, List.getElem?_eq_getElem h2]
    rfl
  · rw [tx_len] at hi
    have hsz : s.size ≤ (Lib.bytesCells w 5 s).size := by simp [Lib.bytesCells]
    simp only [World.frozen?, Lib.bytesWorld_at_new]
    simp
    omega
theorem Bts.row {B g : Nat} {w : World} {l : List Int} (h : Bts B w g l) : Row .u8 w (some ⟨g, 0, none⟩) l := .inr ⟨_, rfl, fun i hi => by rw [add_none, Nat.zero_add]; exact h.at' i hi⟩
theorem Bts.later {B g : Nat} {w w' : World} {l : List Int} (h : Bts B w g l) (hB : Below w.heap.size w w') : Bts B w' g l :=
  ⟨fun i hi => (hB.cell h.lt).trans (h.at' i hi), fun i hi => by rw [← h.fz i hi]; simp only [World.frozen?]; rw [hB.block g h.lt], h.hb, Nat.lt_of_lt_of_le h.lt hB.size⟩
theorem Bts.set {B g k : Nat} {w : World} {l : List Int} (h : Bts B w g l) (c : Int) (hk : k < l.length) : Row .u8 (w.setCell ⟨g, k, none⟩ (.int .u8 c)) (some ⟨g, 0, none⟩) (l.set k c) := by
  refine .inr ⟨_, rfl, fun i hi => ?_⟩
  rw [add_none, Nat.zero_add]
  simp at hi
  by_cases e : i = k
  · subst e
    rw [World.cell?_setCell_same _ _ _ (h.at' i hk)]
    simp [List.getD, hk]
  · rw [World.cell?_setCell_other _ _ _ _ (by intro h1; injection h1 with _ h1; exact e h1.symm), h.at' i hi]
    simp [List.getD, Ne.symm e]
end Go.Proofs.YtlbgdgobhiokpaaDoor
