import Derived.Test.YtlbgdgobhiokpaaDoorPart10

/- Texts that are cut, plain. -/
namespace Go.Proofs.YtlbgdgobhiokpaaDoor
open Go.RowKit
set_option linter.unusedVariables false
set_option linter.unusedSimpArgs false

theorem take_at {t : List Int} {j p : Nat} : (t.take j)[p]? = if p < j then t[p]? else none := by rw [List.getElem?_take]
theorem takeW_cut (t : List Int) (j : Nat) : ∀ (r : List Int) (p : Nat), p ≤ j → ((takeW t p r).1 < j → takeW (t.take j) p r = takeW t p r) ∧ (j ≤ (takeW t p r).1 → (takeW (t.take j) p r).1 = j)
  | [], p, hp => by simp only [takeW]; exact ⟨fun _ => trivial, fun h => by omega⟩
  | c :: r, p, hp => by
    unfold takeW
    rw [take_at]
    by_cases hj : p < j
    · rw [if_pos hj]
      split
      · exact takeW_cut t j r (p + 1) hj
      · exact ⟨fun _ => rfl, fun (h : j ≤ p) => by omega⟩
    · obtain rfl : p = j := by omega
      rw [if_neg hj, if_neg (show ¬ (none : Option Int) = some c by simp)]
      refine ⟨fun h => ?_, fun _ => rfl⟩
      exfalso
      split at h
      · rename_i hc
        have hlt := at_lt hc
        have := (takeW_le t r (p + 1) hlt).1
        omega
      · exact Nat.lt_irrefl _ h
theorem numL_cut (most : Int) : ∀ (l : List Int) (m : Nat) (f : Bool) (n : Int), ((numL most l f n).2 < m → numL most (l.take m) f n = numL most l f n) ∧ (m ≤ (numL most l f n).2 → (numL most (l.take m) f n).2 = m)
  | [], m, f, n => by simp only [numL, List.take_nil]; exact ⟨fun _ => trivial, fun h => by omega⟩
  | c :: l, 0, f, n => ⟨fun h => by omega, fun _ => rfl⟩
  | c :: l, m + 1, f, n => by
    obtain ⟨i1, i2⟩ := numL_cut most l m false (n * 10 + (c - 48))
    rw [List.take_succ_cons]
    unfold numL
    split
    · split
      · exact ⟨fun _ => rfl, fun h => by simp at h⟩
      · refine ⟨fun h => ?_, fun h => ?_⟩
        · rw [i1 (by simpa using h)]
        · simp only at h ⊢
          rw [i2 (by omega)]
    · exact ⟨fun _ => rfl, fun h => by simp at h⟩
theorem leaf_cut {t : List Int} {j : Nat} {c : Int} {st : PS} (hp : st.p < j) : ((leafM t c st).1.p < j → leafM (t.take j) c st = leafM t c st) ∧ (j ≤ (leafM t c st).1.p → (leafM (t.take j) c st).1.p = j) := by
  have key : ((leafW t c st.p).1 < j → leafW (t.take j) c st.p = leafW t c st.p) ∧ (j ≤ (leafW t c st.p).1 → (leafW (t.take j) c st.p).1 = j) := by
    unfold leafW
    split
    · have := takeW_cut t j [110, 111, 110, 101] st.p (by omega)
      exact ⟨fun h => by rw [this.1 h], fun h => this.2 h⟩
    · split
      · have := takeW_cut t j [102, 97, 108, 115, 101] st.p (by omega)
        exact ⟨fun h => by rw [this.1 h], fun h => this.2 h⟩
      · split
        · have := takeW_cut t j [116, 114, 117, 101] st.p (by omega)
          exact ⟨fun h => by rw [this.1 h], fun h => this.2 h⟩
        · have := numL_cut 18446744073709551615 (t.drop st.p) (j - st.p) true 0
          rw [List.drop_take]
          simp only
          exact ⟨fun h => by rw [this.1 (by omega)], fun h => by rw [this.2 (by omega)]; omega⟩
  have e : ∀ s : List Int, (leafM s c st).1.p = (leafW s c st.p).1 := fun s => by unfold leafM; split <;> rfl
  rw [e, e]
  refine ⟨fun h => ?_, key.2⟩
  unfold leafM
  rw [key.1 h]
theorem begin_cut {t : List Int} {j : Nat} {c : Int} {st : PS} (hp : st.p < j) (hj : j ≤ t.length) : ((beginM t c st).1.p < j → beginM (t.take j) c st = beginM t c st) ∧ (j ≤ (beginM t c st).1.p → (beginM (t.take j) c st).1.p = j) := by
  unfold beginM
  split
  · exact ⟨fun _ => rfl, fun h => by simp only at h ⊢; omega⟩
  · split
    · exact ⟨fun _ => rfl, fun h => by simp only at h ⊢; omega⟩
    · split
      · have k1 := numL_cut 255 (t.drop (st.p + 1)) (j - (st.p + 1)) true 0
        rw [List.drop_take]
        have hle := numL_le 255 (t.drop (st.p + 1)) true 0
        rw [List.length_drop] at hle
        by_cases hlt : (numL 255 (t.drop (st.p + 1)) true 0).2 < j - (st.p + 1)
        · rw [k1.1 hlt]
          split
          · have k2 := takeW_cut t j [58] (st.p + 1 + (numL 255 (t.drop (st.p + 1)) true 0).2) (by omega)
            have e : ∀ s : List Int, (if (takeW s (st.p + 1 + (numL 255 (t.drop (st.p + 1)) true 0).2) [58]).2 = true then ((⟨(takeW s (st.p + 1 + (numL 255 (t.drop (st.p + 1)) true 0).2) [58]).1, addN st.N st.O 6 (numL 255 (t.drop (st.p + 1)) true 0).1, st.N.length :: st.O, st.en⟩, true) : PS × Bool)
      else (⟨(takeW s (st.p + 1 + (numL 255 (t.drop (st.p + 1)) true 0).2) [58]).1, st.N, st.O, st.en⟩, false)).1.p = (takeW s (st.p + 1 + (numL 255 (t.drop (st.p + 1)) true 0).2) [58]).1 := fun s => by split <;> rfl
            rw [e, e]
            exact ⟨fun h => by rw [k2.1 h], k2.2⟩
          · exact ⟨fun _ => rfl, fun h => by simp only at h ⊢; omega⟩
        · have e2 := k1.2 (by omega)
          have hge : st.p + 1 + (numL 255 (t.drop (st.p + 1)) true 0).2 ≥ j := by omega
          refine ⟨fun h => ?_, fun _ => ?_⟩
          · exfalso
            split at h
            · have k3 := (takeW_le t [58] (st.p + 1 + (numL 255 (t.drop (st.p + 1)) true 0).2) (by omega)).1
              split at h <;> (simp only at h; omega)
            · simp only at h; omega
          · rw [e2]
            split
            · rw [show st.p + 1 + (j - (st.p + 1)) = j by omega]
              have e3 : takeW (t.take j) j [58] = (j, false) := by
                unfold takeW; rw [take_at, if_neg (Nat.lt_irrefl _), if_neg (by simp)]
              rw [e3]
              rfl
            · simp only; omega
      · split
        · have k2 := takeW_cut t j [115, 111, 109, 101, 32] st.p (by omega)
          have e : ∀ s : List Int, (if (takeW s st.p [115, 111, 109, 101, 32]).2 = true then ((⟨(takeW s st.p [115, 111, 109, 101, 32]).1, addN st.N st.O 5 0, st.N.length :: st.O, st.en⟩, true) : PS × Bool)
    else (⟨(takeW s st.p [115, 111, 109, 101, 32]).1, st.N, st.O, st.en⟩, false)).1.p = (takeW s st.p [115, 111, 109, 101, 32]).1 := fun s => by split <;> rfl
          rw [e, e]
          exact ⟨fun h => by rw [k2.1 h], k2.2⟩
        · exact leaf_cut hp
theorem rnd_cut {t : List Int} {j : Nat} {c : Int} {st : PS} (hp : st.p < j) (hj : j ≤ t.length) : ((rndM t c st).1.p < j → rndM (t.take j) c st = rndM t c st) ∧ (j ≤ (rndM t c st).1.p → (rndM (t.take j) c st).1.p = j) := by
  unfold rndM
  split
  · refine ⟨fun _ => rfl, fun h => ?_⟩
    split
    · rename_i h2
      rw [if_pos h2] at h
      simp only at h ⊢; omega
    · rename_i h2
      rw [if_neg h2] at h
      simp only at h ⊢; omega
  · split
    · split
      · have k2 := takeW_cut t j [44, 32] st.p (by omega)
        have e : ∀ s : List Int, (if (takeW s st.p [44, 32]).2 = true then ((⟨(takeW s st.p [44, 32]).1, st.N, st.O, false⟩, true) : PS × Bool) else (⟨(takeW s st.p [44, 32]).1, st.N, st.O, st.en⟩, false)).1.p = (takeW s st.p [44, 32]).1 := fun s => by split <;> rfl
        rw [e, e]
        exact ⟨fun h => by rw [k2.1 h], k2.2⟩
      · exact ⟨fun _ => rfl, fun h => by simp only at h ⊢; omega⟩
    · split
      · exact ⟨fun _ => rfl, fun h => by simp only at h ⊢; omega⟩
      · exact begin_cut hp hj
theorem readM_mono (t : List Int) : ∀ (f : Nat) (st : PS), PSok t.length st → st.p ≤ (readM f t st).p
  | 0, st, _ => Nat.le_refl _
  | f + 1, st, h => by
    rw [readM]
    cases hc : t[st.p]? with
    | none => exact Nat.le_refl _
    | some c =>
      obtain ⟨h1, h2, h3⟩ := rndM_ok (c := c) h (at_lt hc)
      simp only
      split
      · exact Nat.le_trans h2 (readM_mono t f _ h1)
      · exact h2
theorem readM_stop {t : List Int} {f : Nat} {st : PS} (h : t.length ≤ st.p) : readM f t st = st := by
  cases f with
  | zero => rfl
  | succ f => rw [readM, List.getElem?_eq_none h]
theorem read_cut {t : List Int} {j : Nat} (hj : j ≤ t.length) : ∀ (f : Nat) (st : PS), PSok t.length st → st.p ≤ j → t.length - st.p ≤ f → ((readM f t st).p < j → readM f (t.take j) st = readM f t st) ∧ (j ≤ (readM f t st).p → (readM f (t.take j) st).p = j) := by
  have hlen : (t.take j).length = j := by simp; omega
  intro f
  induction f with
  | zero => intro st hk hp hf; simp only [readM]; exact ⟨fun _ => trivial, fun h => by omega⟩
  | succ f ih =>
    intro st hk hp hf
    by_cases hpj : st.p = j
    · have h1 := readM_mono t (f + 1) st hk
      rw [readM_stop (t := t.take j) (by omega)]
      exact ⟨fun h => by omega, fun _ => hpj⟩
    · have hlt : st.p < j := by omega
      have hc : t[st.p]? = some (t[st.p]'(by omega)) := List.getElem?_eq_getElem _
      generalize t[st.p]'(by omega) = c at hc
      obtain ⟨h1, h2, h3⟩ := rndM_ok (c := c) hk (at_lt hc)
      obtain ⟨r1, r2⟩ := rnd_cut (t := t) (c := c) hlt hj
      rw [readM, readM, take_at, if_pos hlt, hc]
      simp only
      by_cases hq : (rndM t c st).1.p < j
      · rw [r1 hq]
        split
        · rename_i hr
          have := h3 hr
          exact ih _ h1 (by omega) (by omega)
        · exact ⟨fun _ => rfl, fun h => by omega⟩
      · have e := r2 (by omega)
        refine ⟨fun h => ?_, fun _ => ?_⟩
        · exfalso
          split at h
          · have := readM_mono t f _ h1
            omega
          · omega
        · split
          · rw [readM_stop (by omega)]; exact e
          · exact e
theorem stop_cut (t : List Int) (j : Nat) (hj : j ≤ t.length) : ((readT t st00).p < j → readT (t.take j) st00 = readT t st00) ∧ (j ≤ (readT t st00).p → (readT (t.take j) st00).p = j) := by
  have h := read_cut hj t.length st00 (PSok.begin _) (Nat.zero_le _) (Nat.sub_le _ _)
  have e1 : readM t.length t st00 = readT t st00 := rfl
  have e2 : readM t.length (t.take j) st00 = readT (t.take j) st00 := readM_fuel (t.take j) _ _ st00 (PSok.begin _) (by simp; omega) (Nat.le_refl _)
  rw [e1, e2] at h
  exact h
theorem stop_le (t : List Int) : (readT t st00).p ≤ t.length := by
  have : ∀ (f : Nat) (st : PS), PSok t.length st → (readM f t st).p ≤ t.length := by
    intro f
    induction f with
    | zero => intro st h; exact h.pl
    | succ f ih =>
      intro st h
      rw [readM]
      cases hc : t[st.p]? with
      | none => exact h.pl
      | some c =>
        obtain ⟨h1, h2, h3⟩ := rndM_ok (c := c) h (at_lt hc)
        simp only
        split
        · exact ih _ h1
        · exact h1.pl
  exact this _ _ (PSok.begin _)
/-- A value's text, one byte of it turned: the reading comes as far as that byte. -/
theorem spoilt {t : List Int} {k : Nat} (x : Int) (h : okM t (readT t st00) = true) (hk : k < t.length) : k ≤ (readT (t.set k x) st00).p := by
  obtain ⟨h1, -, -⟩ := okM_is h
  have e1 := (stop_cut t k (by omega)).2 (by omega)
  have e2 : (t.set k x).take k = t.take k := by rw [List.take_set_of_le (Nat.le_refl _)]
  rcases Nat.lt_or_ge (readT (t.set k x) st00).p k with h2 | h2
  · have e3 := (stop_cut (t.set k x) k (by simp; omega)).1 h2
    rw [e2] at e3
    rw [e3] at e1
    omega
  · exact h2

/-! ### A value's text that is the front of another's -/
theorem popO_congr {N N' : List Nd} : ∀ {O : List Nat}, (∀ o ∈ O, kk N o = kk N' o) → popO N O = popO N' O
  | [], _ => rfl
  | o :: O, h => by
    have h1 : (N.getD o nil0).1 = (N'.getD o nil0).1 := h o (by simp)
    rw [popO, popO, h1, popO_congr fun q hq => h q (by simp [hq])]
theorem rnd_ended {t : List Int} {c : Int} {st : PS} (h1 : st.en = true) (h2 : st.O = []) : rndM t c st = (st, false) := by
  obtain ⟨p, N, O, en⟩ := st
  simp only at h1 h2
  subst h1 h2
  unfold rndM
  simp [mayC, mayGo]
theorem readM_ended {t : List Int} {f : Nat} {st : PS} (h1 : st.en = true) (h2 : st.O = []) : readM f t st = st := by
  cases f with
  | zero => rfl
  | succ f =>
    rw [readM]
    cases hc : t[st.p]? with
    | none => rfl
    | some c => simp only; rw [rnd_ended h1 h2]; rfl
theorem takeW_more {t : List Int} {j p : Nat} {r : List Int} (h : (takeW (t.take j) p r).2 = true) (hj : j ≤ t.length) (hp : p ≤ j) : takeW t p r = takeW (t.take j) p r := by
  obtain ⟨h1, h2⟩ := takeW_ok _ _ _ h
  have h3 : t.drop p = r ++ ((t.take j).drop (p + r.length) ++ t.drop j) := by
    rw [← List.append_assoc, ← h1]
    have e := List.take_append_drop j t
    conv => lhs; rw [← e]
    rw [List.drop_append_of_le_length (by simp; omega)]
  rw [takeW_of t _ _ _ h3]
  exact Prod.ext h2.symm h.symm
theorem begin_en {s : List Int} {c : Int} {st : PS} (he : st.en = false) (h : (beginM s c st).1.en = true) : ¬ (c = 91 ∨ c = 123 ∨ c = 60 ∨ c = 115) := by
  intro hc
  unfold beginM at h
  rcases hc with rfl | rfl | rfl | rfl
  · simp [he] at h
  · simp [he] at h
  · simp only [if_neg (show ¬ (60 : Int) = 91 by decide), if_neg (show ¬ (60 : Int) = 123 by decide), if_pos] at h
    split at h
    · split at h <;> simp [he] at h
    · simp [he] at h
  · simp only [if_neg (show ¬ (115 : Int) = 91 by decide), if_neg (show ¬ (115 : Int) = 123 by decide), if_neg (show ¬ (115 : Int) = 60 by decide), if_pos] at h
    split at h <;> simp [he] at h
/-- The round that comes to the cut, and ends the value there. -/
theorem rnd_last {t : List Int} {j : Nat} {c : Int} {st : PS} (hk : PSok t.length st) (hp : st.p < j) (hj : j ≤ t.length) (hr : (rndM (t.take j) c st).2 = true) (hr1 : (rndM t c st).2 = true) (he : (rndM (t.take j) c st).1.en = true) :
    (rndM t c st).1 = (rndM (t.take j) c st).1 ∨ (st.en = false ∧ ∃ n1 n2, (rndM (t.take j) c st).1.N = addN st.N st.O 1 n1 ∧ (rndM (t.take j) c st).1.O = popO (addN st.N st.O 1 n1) st.O ∧ (rndM t c st).1.N = addN st.N st.O 1 n2 ∧ (rndM t c st).1.O = popO (addN st.N st.O 1 n2) st.O ∧ (rndM t c st).1.en = true) := by
  by_cases h1 : c = 93 ∨ c = 125 ∨ c = 62
  · left
    unfold rndM
    rw [if_pos h1, if_pos h1]
  · by_cases h2 : c = 44
    · exfalso
      unfold rndM at hr he
      rw [if_neg h1, if_pos h2] at hr he
      split at hr
      · rename_i h3
        rw [if_pos h3] at he
        split at hr
        · rename_i h4
          rw [if_pos h4] at he
          cases he
        · cases hr
      · cases hr
    · by_cases h3 : st.en = true
      · exfalso
        unfold rndM at hr
        rw [if_neg h1, if_neg h2, if_pos h3] at hr
        cases hr
      · have h3' : st.en = false := by simpa using h3
        rw [rnd_begin h1 h2 h3'] at hr he ⊢
        rw [rnd_begin h1 h2 h3'] at hr1 ⊢
        have h4 := begin_en h3' he
        have eb : ∀ s : List Int, beginM s c st = leafM s c st := fun s => by
          unfold beginM
          rw [if_neg (by omega), if_neg (by omega), if_neg (by omega), if_neg (by omega)]
        rw [eb] at hr he ⊢
        rw [eb] at hr1 ⊢
        have ok : ∀ s : List Int, (leafM s c st).2 = true → (leafW s c st.p).2.2 = true := fun s h => by
          unfold leafM at h
          split at h
          · assumption
          · cases h
        have o1 := ok _ hr
        have o2 := ok _ hr1
        by_cases hw : c = 110 ∨ c = 102 ∨ c = 116
        · left
          have : leafW t c st.p = leafW (t.take j) c st.p := by
            unfold leafW at o1 ⊢
            rcases hw with rfl | rfl | rfl
            · simp only [if_pos] at o1 ⊢
              rw [takeW_more o1 hj (by omega)]
            · simp only [if_neg (show ¬ (102 : Int) = 110 by decide), if_pos] at o1 ⊢
              rw [takeW_more o1 hj (by omega)]
            · simp only [if_neg (show ¬ (116 : Int) = 110 by decide), if_neg (show ¬ (116 : Int) = 102 by decide), if_pos] at o1 ⊢
              rw [takeW_more o1 hj (by omega)]
          unfold leafM
          rw [this]
        · right
          have hK : leafK c = 1 := by unfold leafK; rw [if_neg (by omega), if_neg (by omega), if_neg (by omega)]
          refine ⟨h3', (leafW (t.take j) c st.p).2.1, (leafW t c st.p).2.1, ?_⟩
          unfold leafM
          rw [if_pos o1, if_pos o2, hK]
          exact ⟨rfl, rfl, rfl, rfl, rfl⟩
theorem front {t : List Int} {j : Nat} (hj : j < t.length) : ∀ (f : Nat) (st : PS), PSok t.length st → Iv st.N st.O st.en → st.p ≤ j → t.length - st.p ≤ f → okM t (readM f t st) = true → okM (t.take j) (readM f (t.take j) st) = true →
    ∃ N0 O0 n1 n2, (readM f (t.take j) st).N = addN N0 O0 1 n1 ∧ (readM f t st).N = addN N0 O0 1 n2 := by
  have hlen : (t.take j).length = j := by simp; omega
  intro f
  induction f with
  | zero => intro st hk hi hp hf; omega
  | succ f ih =>
    intro st hk hi hp hf hok hok2
    have bad : ∀ q : PS, q.p = j → q.en = true → q.O = [] → ∀ g, okM t (readM g t q) = true → False := by
      intro q h1 h2 h3 g h
      rw [readM_ended h2 h3] at h
      have := (okM_is h).1
      omega
    by_cases hpj : st.p = j
    · exfalso
      rw [readM_stop (t := t.take j) (by omega)] at hok2
      obtain ⟨a1, a2, a3⟩ := okM_is hok2
      exact bad st hpj a2 a3 _ hok
    · have hlt : st.p < j := by omega
      have hc : t[st.p]? = some (t[st.p]'(by omega)) := List.getElem?_eq_getElem _
      generalize t[st.p]'(by omega) = c at hc
      have hc2 : (t.take j)[st.p]? = some c := by rw [take_at, if_pos hlt, hc]
      obtain ⟨h1, h2, h3⟩ := rndM_ok (c := c) hk (at_lt hc)
      obtain ⟨r1, r2⟩ := rnd_cut (t := t) (c := c) hlt (Nat.le_of_lt hj)
      have u1 : readM (f + 1) t st = if (rndM t c st).2 = true then readM f t (rndM t c st).1 else (rndM t c st).1 := by rw [readM, hc]
      have u2 : readM (f + 1) (t.take j) st = if (rndM (t.take j) c st).2 = true then readM f (t.take j) (rndM (t.take j) c st).1 else (rndM (t.take j) c st).1 := by rw [readM, hc2]
      rw [u1] at hok ⊢
      rw [u2] at hok2 ⊢
      have o1 : (rndM t c st).2 = true := by
        cases h : (rndM t c st).2 with
        | true => rfl
        | false => rw [h, if_neg (by simp), rnd_fail hc h] at hok; cases hok
      have o2 : (rndM (t.take j) c st).2 = true := by
        cases h : (rndM (t.take j) c st).2 with
        | true => rfl
        | false => rw [h, if_neg (by simp), rnd_fail hc2 h] at hok2; cases hok2
      rw [if_pos o1] at hok ⊢
      rw [if_pos o2] at hok2 ⊢
      have hpp := h3 o1
      by_cases hq : (rndM t c st).1.p < j
      · rw [r1 hq] at hok2 ⊢
        exact ih _ h1 ((rnd_act hc o1).iv hi) (by omega) (by omega) hok hok2
      · have e := r2 (by omega)
        rw [readM_stop (t := t.take j) (by omega)] at hok2 ⊢
        obtain ⟨a1, a2, a3⟩ := okM_is hok2
        rcases rnd_last hk hlt (Nat.le_of_lt hj) o2 o1 a2 with he | ⟨e0, n1, n2, e1, e2, e3, e4, e5⟩
        · exfalso
          rw [he] at hok
          exact bad _ e a2 a3 _ hok
        · have e6 : popO (addN st.N st.O 1 n2) st.O = popO (addN st.N st.O 1 n1) st.O := popO_congr fun o ho => by rw [(kd_add _ _ hi.lt (hi.lt o ho)).2.1, (kd_add _ _ hi.lt (hi.lt o ho)).2.1]
          rw [readM_ended e5 (by rw [e4, e6, ← e2, a3])]
          exact ⟨st.N, st.O, n1, n2, e1, e3⟩
theorem addN_front (N : List Nd) (O : List Nat) (n1 n2 : Int) : (addN N O 1 n1).length = (addN N O 1 n2).length ∧ (addN N O 1 n1).take N.length = (addN N O 1 n2).take N.length ∧ kk (addN N O 1 n1) N.length = 1 := by
  refine ⟨by rw [addN_len, addN_len], ?_, ?_⟩
  · have h : ∀ n, (addN N O 1 n).take N.length = (match O with | [] => N | o :: _ => incK N o) := fun n => by
      unfold addN
      have hl : (match O with | [] => N | o :: _ => incK N o).length = N.length := by cases O <;> simp [incK]
      cases O with
      | nil => simp
      | cons o O => simp [incK]
    rw [h, h]
  · unfold addN kk
    have hl : (match O with | [] => N | o :: _ => incK N o).length = N.length := by cases O <;> simp [incK]
    cases O with
    | nil => simp [List.getD]
    | cons o O => simp [List.getD, incK]
theorem print_front {v w : List Nd} (hv : (chk 1 0 v).1 = 0) (hw : (chk 1 0 w).1 = 0) (nv : ∀ x ∈ v, 0 ≤ x.2.1) (nw : ∀ x ∈ w, 0 ≤ x.2.1) (hl : (printM v []).length < (printM w []).length) (hf : (printM w []).take (printM v []).length = printM v []) :
    w.length = v.length ∧ 0 < v.length ∧ kk v (v.length - 1) = 1 ∧ v.take (v.length - 1) = w.take (v.length - 1) := by
  obtain ⟨a1, a2, -⟩ := parse_print v hv nv
  obtain ⟨b1, b2, -⟩ := parse_print w hw nw
  rw [parseN, if_pos a1] at a2
  rw [parseN, if_pos b1] at b2
  have e1 : readM (printM w []).length (printM w []) st00 = readT (printM w []) st00 := rfl
  have e2 : readM (printM w []).length ((printM w []).take (printM v []).length) st00 = readT (printM v []) st00 := by
    rw [hf]
    exact readM_fuel _ _ _ st00 (PSok.begin _) (by show _ - 0 ≤ _; omega) (Nat.le_refl _)
  have key := front hl (printM w []).length st00 (PSok.begin _) Iv.begin (Nat.zero_le _) (Nat.sub_le _ _)
  rw [e1, e2, a2, b2, hf] at key
  obtain ⟨N0, O0, n1, n2, k1, k2⟩ := key b1 a1
  have k3 := addN_front N0 O0 n1 n2
  rw [← k1, ← k2] at k3
  have k4 : v.length = N0.length + 1 := by rw [k1, addN_len]
  rw [k4, Nat.add_sub_cancel]
  exact ⟨by omega, by omega, k3.2.2, k3.2.1⟩
theorem print_inj {v w : List Nd} (hv : (chk 1 0 v).1 = 0) (hw : (chk 1 0 w).1 = 0) (nv : ∀ x ∈ v, 0 ≤ x.2.1) (nw : ∀ x ∈ w, 0 ≤ x.2.1) (h : printM v [] = printM w []) : v = w := by
  obtain ⟨-, a2, -⟩ := parse_print v hv nv
  obtain ⟨-, b2, -⟩ := parse_print w hw nw
  rw [← a2, ← b2, h]

/-! ### Bytes -/
theorem beginT_bytes (x : Nd) (hx : right x = true) (h0 : 0 ≤ x.2.1) : ∀ c ∈ beginT x, 0 ≤ c ∧ c ≤ 255 := by
  obtain ⟨h1, h2, h3⟩ := (right_iff x).1 hx
  have hd : ∀ c ∈ digs x.2.1, 0 ≤ c ∧ c ≤ 255 := fun c hc => by
    have hm : mostN x.1 ≤ 18446744073709551615 := by unfold mostN; split <;> (try split) <;> (try split) <;> omega
    have := digF_bytes 20 x.2.1.toNat (by omega) c hc
    omega
  intro c hc
  unfold beginT at hc
  split at hc
  · exact hd c hc
  · split at hc
    · split at hc <;> (simp at hc; omega)
    · split at hc
      · simp at hc; omega
      · split at hc
        · simp at hc; omega
        · split at hc
          · rcases List.mem_append.1 hc with hc | hc
            · rcases List.mem_append.1 hc with hc | hc
              · simp at hc; omega
              · exact hd c hc
            · simp at hc; omega
          · split at hc <;> (simp at hc; omega)
theorem endT_bytes (k : Int) : ∀ c ∈ endT k, 0 ≤ c ∧ c ≤ 255 := by
  intro c hc
  unfold endT at hc
  split at hc
  · simp at hc; omega
  · split at hc
    · simp at hc; omega
    · split at hc
      · simp at hc; omega
      · simp at hc
theorem closeM_bytes : ∀ (T : Stk) (f k : Int), ∀ c ∈ (closeM f k T).1, 0 ≤ c ∧ c ≤ 255
  | [], f, k, c, hc => by
    unfold closeM at hc
    split at hc
    · exact endT_bytes k c hc
    · simp at hc
  | (g, k2) :: T, f, k, c, hc => by
    unfold closeM at hc
    split at hc
    · rcases List.mem_append.1 hc with hc | hc
      · rcases List.mem_append.1 hc with hc | hc
        · exact endT_bytes k c hc
        · split at hc
          · simp at hc; omega
          · simp at hc
      · exact closeM_bytes T (g - 1) k2 c hc
    · simp at hc
theorem printM_bytes : ∀ (l : List Nd) (K : Stk), (∀ x ∈ l, right x = true ∧ 0 ≤ x.2.1) → ∀ c ∈ printM l K, 0 ≤ c ∧ c ≤ 255
  | [], K, _, c, hc => by simp [printM] at hc
  | x :: l, K, h, c, hc => by
    unfold printM at hc
    rcases List.mem_append.1 hc with hc | hc
    · rcases List.mem_append.1 hc with hc | hc
      · exact beginT_bytes x (h x (by simp)).1 (h x (by simp)).2 c hc
      · exact closeM_bytes K _ _ c hc
    · exact printM_bytes l _ (fun y hy => h y (by simp [hy])) c hc
theorem tx_of {l : List Int} (h : ∀ c ∈ l, 0 ≤ c ∧ c ≤ 255) : tx (strOfNums l) = l := by
  unfold tx
  rw [strOfNums_data, List.map_map]
  refine (List.map_congr_left fun x hx => ?_).trans (List.map_id l)
  have := h x hx
  simp
  omega
theorem of_tx (s : ByteArray) : strOfNums (tx s) = s := by
  have h : (strOfNums (tx s)).data.toList = s.data.toList := by
    rw [strOfNums_data, tx, List.map_map]
    refine (List.map_congr_left fun x hx => ?_).trans (List.map_id _)
    simp
  have h2 : (strOfNums (tx s)).data = s.data := Array.toList_inj.1 h
  cases hs : strOfNums (tx s)
  cases s
  simp_all
end Go.Proofs.YtlbgdgobhiokpaaDoor

/- A text read by recursion, against the reader's rounds: plain. -/
namespace Go.Proofs.YtlbgdgobhiokpaaDoor
open Go.RowKit
set_option linter.unusedVariables false

/-- Kids up to a byte: V reads one; how many there were, their nodes. -/
def kidP (V : Nat → Nat × Option (List Nd)) (t : List Int) (most shut : Int) : Nat → Nat → Nat → List Nd → Nat × Option (Nat × List Nd)
  | 0, p, _, _ => (p, none)
  | g + 1, p, j, acc => match V p with
    | (p', none) => (p', none)
    | (p', some L) =>
      if t[p']? = some 44 ∧ ((j : Int) + 1) < most then (if (takeW t p' [44, 32]).2 = true then kidP V t most shut g (takeW t p' [44, 32]).1 (j + 1) (acc ++ L) else ((takeW t p' [44, 32]).1, none))
      else if t[p']? = some shut then (p' + 1, some (j + 1, acc ++ L)) else (p', none)
/-- A value's nodes; where it ends, or where it can't go on. -/
def valP (t : List Int) : Nat → Nat → Nat × Option (List Nd)
  | 0, p => (p, none)
  | f + 1, p => match t[p]? with
    | none => (p, none)
    | some c =>
      if c = 91 then
        (if t[p + 1]? = some 93 then (p + 2, some [(3, 0, 0)]) else match kidP (valP t f) t 1048576 93 f (p + 1) 0 [] with
          | (q, none) => (q, none)
          | (q, some (j, L)) => (q, some ((3, 0, (j : Int)) :: L)))
      else if c = 123 then (match kidP (valP t f) t 64 125 f (p + 1) 0 [] with
          | (q, none) => (q, none)
          | (q, some (j, L)) => (q, some ((4, 0, (j : Int)) :: L)))
      else if c = 60 then
        (if 0 < (numL 255 (t.drop (p + 1)) true 0).2 then
          (if (takeW t (p + 1 + (numL 255 (t.drop (p + 1)) true 0).2) [58]).2 = true then
            (match valP t f (takeW t (p + 1 + (numL 255 (t.drop (p + 1)) true 0).2) [58]).1 with
              | (q, none) => (q, none)
              | (q, some L) => if t[q]? = some 62 then (q + 1, some ((6, (numL 255 (t.drop (p + 1)) true 0).1, 1) :: L)) else (q, none))
          else ((takeW t (p + 1 + (numL 255 (t.drop (p + 1)) true 0).2) [58]).1, none))
        else (p + 1, none))
      else if c = 115 then
        (if (takeW t p [115, 111, 109, 101, 32]).2 = true then
          (match valP t f (takeW t p [115, 111, 109, 101, 32]).1 with
            | (q, none) => (q, none)
            | (q, some L) => (q, some ((5, 0, 1) :: L)))
        else ((takeW t p [115, 111, 109, 101, 32]).1, none))
      else if (leafW t c p).2.2 = true then ((leafW t c p).1, some [(leafK c, (leafW t c p).2.1, 0)]) else ((leafW t c p).1, none)
def addV (N : List Nd) (O : List Nat) (L : List Nd) : List Nd := (match O with | [] => N | o :: _ => incK N o) ++ L
/-- The rounds from one state lead to another; or they end there, in vain. -/
def Lead (t : List Int) (st st' : PS) : Prop := readT t st = readT t st' ∧ PSok t.length st'
def Fail (t : List Int) (st : PS) (q : Nat) : Prop := (readT t st).p = q ∧ okM t (readT t st) = false
/-- What a reading by recursion says of the rounds. -/
def Sim (t : List Int) (V : Nat × Option (List Nd)) (p : Nat) (N : List Nd) (O : List Nat) : Prop :=
  match V with
  | (q, none) => Fail t ⟨p, N, O, false⟩ q
  | (q, some L) => Lead t ⟨p, N, O, false⟩ ⟨q, addV N O L, popO N O, true⟩ ∧ p < q
theorem Lead.trans {t : List Int} {a b c : PS} (h : Lead t a b) (g : Lead t b c) : Lead t a c := ⟨h.1.trans g.1, g.2⟩
theorem Lead.fail {t : List Int} {a b : PS} {q : Nat} (h : Lead t a b) (g : Fail t b q) : Fail t a q := by
  unfold Fail at *
  rw [h.1]
  exact g
theorem lead_rnd {t : List Int} {st : PS} {c : Int} (h : PSok t.length st) (hc : t[st.p]? = some c) (hr : (rndM t c st).2 = true) : Lead t st (rndM t c st).1 := by
  refine ⟨?_, (rndM_ok h (at_lt hc)).1⟩
  rw [readT_some h hc, if_pos hr]
theorem stop_rnd {t : List Int} {st : PS} {c : Int} (h : PSok t.length st) (hc : t[st.p]? = some c) (hr : (rndM t c st).2 = false) : Fail t st (rndM t c st).1.p := by
  unfold Fail
  rw [readT_some h hc, if_neg (by rw [hr]; simp)]
  exact ⟨rfl, rnd_fail hc hr⟩
theorem stop_end {t : List Int} {st : PS} (h : t[st.p]? = none) (ho : okM t st = false) : Fail t st st.p := by
  unfold Fail
  rw [readT_none (by
    rcases Nat.lt_or_ge st.p t.length with h1 | h1
    · rw [List.getElem?_eq_getElem h1] at h; cases h
    · exact h1)]
  exact ⟨rfl, ho⟩
theorem addN_is (N : List Nd) (O : List Nat) (k n : Int) : addN N O k n = addV N O [(k, n, 0)] := rfl
theorem incK_len (N : List Nd) (o : Nat) : (incK N o).length = N.length := by simp [incK]
theorem addV_kk {N : List Nd} {O : List Nat} {L : List Nd} (hO : ∀ o ∈ O, o < N.length) {o : Nat} (ho : o < N.length) : kk (addV N O L) o = kk N o := by
  unfold kk addV
  cases O with
  | nil => rw [List.getD_eq_getElem?_getD, List.getElem?_append_left ho, ← List.getD_eq_getElem?_getD]
  | cons x O =>
    simp only
    rw [List.getD_eq_getElem?_getD, List.getElem?_append_left (by rw [incK_len]; exact ho), ← List.getD_eq_getElem?_getD]
    unfold incK
    rw [getD_set _ _ _ _ (hO x (by simp))]
    split
    · rename_i e; rw [e]
    · rfl
theorem popO_addV {N : List Nd} {O : List Nat} {L : List Nd} (hO : ∀ o ∈ O, o < N.length) : popO (addV N O L) O = popO N O := popO_congr fun o ho => addV_kk hO (hO o ho)
theorem takeW_one (t : List Int) (p : Nat) (c : Int) : takeW t p [c] = if t[p]? = some c then (p + 1, true) else (p, false) := by simp [takeW]
/-- The node that is open, with j kids, and what is read of them. -/
theorem open_inc (base : List Nd) (k n : Int) (j : Nat) (acc L : List Nd) (O : List Nat) : addV (base ++ (k, n, (j : Int)) :: acc) (base.length :: O) L = base ++ (k, n, ((j + 1 : Nat) : Int)) :: (acc ++ L) := by
  unfold addV incK
  simp only
  have h1 : (base ++ (k, n, (j : Int)) :: acc).getD base.length nil0 = (k, n, (j : Int)) := by simp [List.getD]
  rw [h1, List.set_append_right _ _ (Nat.le_refl _), Nat.sub_self]
  simp
theorem open_at (base : List Nd) (x : Nd) (acc : List Nd) : (base ++ x :: acc).getD base.length nil0 = x := by simp [List.getD]
theorem kids_sim {t : List Int} {V : Nat → Nat × Option (List Nd)} {base : List Nd} {O : List Nat} {k n most shut : Int} (hk : k ≠ 5) (hm : mostK k = most) (hs : endT k = [shut]) (hsh : shut = 93 ∨ shut = 125) (hO : ∀ o ∈ O, o < base.length) (P0 : Nat)
    (hV : ∀ (p j : Nat) (acc : List Nd), P0 ≤ p → PSok t.length ⟨p, base ++ (k, n, (j : Int)) :: acc, base.length :: O, false⟩ → (∀ c, t[p]? = some c → mayC (base ++ (k, n, (j : Int)) :: acc) (base.length :: O) false c = false) → Sim t (V p) p (base ++ (k, n, (j : Int)) :: acc) (base.length :: O)) :
    ∀ (g p j : Nat) (acc : List Nd), P0 ≤ p → t.length < p + g → PSok t.length ⟨p, base ++ (k, n, (j : Int)) :: acc, base.length :: O, false⟩ → (∀ c, t[p]? = some c → mayC (base ++ (k, n, (j : Int)) :: acc) (base.length :: O) false c = false) →
      match kidP V t most shut g p j acc with
      | (q, none) => Fail t ⟨p, base ++ (k, n, (j : Int)) :: acc, base.length :: O, false⟩ q
      | (q, some (j', L)) => Lead t ⟨p, base ++ (k, n, (j : Int)) :: acc, base.length :: O, false⟩ ⟨q, base ++ (k, n, (j' : Int)) :: L, popO base O, true⟩ ∧ p < q
  | 0, p, j, acc, hp0, hg, hps, _ => by
    have := hps.pl
    simp only at this
    omega
  | g + 1, p, j, acc, hp0, hg, hps, hmc => by
    have h1 := hV p j acc hp0 hps hmc
    rw [kidP]
    cases hVp : V p with
    | mk p' o =>
      rw [hVp] at h1
      cases o with
      | none => exact h1
      | some L =>
        obtain ⟨hL, hlt⟩ := h1
        rw [open_inc] at hL
        have hpop : popO (base ++ (k, n, (j : Int)) :: acc) (base.length :: O) = base.length :: O := by
          unfold popO
          rw [open_at, if_neg hk]
        rw [hpop] at hL
        have hps2 := hL.2
        have hat := open_at base (k, n, ((j + 1 : Nat) : Int)) (acc ++ L)
        have hpopb : popO (base ++ (k, n, ((j + 1 : Nat) : Int)) :: (acc ++ L)) O = popO base O := popO_congr fun o ho => by
          unfold kk
          rw [List.getD_eq_getElem?_getD, List.getElem?_append_left (hO o ho), ← List.getD_eq_getElem?_getD]
        have hok : ∀ q en, okM t ⟨q, base ++ (k, n, ((j + 1 : Nat) : Int)) :: (acc ++ L), base.length :: O, en⟩ = false := fun q en => by simp [okM]
        simp only
        cases hc : t[p']? with
        | none =>
          rw [if_neg (by simp), if_neg (by simp)]
          exact hL.fail (stop_end hc (hok _ _))
        | some c =>
          by_cases h44 : c = 44
          · subst h44
            have hgo : mayGo (base ++ (k, n, ((j + 1 : Nat) : Int)) :: (acc ++ L)) (base.length :: O) true = decide ((j : Int) + 1 < most) := by
              rw [mayGo, hat, ← hm]
              simp
            by_cases hlm : (j : Int) + 1 < most
            · rw [if_pos ⟨rfl, hlm⟩]
              cases ht2 : (takeW t p' [44, 32]).2 with
              | true =>
                rw [if_pos rfl]
                have hr : rndM t 44 ⟨p', base ++ (k, n, ((j + 1 : Nat) : Int)) :: (acc ++ L), base.length :: O, true⟩ = (⟨(takeW t p' [44, 32]).1, base ++ (k, n, ((j + 1 : Nat) : Int)) :: (acc ++ L), base.length :: O, false⟩, true) := by
                  unfold rndM
                  rw [if_neg (by omega), if_pos rfl, if_pos (by rw [hgo]; simpa using hlm), if_pos ht2]
                have hLd := lead_rnd hps2 hc (by rw [hr])
                rw [hr] at hLd
                have hadv := takeW_ok t [44, 32] p' ht2
                have hLd2 := hL.trans hLd
                have ih := kids_sim hk hm hs hsh hO P0 hV g (takeW t p' [44, 32]).1 (j + 1) (acc ++ L) (by rw [hadv.2]; simp; omega) (by rw [hadv.2]; simp; omega) hLd2.2 (fun c hc => by
                  rw [mayC, hat]
                  simp
                  omega)
                revert ih
                cases kidP V t most shut g (takeW t p' [44, 32]).1 (j + 1) (acc ++ L) with
                | mk q o =>
                  cases o with
                  | none => exact fun ih => hLd2.fail ih
                  | some jl => exact fun ih => ⟨hLd2.trans ih.1, by have := ih.2; rw [hadv.2] at this; simp at this; omega⟩
              | false =>
                rw [if_neg (by simp)]
                have hr : rndM t 44 ⟨p', base ++ (k, n, ((j + 1 : Nat) : Int)) :: (acc ++ L), base.length :: O, true⟩ = (⟨(takeW t p' [44, 32]).1, base ++ (k, n, ((j + 1 : Nat) : Int)) :: (acc ++ L), base.length :: O, true⟩, false) := by
                  unfold rndM
                  rw [if_neg (by omega), if_pos rfl, if_pos (by rw [hgo]; simpa using hlm), if_neg (by rw [ht2]; simp)]
                have hF := stop_rnd hps2 hc (by rw [hr])
                rw [hr] at hF
                exact hL.fail hF
            · rw [if_neg (fun h => hlm h.2), if_neg (by rcases hsh with h | h <;> rw [h] <;> simp)]
              have hr : rndM t 44 ⟨p', base ++ (k, n, ((j + 1 : Nat) : Int)) :: (acc ++ L), base.length :: O, true⟩ = (⟨p', base ++ (k, n, ((j + 1 : Nat) : Int)) :: (acc ++ L), base.length :: O, true⟩, false) := by
                unfold rndM
                rw [if_neg (by omega), if_pos rfl, if_neg (by rw [hgo]; simpa using hlm)]
              have hF := stop_rnd hps2 hc (by rw [hr])
              rw [hr] at hF
              exact hL.fail hF
          · rw [if_neg (fun h => h44 (Option.some.inj h.1))]
            have hmay : mayC (base ++ (k, n, ((j + 1 : Nat) : Int)) :: (acc ++ L)) (base.length :: O) true c = decide (c = shut) := by
              rw [mayC, hat, hs]
              simp [eq_comm]
            by_cases hcs : c = shut
            · subst hcs
              rw [if_pos rfl]
              have hr : rndM t c ⟨p', base ++ (k, n, ((j + 1 : Nat) : Int)) :: (acc ++ L), base.length :: O, true⟩ = (⟨p' + 1, base ++ (k, n, ((j + 1 : Nat) : Int)) :: (acc ++ L), popO base O, true⟩, true) := by
                unfold rndM
                rw [if_pos (by omega), if_pos (by rw [hmay]; simp)]
                simp only [List.tail_cons, hpopb]
              have hLd := lead_rnd hps2 hc (by rw [hr])
              rw [hr] at hLd
              exact ⟨hL.trans hLd, by omega⟩
            · rw [if_neg (fun h => hcs (Option.some.inj h))]
              have hr : rndM t c ⟨p', base ++ (k, n, ((j + 1 : Nat) : Int)) :: (acc ++ L), base.length :: O, true⟩ = (⟨p', base ++ (k, n, ((j + 1 : Nat) : Int)) :: (acc ++ L), base.length :: O, true⟩, false) := by
                unfold rndM
                split
                · rw [if_neg (by rw [hmay]; simpa using hcs)]
                · first | (rw [if_neg h44, if_pos rfl]) | (rw [if_pos rfl])
              have hF := stop_rnd hps2 hc (by rw [hr])
              rw [hr] at hF
              exact hL.fail hF
end Go.Proofs.YtlbgdgobhiokpaaDoor

/- A text read by recursion, against the reader's rounds: the whole. -/
namespace Go.Proofs.YtlbgdgobhiokpaaDoor
open Go.RowKit
set_option linter.unusedVariables false

def bsV (N : List Nd) (O : List Nat) : List Nd := match O with | [] => N | o :: _ => incK N o
theorem addV_bs (N : List Nd) (O : List Nat) (L : List Nd) : addV N O L = bsV N O ++ L := rfl
theorem bsV_len (N : List Nd) (O : List Nat) : (bsV N O).length = N.length := by
  cases O with
  | nil => rfl
  | cons o O => exact incK_len N o
theorem popO_bs {N : List Nd} {O : List Nat} (hO : ∀ o ∈ O, o < N.length) : popO (bsV N O) O = popO N O := by
  have h := popO_addV (L := []) hO
  rw [addV_bs, List.append_nil] at h
  exact h
theorem popO_more {N : List Nd} {O : List Nat} (L : List Nd) (hO : ∀ o ∈ O, o < N.length) : popO (bsV N O ++ L) O = popO N O := popO_addV hO
theorem sim_fail {t : List Int} {p q : Nat} {N : List Nd} {O : List Nat} (h : Fail t ⟨p, N, O, false⟩ q) : Sim t (q, none) p N O := h
theorem rnd_beg {t : List Int} {c : Int} {p : Nat} {N : List Nd} {O : List Nat} (h1 : ¬ (c = 93 ∨ c = 125 ∨ c = 62)) (h2 : c ≠ 44) : rndM t c ⟨p, N, O, false⟩ = beginM t c ⟨p, N, O, false⟩ := by
  unfold rndM
  rw [if_neg h1, if_neg h2, if_neg (by simp)]
/-- Behind a union's kid. -/
theorem union_end {t : List Int} {base L : List Nd} {O : List Nat} {n : Int} {q : Nat} (hps : PSok t.length ⟨q, base ++ (6, n, 1) :: L, base.length :: O, true⟩) (hO : ∀ o ∈ O, o < base.length) :
    (t[q]? = some 62 → Lead t ⟨q, base ++ (6, n, 1) :: L, base.length :: O, true⟩ ⟨q + 1, base ++ (6, n, 1) :: L, popO base O, true⟩) ∧ (t[q]? ≠ some 62 → Fail t ⟨q, base ++ (6, n, 1) :: L, base.length :: O, true⟩ q) := by
  have hat := open_at base (6, n, 1) L
  have hpopb : popO (base ++ (6, n, 1) :: L) O = popO base O := popO_congr fun o ho => by
    unfold kk
    rw [List.getD_eq_getElem?_getD, List.getElem?_append_left (hO o ho), ← List.getD_eq_getElem?_getD]
  have hmay : ∀ c, mayC (base ++ (6, n, 1) :: L) (base.length :: O) true c = decide (c = 62) := fun c => by
    rw [mayC, hat]
    simp [endT, eq_comm]
  constructor
  · intro hc
    have hr : rndM t 62 ⟨q, base ++ (6, n, 1) :: L, base.length :: O, true⟩ = (⟨q + 1, base ++ (6, n, 1) :: L, popO base O, true⟩, true) := by
      unfold rndM
      rw [if_pos (by omega), if_pos (by rw [hmay]; simp)]
      simp only [List.tail_cons, hpopb]
    have hLd := lead_rnd hps hc (by rw [hr])
    rw [hr] at hLd
    exact hLd
  · intro hne
    cases hc : t[q]? with
    | none => exact stop_end hc (by simp [okM])
    | some c =>
      rw [hc] at hne
      have hc62 : c ≠ 62 := fun e => hne (by rw [e])
      have hr : rndM t c ⟨q, base ++ (6, n, 1) :: L, base.length :: O, true⟩ = (⟨q, base ++ (6, n, 1) :: L, base.length :: O, true⟩, false) := by
        unfold rndM
        by_cases h1 : c = 93 ∨ c = 125 ∨ c = 62
        · rw [if_pos h1, if_neg (by rw [hmay]; simpa using hc62)]
        · rw [if_neg h1]
          by_cases h2 : c = 44
          · rw [if_pos h2, if_neg (by rw [mayGo, hat]; simp [mostK])]
          · rw [if_neg h2, if_pos rfl]
      have hF := stop_rnd hps hc (by rw [hr])
      rw [hr] at hF
      exact hF
theorem val_sim (t : List Int) : ∀ (f p : Nat) (N : List Nd) (O : List Nat), t.length < p + f → PSok t.length ⟨p, N, O, false⟩ → (∀ c, t[p]? = some c → mayC N O false c = false) → Sim t (valP t f p) p N O
  | 0, p, N, O, hf, hps, _ => by
    have := hps.pl
    simp only at this
    omega
  | f + 1, p, N, O, hf, hps, hmc => by
    have hon : ∀ o ∈ O, o < N.length := hps.on
    have hlen := bsV_len N O
    have honb : ∀ o ∈ O, o < (bsV N O).length := by rw [hlen]; exact hon
    have hpb := popO_bs hon
    rw [valP]
    cases hc : t[p]? with
    | none => exact sim_fail (stop_end hc (by simp [okM]))
    | some c =>
      simp only
      have hplt := at_lt hc
      by_cases h91 : c = 91
      · subst h91
        rw [if_pos rfl]
        have hr : rndM t 91 ⟨p, N, O, false⟩ = (⟨p + 1, bsV N O ++ [(3, 0, 0)], (bsV N O).length :: O, false⟩, true) := by
          rw [rnd_beg (by omega) (by omega), beginM, if_pos rfl, hlen]
          rfl
        have hLd := lead_rnd hps hc (by rw [hr])
        rw [hr] at hLd
        by_cases h93 : t[p + 1]? = some 93
        · rw [if_pos h93]
          have hr2 : rndM t 93 ⟨p + 1, bsV N O ++ [(3, 0, 0)], (bsV N O).length :: O, false⟩ = (⟨p + 2, bsV N O ++ [(3, 0, 0)], popO N O, true⟩, true) := by
            unfold rndM
            rw [if_pos (by omega), if_pos (by rw [mayC, open_at]; simp [leastK, endT])]
            simp only [List.tail_cons, popO_more _ hon]
          have hLd2 := lead_rnd hLd.2 h93 (by rw [hr2])
          rw [hr2] at hLd2
          exact ⟨hLd.trans hLd2, by omega⟩
        · rw [if_neg h93]
          have hk := kids_sim (t := t) (V := valP t f) (base := bsV N O) (O := O) (k := 3) (n := 0) (most := 1048576) (shut := 93) (by decide) rfl rfl (.inl rfl) honb (p + 1)
            (fun p' j acc hp' hps' hmc' => val_sim t f p' _ _ (by omega) hps' hmc') f (p + 1) 0 [] (Nat.le_refl _) (by omega) hLd.2 (fun c' hc' => by
              rw [mayC]
              have : ¬ (93 = c') := fun e => h93 (by rw [hc', e])
              have h := open_at (bsV N O) (3, 0, ((0 : Nat) : Int)) []
              rw [h]
              simp [endT, this])
          revert hk
          cases kidP (valP t f) t 1048576 93 f (p + 1) 0 [] with
          | mk q o =>
            cases o with
            | none => exact fun hk => hLd.fail hk
            | some jl =>
              obtain ⟨j, L⟩ := jl
              intro hk
              refine ⟨hLd.trans ?_, by have := hk.2; omega⟩
              have h1 := hk.1
              rw [hpb] at h1
              exact h1
      · rw [if_neg h91]
        by_cases h123 : c = 123
        · subst h123
          rw [if_pos rfl]
          have hr : rndM t 123 ⟨p, N, O, false⟩ = (⟨p + 1, bsV N O ++ [(4, 0, 0)], (bsV N O).length :: O, false⟩, true) := by
            rw [rnd_beg (by omega) (by omega), beginM, if_neg (by omega), if_pos rfl, hlen]
            rfl
          have hLd := lead_rnd hps hc (by rw [hr])
          rw [hr] at hLd
          have hk := kids_sim (t := t) (V := valP t f) (base := bsV N O) (O := O) (k := 4) (n := 0) (most := 64) (shut := 125) (by decide) rfl rfl (.inr rfl) honb (p + 1)
            (fun p' j acc hp' hps' hmc' => val_sim t f p' _ _ (by omega) hps' hmc') f (p + 1) 0 [] (Nat.le_refl _) (by omega) hLd.2 (fun c' hc' => by
              rw [mayC]
              have h := open_at (bsV N O) (4, 0, ((0 : Nat) : Int)) []
              rw [h]
              simp [leastK])
          revert hk
          cases kidP (valP t f) t 64 125 f (p + 1) 0 [] with
          | mk q o =>
            cases o with
            | none => exact fun hk => hLd.fail hk
            | some jl =>
              obtain ⟨j, L⟩ := jl
              intro hk
              refine ⟨hLd.trans ?_, by have := hk.2; omega⟩
              have h1 := hk.1
              rw [hpb] at h1
              exact h1
        · rw [if_neg h123]
          by_cases h60 : c = 60
          · subst h60
            rw [if_pos rfl]
            have hb : rndM t 60 ⟨p, N, O, false⟩ = beginM t 60 ⟨p, N, O, false⟩ := rnd_beg (by omega) (by omega)
            generalize hn : numL 255 (t.drop (p + 1)) true 0 = nn at *
            by_cases h0 : 0 < nn.2
            · rw [if_pos h0]
              cases ht : (takeW t (p + 1 + nn.2) [58]).2 with
              | true =>
                rw [if_pos rfl]
                have hadv := (takeW_ok t [58] _ ht).2
                have hr : rndM t 60 ⟨p, N, O, false⟩ = (⟨(takeW t (p + 1 + nn.2) [58]).1, bsV N O ++ [(6, nn.1, 0)], (bsV N O).length :: O, false⟩, true) := by
                  rw [hb, beginM, if_neg (by omega), if_neg (by omega), if_pos rfl]
                  simp only [hn]
                  rw [if_pos h0, if_pos ht, hlen]
                  rfl
                have hLd := lead_rnd hps hc (by rw [hr])
                rw [hr] at hLd
                have hat := open_at (bsV N O) (6, nn.1, ((0 : Nat) : Int)) []
                have ih := val_sim t f (takeW t (p + 1 + nn.2) [58]).1 (bsV N O ++ [(6, nn.1, 0)]) ((bsV N O).length :: O) (by rw [hadv]; simp; omega) hLd.2 (fun c' hc' => by
                  rw [mayC]
                  have h := open_at (bsV N O) (6, nn.1, 0) []
                  rw [h]
                  simp [leastK])
                revert ih
                cases valP t f (takeW t (p + 1 + nn.2) [58]).1 with
                | mk q o =>
                  cases o with
                  | none => exact fun ih => hLd.fail ih
                  | some L =>
                    rintro ⟨i1, i2⟩
                    have hinc := open_inc (bsV N O) 6 nn.1 0 [] L O
                    have hinc' : addV (bsV N O ++ [(6, nn.1, 0)]) ((bsV N O).length :: O) L = bsV N O ++ (6, nn.1, 1) :: L := hinc
                    have hpop : popO (bsV N O ++ [(6, nn.1, 0)]) ((bsV N O).length :: O) = (bsV N O).length :: O := by
                      unfold popO
                      rw [open_at, if_neg (by simp)]
                    rw [hinc', hpop] at i1
                    obtain ⟨e1, e2⟩ := union_end i1.2 honb
                    simp only
                    by_cases h62 : t[q]? = some 62
                    · rw [if_pos h62]
                      have h1 := e1 h62
                      rw [hpb] at h1
                      exact ⟨(hLd.trans i1).trans h1, by rw [hadv] at i2; simp at i2; omega⟩
                    · rw [if_neg h62]
                      exact sim_fail ((hLd.trans i1).fail (e2 h62))
              | false =>
                rw [if_neg (by simp)]
                have hr : rndM t 60 ⟨p, N, O, false⟩ = (⟨(takeW t (p + 1 + nn.2) [58]).1, N, O, false⟩, false) := by
                  rw [hb, beginM, if_neg (by omega), if_neg (by omega), if_pos rfl]
                  simp only [hn]
                  rw [if_pos h0, if_neg (by rw [ht]; simp)]
                have hF := stop_rnd hps hc (by rw [hr])
                rw [hr] at hF
                exact sim_fail hF
            · rw [if_neg h0]
              have hr : rndM t 60 ⟨p, N, O, false⟩ = (⟨p + 1, N, O, false⟩, false) := by
                rw [hb, beginM, if_neg (by omega), if_neg (by omega), if_pos rfl]
                simp only [hn]
                rw [if_neg h0]
              have hF := stop_rnd hps hc (by rw [hr])
              rw [hr] at hF
              exact sim_fail hF
          · rw [if_neg h60]
            by_cases h115 : c = 115
            · subst h115
              rw [if_pos rfl]
              have hb : rndM t 115 ⟨p, N, O, false⟩ = beginM t 115 ⟨p, N, O, false⟩ := rnd_beg (by omega) (by omega)
              cases ht : (takeW t p [115, 111, 109, 101, 32]).2 with
              | true =>
                rw [if_pos rfl]
                have hadv := (takeW_ok t [115, 111, 109, 101, 32] _ ht).2
                have hr : rndM t 115 ⟨p, N, O, false⟩ = (⟨(takeW t p [115, 111, 109, 101, 32]).1, bsV N O ++ [(5, 0, 0)], (bsV N O).length :: O, false⟩, true) := by
                  rw [hb, beginM, if_neg (by omega), if_neg (by omega), if_neg (by omega), if_pos rfl]
                  simp only
                  rw [if_pos ht, hlen]
                  rfl
                have hLd := lead_rnd hps hc (by rw [hr])
                rw [hr] at hLd
                have ih := val_sim t f (takeW t p [115, 111, 109, 101, 32]).1 (bsV N O ++ [(5, 0, 0)]) ((bsV N O).length :: O) (by rw [hadv]; simp; omega) hLd.2 (fun c' hc' => by
                  rw [mayC]
                  have h := open_at (bsV N O) (5, 0, 0) []
                  rw [h]
                  simp [endT])
                revert ih
                cases valP t f (takeW t p [115, 111, 109, 101, 32]).1 with
                | mk q o =>
                  cases o with
                  | none => exact fun ih => hLd.fail ih
                  | some L =>
                    rintro ⟨i1, i2⟩
                    have hinc' : addV (bsV N O ++ [(5, 0, 0)]) ((bsV N O).length :: O) L = bsV N O ++ (5, 0, 1) :: L := open_inc (bsV N O) 5 0 0 [] L O
                    have hpop : popO (bsV N O ++ [(5, 0, 0)]) ((bsV N O).length :: O) = popO N O := by
                      rw [popO, open_at, if_pos rfl, popO_more _ hon]
                    rw [hinc', hpop] at i1
                    exact ⟨hLd.trans i1, by rw [hadv] at i2; simp at i2; omega⟩
              | false =>
                rw [if_neg (by simp)]
                have hr : rndM t 115 ⟨p, N, O, false⟩ = (⟨(takeW t p [115, 111, 109, 101, 32]).1, N, O, false⟩, false) := by
                  rw [hb, beginM, if_neg (by omega), if_neg (by omega), if_neg (by omega), if_pos rfl]
                  simp only
                  rw [if_neg (by rw [ht]; simp)]
                have hF := stop_rnd hps hc (by rw [hr])
                rw [hr] at hF
                exact sim_fail hF
            · rw [if_neg h115]
              have hdr : t.drop p = c :: t.drop (p + 1) := drop_of hc
              by_cases hsp : (c = 93 ∨ c = 125 ∨ c = 62) ∨ c = 44
              · have hnd : ¬ (48 ≤ c ∧ c ≤ 57) := by omega
                have hlw : leafW t c p = (p, 0, false) := by
                  unfold leafW
                  rw [if_neg (by omega), if_neg (by omega), if_neg (by omega), numL_stop (by rw [hdr]; intro d hd; simp at hd; rw [← hd]; exact hnd)]
                  rfl
                rw [hlw, if_neg (by simp)]
                have hr : rndM t c ⟨p, N, O, false⟩ = (⟨p, N, O, false⟩, false) := by
                  unfold rndM
                  by_cases h1 : c = 93 ∨ c = 125 ∨ c = 62
                  · rw [if_pos h1, if_neg (by rw [hmc c hc]; simp)]
                  · rw [if_neg h1, if_pos (by omega), if_neg (by cases O <;> simp [mayGo])]
                have hF := stop_rnd hps hc (by rw [hr])
                rw [hr] at hF
                exact sim_fail hF
              · have hb : rndM t c ⟨p, N, O, false⟩ = leafM t c ⟨p, N, O, false⟩ := by
                  rw [rnd_beg (by omega) (by omega), beginM, if_neg h91, if_neg h123, if_neg h60, if_neg h115]
                cases hl : (leafW t c p).2.2 with
                | true =>
                  rw [if_pos rfl]
                  have hr : rndM t c ⟨p, N, O, false⟩ = (⟨(leafW t c p).1, bsV N O ++ [(leafK c, (leafW t c p).2.1, 0)], popO N O, true⟩, true) := by
                    rw [hb, leafM]
                    simp only
                    rw [if_pos hl, addN_is, popO_addV hon]
                    rfl
                  have hLd := lead_rnd hps hc (by rw [hr])
                  rw [hr] at hLd
                  exact ⟨hLd, (leafW_le t c p (Nat.le_of_lt hplt)).2.2 hl⟩
                | false =>
                  rw [if_neg (by simp)]
                  have hr : rndM t c ⟨p, N, O, false⟩ = (⟨(leafW t c p).1, N, O, false⟩, false) := by
                    rw [hb, leafM]
                    simp only
                    rw [if_neg (by rw [hl]; simp)]
                  have hF := stop_rnd hps hc (by rw [hr])
                  rw [hr] at hF
                  exact sim_fail hF
/-- What a text is, read by recursion. -/
def parseD (t : List Int) : Option (List Nd) × Nat := match valP t (t.length + 1) 0 with
  | (q, none) => (none, q)
  | (q, some L) => if q = t.length then (some L, q) else (none, q)
theorem parseD_is (t : List Int) : (parseD t).1.getD [] = parseN t ∧ parseF t = (match (parseD t).1 with | none => (41, ((parseD t).2 : Int)) | some _ => (0, 0)) := by
  have h := val_sim t (t.length + 1) 0 [] [] (by omega) (PSok.begin t.length) (fun c _ => rfl)
  unfold parseD parseN parseF
  revert h
  cases valP t (t.length + 1) 0 with
  | mk q o =>
    cases o with
    | none =>
      intro h
      obtain ⟨h1, h2⟩ : Fail t st00 q := h
      rw [if_neg (by rw [h2]; simp), if_neg (by rw [h2]; simp), h1]
      exact ⟨rfl, rfl⟩
    | some L =>
      rintro ⟨⟨h1, h2⟩, h3⟩
      have hst : readT t st00 = readT t ⟨q, L, [], true⟩ := h1
      have hq : q ≤ t.length := h2.pl
      have hend : readT t ⟨q, L, [], true⟩ = ⟨q, L, [], true⟩ := readM_ended rfl rfl
      rw [hst, hend]
      simp only
      by_cases e : q = t.length
      · rw [if_pos e]
        have hok : okM t ⟨q, L, [], true⟩ = true := by simp [okM, e]
        rw [if_pos hok, if_pos hok]
        exact ⟨rfl, rfl⟩
      · rw [if_neg e]
        have hok : ¬ okM t ⟨q, L, [], true⟩ = true := by simp [okM, e]
        rw [if_neg hok, if_neg hok]
        exact ⟨rfl, rfl⟩
end Go.Proofs.YtlbgdgobhiokpaaDoor
