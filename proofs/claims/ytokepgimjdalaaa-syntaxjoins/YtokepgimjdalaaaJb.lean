/- Two texts one behind the other, plain: texts. -/
import Derived.Test.YtokepgimjdalaaaJa
import Derived.Test.YtokepgimjdalaaaVa
namespace Go.Proofs.Ytokepgimjdalaaa
set_option linter.unusedVariables false

/-- A token further on. -/
def shT (n : Nat) (t : Tk) : Tk := ⟨t.k, t.t, t.n, t.a + n, t.e + n⟩
def shC (n : Nat) (R : Cu) : Cu := (R.1.map (shT n), R.2.1, if R.2.1 = 0 then 0 else R.2.2 + n)
theorem tkW_sh (w : List UInt8) (h : Tw w) (p n : Nat) : tkW w (p + n) = shT n (tkW w p) := by
  obtain ⟨c, r, rfl, _⟩ := h
  unfold tkW shT
  simp only
  split
  · simp; omega
  · split
    · simp; omega
    · simp; omega
theorem app_sh (n : Nat) (t : Tk) (R : Cu) : app (shT n t) (shC n R) = shC n (app t R) := by
  unfold app shC
  by_cases h : R.2.1 = 0
  · simp [h]
  · simp [h]
theorem cut_sh (l : List UInt8) (p n : Nat) : cut l (p + n) = shC n (cut l p) := by
  refine cut_ind (fun l p => cut l (p + n) = shC n (cut l p)) ?_ ?_ ?_ ?_ ?_ ?_ l p
  · intro p; rw [cut_nil, cut_nil]; simp [shC]
  · intro c r p hb ih
    rw [cut_blank r _ hb, cut_blank r _ hb, ← ih]
    congr 1; omega
  · intro c r p hs h2; rw [cut_end _ hs h2, cut_end _ hs h2]; simp [shC]
  · intro c r d s p hs h2 h3 ih
    rw [cut_rem _ hs h2 h3, cut_rem _ hs h2 h3, ← ih]
    congr 1; omega
  · intro c r p hb hs he
    rw [cut_bad r _ hb hs he, cut_bad r _ hb hs he]
    simp [shC, he]
  · intro w s p hw ho ih
    rw [cut_word hw ho, cut_word hw ho, tkW_sh w hw, show p + n + w.length = p + w.length + n by omega, ih, app_sh]
theorem while_10 {c : UInt8} (X : List UInt8) : ∀ r : List UInt8, (r ++ 10 :: X).takeWhile (follows c) = r.takeWhile (follows c)
  | [] => by
    have : follows c 10 = false := follows_goes (by decide)
    simp [this]
  | a :: r => by
    rw [List.cons_append, List.takeWhile_cons, List.takeWhile_cons, while_10 X r]
theorem cut_nl_err (l : List UInt8) (p : Nat) (X : List UInt8) : (cut l p).2.1 ≠ 0 → (cut (l ++ 10 :: X) p).2.1 ≠ 0 := by
  refine cut_ind (fun l p => (cut l p).2.1 ≠ 0 → (cut (l ++ 10 :: X) p).2.1 ≠ 0) ?_ ?_ ?_ ?_ ?_ ?_ l p
  · intro p h; exact absurd rfl h
  · intro c r p hb ih h
    rw [cut_blank r p hb] at h
    rw [List.cons_append, cut_blank _ p hb]
    exact ih h
  · intro c r p hs h2 h
    rw [cut_end p hs h2] at h
    exact absurd rfl h
  · intro c r d s p hs h2 h3 ih h
    rw [cut_rem p hs h2 h3] at h
    have e : c :: (r ++ d :: s) ++ 10 :: X = c :: (r ++ d :: (s ++ 10 :: X)) := by simp
    rw [e, cut_rem p hs h2 h3]
    exact ih h
  · intro c r p hb hs he h
    have hw : wl (c :: (r ++ 10 :: X)) = wl (c :: r) := by rw [wl, wl, while_10]
    have hle : wl (c :: r) ≤ (c :: r).length := by
      rw [wl]
      split
      · have := (List.takeWhile_sublist (l := r) (follows c)).length_le
        simp; omega
      · omega
    have ht : (c :: (r ++ 10 :: X)).take (wl (c :: (r ++ 10 :: X))) = (c :: r).take (wl (c :: r)) := by
      rw [hw, ← List.cons_append, List.take_append_of_le_length hle]
    rw [List.cons_append, cut_bad _ p hb hs (by rw [ht]; exact he), ht]
    exact he
  · intro w s p hw ho ih h
    rw [cut_word hw ho p] at h
    have ho2 : Off w (s ++ 10 :: X) := ho.app (by decide) X
    rw [List.append_assoc, cut_word hw ho2 p]
    have h1 : (cut s (p + w.length)).2.1 ≠ 0 := fun h0 => h (by unfold app; rw [if_pos h0])
    have h2 := ih h1
    unfold app
    rw [if_neg h2]
    exact h2
/-- The two, a line's end between. -/
def jn (a b : ByteArray) : ByteArray := ⟨(a.data.toList ++ 10 :: b.data.toList).toArray⟩
theorem jn_size (a b : ByteArray) : (jn a b).size = a.size + 1 + b.size := by
  rw [Lib.size_eq, Lib.size_eq, Lib.size_eq, jn]; simp; omega
theorem jn_cut {a b : ByteArray} (hs : (jn a b).size ≤ 65536) (h : (cutT (jn a b)).2.1 = 0) :
    (cutT a).2.1 = 0 ∧ (cutT b).2.1 = 0 ∧ (cutT (jn a b)).1 = (cutT a).1 ++ (cutT b).1.map (shT (a.size + 1)) := by
  have hz := jn_size a b
  unfold cutT at h ⊢
  rw [if_neg (by omega)] at h ⊢
  rw [if_neg (by omega), if_neg (by omega)]
  have e : (jn a b).data.toList = a.data.toList ++ 10 :: b.data.toList := by simp [jn]
  rw [e] at h ⊢
  have ha : (cut a.data.toList 0).2.1 = 0 := by
    by_cases h0 : (cut a.data.toList 0).2.1 = 0
    · exact h0
    · exact absurd h (cut_nl_err _ 0 _ h0)
  rw [cut_nl _ 0 ha] at h ⊢
  rw [show 0 + a.data.toList.length + 1 = 0 + (a.size + 1) by rw [Lib.size_eq]; omega, cut_sh] at h ⊢
  have hb : (cut b.data.toList 0).2.1 = 0 := by
    by_cases h0 : (cut b.data.toList 0).2.1 = 0
    · exact h0
    · unfold apps shC at h
      simp only at h
      rw [if_neg h0] at h
      exact absurd h h0
  refine ⟨ha, hb, ?_⟩
  unfold apps shC
  simp only
  rw [if_pos hb]
theorem core_sh (n : Nat) (ts : List Tk) : (ts.map (shT n)).map core = ts.map core := by
  rw [List.map_map]; congr 1
theorem zdf_sh (n : Nat) (d : Df) : zDf (shD n d) = zDf d := by
  unfold zDf shD
  simp only [List.map_map]
  congr 1
theorem plc_front (ta tb : List Tk) (L M k : Nat) (hk : k < ta.length) : plc (ta ++ tb) L k = plc ta M k := by
  unfold plc tkAt
  rw [if_pos (by rw [List.length_append]; omega), if_pos hk]
  rw [List.getD_eq_getElem?_getD, List.getD_eq_getElem?_getD, List.getElem?_append_left hk]
theorem plc_back (ta tb : List Tk) (n M k : Nat) : plc (ta ++ tb.map (shT n)) (n + M) (k + ta.length) = plc tb M k + n := by
  unfold plc tkAt
  rw [List.length_append, List.length_map]
  by_cases hk : k < tb.length
  · rw [if_pos (by omega), if_pos hk]
    rw [List.getD_eq_getElem?_getD, List.getD_eq_getElem?_getD, List.getElem?_append_right (by omega), Nat.add_sub_cancel, List.getElem?_map, List.getElem?_eq_getElem hk]
    rfl
  · rw [if_neg (by omega), if_neg hk]
    show n + M = M + n
    omega
theorem map_z (D : List Df) (ts : List Tk) (L : Nat) : (D.map (dfP ts L)).map zDf = D.map zDf := by
  rw [List.map_map]
  congr 1
  funext d
  exact zdf_dfp ts L d
theorem prs_plc {s : ByteArray} (h : (cutT s).2.1 = 0) {k : Nat} (hk : k ≤ (cutT s).1.length) (hn : plc (cutT s).1 s.size k ≠ s.size) : k < (cutT s).1.length := by
  rcases Nat.lt_or_ge k (cutT s).1.length with h1 | h1
  · exact h1
  · exact absurd (by unfold plc tkAt; rw [if_neg (by omega)]) hn
theorem joins {a b : ByteArray} (hs : (jn a b).size ≤ 65536) (h : (cutT (jn a b)).2.1 = 0) :
    ((prsT a).2.1 ≠ 0 → (prsT a).2.2 ≠ a.size → (prsT (jn a b)).2 = (prsT a).2) ∧
    ((prsT a).2.1 = 0 → 256 < (prsT a).1.length + (prsT b).1.length → (prsT (jn a b)).2.1 = 5) ∧
    ((prsT a).2.1 = 0 → (prsT b).2.1 ≠ 0 → (prsT (jn a b)).2.1 = 5 ∨ (prsT (jn a b)).2 = ((prsT b).2.1, (prsT b).2.2 + a.size + 1)) ∧
    ((prsT a).2.1 = 0 → (prsT b).2.1 = 0 → (prsT a).1.length + (prsT b).1.length ≤ 256 → (prsT (jn a b)).2 = (0, 0) ∧ (prsT (jn a b)).1.map zDf = (prsT a).1.map zDf ++ (prsT b).1.map zDf) := by
  obtain ⟨ha, hb, hc⟩ := jn_cut hs h
  have hq : (cutT (jn a b)).1.map core = (cutT a).1.map core ++ (cutT b).1.map core := by rw [hc, List.map_append, core_sh]
  have hz := jn_size a b
  cases ra : srcP ((cutT a).1.map core) 257 [] 0 with
  | error e =>
    have he := src_le ra
    have hE : e.1 ≠ 0 := by omega
    rw [prs_err ha ra]
    refine ⟨fun _ h2 => ?_, fun h1 => absurd h1 hE, fun h1 => absurd h1 hE, fun h1 => absurd h1 hE⟩
    rw [List.length_map] at he
    have hk := prs_plc ha he.1 h2
    have hr := (src_front (qa := (cutT a).1.map core) (qb := (cutT b).1.map core) 257 [] 0 (Nat.zero_le _)).2 e ra (by rw [List.length_map]; exact hk) hE
    rw [← hq] at hr
    rw [prs_err h hr, hc, plc_front _ _ _ a.size e.2 hk]
  | ok Da =>
    obtain ⟨h1, h2, h3⟩ := (src_front (qa := (cutT a).1.map core) (qb := (cutT b).1.map core) 257 [] 0 (Nat.zero_le _)).1 Da ra
    simp only [List.length_nil, Nat.add_zero] at h1 h2 h3
    rw [prs_ok ha ra]
    refine ⟨fun h0 => absurd rfl h0, fun _ h0 => ?_, fun _ h0 => ?_, fun _ h0 h4 => ?_⟩
    · cases rb : srcP ((cutT b).1.map core) 257 [] 0 with
      | error e =>
        rw [prs_err hb rb] at h0
        simp only [List.length_map, List.length_nil] at h0
        omega
      | ok Db =>
        rw [prs_ok hb rb] at h0
        simp only [List.length_map] at h0
        obtain ⟨X, hX, hG⟩ := (src_back (qa := (cutT a).1.map core) (qb := (cutT b).1.map core) 257 [] 0).1 Db rb
        rw [List.nil_append] at hX
        subst hX
        obtain ⟨k, hk⟩ := (hG (257 - Da.length) Da (by omega)).2 (by omega)
        rw [Nat.zero_add] at hk
        rw [hk, ← hq] at h3
        rw [prs_err h h3]
    · cases rb : srcP ((cutT b).1.map core) 257 [] 0 with
      | ok Db => rw [prs_ok hb rb] at h0; exact absurd rfl h0
      | error e =>
        rw [prs_err hb rb]
        have hE : e.1 ≠ 0 := by have := src_le rb; omega
        rcases (src_back (qa := (cutT a).1.map core) (qb := (cutT b).1.map core) 257 [] 0).2 e rb hE (257 - Da.length) Da (by omega) (by omega) with hr | ⟨k, hr⟩
        · right
          rw [Nat.zero_add] at hr
          rw [hr, ← hq] at h3
          rw [prs_err h h3, hc, List.length_map, hz, plc_back]
          show (e.1, _) = (e.1, _)
          congr 1
        · left
          rw [Nat.zero_add] at hr
          rw [hr, ← hq] at h3
          rw [prs_err h h3]
    · cases rb : srcP ((cutT b).1.map core) 257 [] 0 with
      | error e =>
        rw [prs_err hb rb] at h0
        have := src_le rb
        simp only at h0
        omega
      | ok Db =>
        rw [prs_ok hb rb] at h4 ⊢
        simp only [List.length_map] at h4
        obtain ⟨X, hX, hG⟩ := (src_back (qa := (cutT a).1.map core) (qb := (cutT b).1.map core) 257 [] 0).1 Db rb
        rw [List.nil_append] at hX
        subst hX
        have hk := (hG (257 - Da.length) Da (by omega)).1 (by omega)
        rw [Nat.zero_add] at hk
        rw [hk, ← hq] at h3
        rw [prs_ok h h3]
        refine ⟨rfl, ?_⟩
        simp only
        rw [map_z, map_z, map_z, List.map_append, List.map_map]
        congr 2
        funext d
        exact zdf_sh _ d
end Go.Proofs.Ytokepgimjdalaaa
