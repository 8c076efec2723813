/- A text that ends too early goes on: texts. -/
import Derived.Test.YtokepgimjdalaaaTc
import Derived.Test.YtokepgimjdalaaaSp
namespace Go.Proofs.Ytokepgimjdalaaa
set_option linter.unusedVariables false

theorem app_apps (t : Tk) (ts : List Tk) (R : Cu) : app t (apps ts R) = apps (t :: ts) R := by
  unfold app apps
  by_cases h0 : R.2.1 = 0
  · simp [h0]
  · simp [h0]
theorem cut_nl (l : List UInt8) (p : Nat) : (cut l p).2.1 = 0 → ∀ X, cut (l ++ 10 :: X) p = apps (cut l p).1 (cut X (p + l.length + 1)) := by
  have h10 : (10 : UInt8).toNat = 10 := rfl
  refine cut_ind (fun l p => (cut l p).2.1 = 0 → ∀ X, cut (l ++ 10 :: X) p = apps (cut l p).1 (cut X (p + l.length + 1))) ?_ ?_ ?_ ?_ ?_ ?_ l p
  · intro p _ X
    rw [List.nil_append, cut_blank X p (blank_10 h10), cut_nil, apps_nil]
    rfl
  · intro c r p hb ih h X
    rw [cut_blank r p hb] at h ⊢
    rw [List.cons_append, cut_blank _ p hb, ih h X, List.length_cons]
    congr 2; omega
  · intro c r p hs h2 h X
    rw [cut_end p hs h2, apps_nil, List.cons_append, cut_rem p hs h2 h10, List.length_cons]
    congr 1; omega
  · intro c r d s p hs h2 h3 ih h X
    rw [cut_rem p hs h2 h3] at h ⊢
    have e : c :: (r ++ d :: s) ++ 10 :: X = c :: (r ++ d :: (s ++ 10 :: X)) := by simp
    rw [e, cut_rem p hs h2 h3, ih h X]
    congr 2; simp; omega
  · intro c r p hb hs he h
    rw [cut_bad r p hb hs he] at h
    exact absurd h he
  · intro w s p hw ho ih h X
    rw [cut_word hw ho p] at h ⊢
    obtain ⟨h1, h2⟩ := app_ok h
    have ho2 : Off w (s ++ 10 :: X) := ho.app (by decide) X
    rw [List.append_assoc, cut_word hw ho2 p, ih h1 X, h2]
    have e : p + w.length + s.length + 1 = p + (w ++ s).length + 1 := by simp; omega
    rw [e]
    exact app_apps _ _ _
theorem cut_a (l : List UInt8) (p : Nat) : ∀ t ∈ (cut l p).1, t.a < p + l.length := by
  refine cut_ind (fun l p => ∀ t ∈ (cut l p).1, t.a < p + l.length) ?_ ?_ ?_ ?_ ?_ ?_ l p
  · intro p; simp [cut_nil]
  · intro c r p hb ih; rw [cut_blank r p hb]; intro t ht; have := ih t ht; simp; omega
  · intro c r p hs h2; rw [cut_end p hs h2]; simp
  · intro c r d s p hs h2 h3 ih; rw [cut_rem p hs h2 h3]; intro t ht; have := ih t ht; simp; omega
  · intro c r p hb hs he; rw [cut_bad r p hb hs he]; simp
  · intro w s p hw ho ih
    rw [cut_word hw ho p]
    have hp := hw.pos
    unfold app
    split
    · intro t ht
      simp only [List.mem_cons] at ht
      rcases ht with rfl | ht
      · rw [(tkW_is hw p).2.2.2.1]; simp; omega
      · have := ih t ht; simp; omega
    · intro t ht
      have := ih t ht; simp; omega
def mores : List (List UInt8) := [[59], [125], [62], [117, 56], [122, 122], [49], [61], [58], [44], [60], [123]]
theorem mores_tw (j : Nat) (hj : j < 11) : Tw (mores.getD j []) ∧ (∀ p, core (tkW (mores.getD j []) p) = toks.getD j q0) ∧ (mores.getD j []).length ≤ 2 := by
  have h : j = 0 ∨ j = 1 ∨ j = 2 ∨ j = 3 ∨ j = 4 ∨ j = 5 ∨ j = 6 ∨ j = 7 ∨ j = 8 ∨ j = 9 ∨ j = 10 := by omega
  rcases h with rfl | rfl | rfl | rfl | rfl | rfl | rfl | rfl | rfl | rfl | rfl
  all_goals exact ⟨⟨_, _, rfl, by decide, by decide, by decide⟩, fun p => rfl, by decide⟩
/-- The text with a line's end and a token more. -/
def nx (s : ByteArray) (j : Nat) : ByteArray := ⟨(s.data.toList ++ 10 :: mores.getD j []).toArray⟩
theorem nx_size (s : ByteArray) (j : Nat) : (nx s j).size = s.size + 1 + (mores.getD j []).length := by
  rw [Lib.size_eq, Lib.size_eq, nx]; simp; omega
theorem nx_cut {s : ByteArray} {j : Nat} (hj : j < 11) (hs : s.size ≤ 60000) (h : (cutT s).2.1 = 0) : cutT (nx s j) = ((cutT s).1 ++ [tkW (mores.getD j []) (s.size + 1)], 0, 0) := by
  obtain ⟨h1, h2, h3⟩ := mores_tw j hj
  have hn := nx_size s j
  unfold cutT at h ⊢
  rw [if_neg (by omega)] at h ⊢
  rw [if_neg (by omega)]
  have e : (nx s j).data.toList = s.data.toList ++ 10 :: mores.getD j [] := by simp [nx]
  rw [e, cut_nl _ 0 h, cut_alone h1]
  have e2 : 0 + s.data.toList.length + 1 = s.size + 1 := by rw [Lib.size_eq]; omega
  rw [e2]
  simp [apps]
def TE (s : ByteArray) (c : Nat) : Prop := (cutT s).2.1 = 0 ∧ Early ((cutT s).1.map core) c
theorem src_le {qs : List Q} {e : Nat × Nat} (h : srcP qs 257 [] 0 = .error e) : e.2 ≤ qs.length ∧ (e.1 = 5 ∨ e.1 = 60 ∨ e.1 = 61) := by
  obtain ⟨n, hn⟩ := src_err h
  obtain ⟨m, u, h1, h2⟩ := run_err n _ _ hn
  have hI := (run_inv m _ u inv0 h1).1
  have hk := stepQ_inv hI (q_lt hI.2.2.2)
  rw [← stepM_eq, h2] at hk
  exact ⟨by rw [hk.1]; exact hI.2.2.2, hk.2⟩
theorem plc_lt {s : ByteArray} (h : (cutT s).2.1 = 0) {k : Nat} (hk : k < (cutT s).1.length) : plc (cutT s).1 s.size k < s.size := by
  unfold plc tkAt
  rw [if_pos hk]
  have hm : (cutT s).1.getD k tk0 ∈ (cutT s).1 := by rw [List.getD_eq_getElem?_getD, List.getElem?_eq_getElem hk]; exact List.getElem_mem hk
  unfold cutT at h hm ⊢
  split at h
  · simp at h
  · rename_i hs
    rw [if_neg hs] at hm ⊢
    have := cut_a _ _ _ hm
    rw [← Lib.size_eq] at this
    omega
theorem te_of {s : ByteArray} (h : (prsT s).2 = (60, s.size)) : ∃ c, c ≤ 89 ∧ TE s c := by
  have hc : (cutT s).2.1 = 0 := by
    by_cases h0 : (cutT s).2.1 = 0
    · exact h0
    · rw [prs_bad h0] at h
      have h1 : (cutT s).2.1 = 60 := congrArg Prod.fst h
      unfold cutT at h1
      split at h1
      · simp at h1
      · have := (cut_form s.data.toList 0).1 (by rw [h1]; decide)
        omega
  cases hr : srcP ((cutT s).1.map core) 257 [] 0 with
  | ok D => rw [prs_ok hc hr] at h; cases h
  | error e =>
    rw [prs_err hc hr] at h
    obtain ⟨e1, e2⟩ := e
    have h1 : e1 = 60 := congrArg Prod.fst h
    have h2 : plc (cutT s).1 s.size e2 = s.size := congrArg Prod.snd h
    have h3 := (src_le hr).1
    rw [List.length_map] at h3
    have h4 : e2 = (cutT s).1.length := by
      rcases Nat.lt_or_ge e2 (cutT s).1.length with hl | hl
      · have := plc_lt hc hl; omega
      · have h5 : e2 ≤ (cutT s).1.length := h3
        omega
    subst h1 h4
    obtain ⟨c, hc1, hc2⟩ := Early.of (qs := (cutT s).1.map core) (by rw [hr, List.length_map])
    exact ⟨c, hc1, hc, hc2⟩
/-- One token more, in texts. -/
theorem te_on {s : ByteArray} {c : Nat} (h : TE s c) (hs : s.size ≤ 60000) : ∃ a, a < 11 ∧ (∀ j, j < a → (prsT (nx s j)).2 = (60, s.size + 1)) ∧
    ((prsT (nx s a)).2.1 = 0 ∨ (prsT (nx s a)).2.1 = 61 ∨ (prsT (nx s a)).2.1 = 5 ∨ ((prsT (nx s a)).2 = (60, (nx s a).size) ∧ ∃ c', c' < c ∧ TE (nx s a) c')) := by
  obtain ⟨a, ha, h1, h2⟩ := go_on h.2
  have hx : ∀ j, j < 11 → ((cutT (nx s j)).1.map core = (cutT s).1.map core ++ [toks.getD j q0] ∧ (cutT (nx s j)).2.1 = 0) := fun j hj => by
    rw [nx_cut hj hs h.1]
    exact ⟨by rw [List.map_append, List.map_cons, List.map_nil, (mores_tw j hj).2.1], rfl⟩
  refine ⟨a, ha, fun j hj => ?_, ?_⟩
  · have hj11 : j < 11 := by omega
    have e := h1 j hj
    rw [← (hx j hj11).1] at e
    rw [prs_err (hx j hj11).2 e]
    have : plc (cutT (nx s j)).1 (nx s j).size ((cutT s).1.map core).length = s.size + 1 := by
      rw [nx_cut hj11 hs h.1, List.length_map]
      unfold plc tkAt
      rw [if_pos (by simp)]
      have hk := (tkW_is (mores_tw j hj11).1 (s.size + 1)).2.2.2.1
      simpa [List.getD] using hk
    rw [this]
  · rw [← (hx a ha).1] at h2
    rcases h2 with ⟨D, hD⟩ | ⟨e, he, he2⟩ | ⟨he, c', hc1, hc2⟩
    · left; rw [prs_ok (hx a ha).2 hD]
    · rcases he2 with he2 | he2
      · right; right; left; rw [prs_err (hx a ha).2 he]; exact he2
      · right; left; rw [prs_err (hx a ha).2 he]; exact he2
    · right; right; right
      refine ⟨?_, c', hc1, (hx a ha).2, hc2⟩
      rw [prs_err (hx a ha).2 he]
      have : plc (cutT (nx s a)).1 (nx s a).size (((cutT s).1.map core).length + 1) = (nx s a).size := by
        rw [nx_cut ha hs h.1, List.length_map]
        unfold plc tkAt
        rw [if_neg (by simp)]
      rw [this]
end Go.Proofs.Ytokepgimjdalaaa
