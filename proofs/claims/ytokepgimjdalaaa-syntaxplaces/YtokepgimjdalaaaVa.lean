/- Other blanks between the tokens, plain. -/
import Derived.Test.YtokepgimjdalaaaUb
import Derived.Test.YtokepgimjdalaaaTd
import Derived.Test.YtokepgimjdalaaaUd
namespace Go.Proofs.Ytokepgimjdalaaa
set_option linter.unusedVariables false

theorem cut_ge (l : List UInt8) (p : Nat) : ∀ t ∈ (cut l p).1, p ≤ t.a := by
  refine cut_ind (fun l p => ∀ t ∈ (cut l p).1, p ≤ t.a) ?_ ?_ ?_ ?_ ?_ ?_ l p
  · intro p; simp [cut_nil]
  · intro c r p hb ih; rw [cut_blank r p hb]; intro t ht; have := ih t ht; omega
  · intro c r p hs h2; rw [cut_end p hs h2]; simp
  · intro c r d s p hs h2 h3 ih; rw [cut_rem p hs h2 h3]; intro t ht; have := ih t ht; omega
  · intro c r p hb hs he; rw [cut_bad r p hb hs he]; simp
  · intro w s p hw ho ih
    rw [cut_word hw ho p]
    unfold app
    split
    · intro t ht
      simp only [List.mem_cons] at ht
      rcases ht with rfl | ht
      · rw [(tkW_is hw p).2.2.2.1]; exact Nat.le_refl _
      · have := ih t ht; omega
    · intro t ht
      have := ih t ht; omega
/-- Places rise. -/
theorem cut_rise (l : List UInt8) (p : Nat) : (cut l p).1.Pairwise (fun a b => a.a < b.a) := by
  refine cut_ind (fun l p => (cut l p).1.Pairwise (fun a b => a.a < b.a)) ?_ ?_ ?_ ?_ ?_ ?_ l p
  · intro p; simp [cut_nil]
  · intro c r p hb ih; rw [cut_blank r p hb]; exact ih
  · intro c r p hs h2; rw [cut_end p hs h2]; simp
  · intro c r d s p hs h2 h3 ih; rw [cut_rem p hs h2 h3]; exact ih
  · intro c r p hb hs he; rw [cut_bad r p hb hs he]; simp
  · intro w s p hw ho ih
    rw [cut_word hw ho p]
    unfold app
    split
    · refine List.pairwise_cons.2 ⟨fun t ht => ?_, ih⟩
      have h1 := cut_ge s (p + w.length) t ht
      have h2 := hw.pos
      rw [(tkW_is hw p).2.2.2.1]
      omega
    · exact ih
theorem cutT_rise (s : ByteArray) : (cutT s).1.Pairwise (fun a b => a.a < b.a) := by
  unfold cutT
  split
  · exact List.Pairwise.nil
  · exact cut_rise _ _
/-- The token at fault is found by its place. -/
theorem plc_find {s : ByteArray} (h : (cutT s).2.1 = 0) {k : Nat} (hk : k ≤ (cutT s).1.length) : (∀ i, i < k → ((cutT s).1.getD i tk0).a < plc (cutT s).1 s.size k) ∧ (k < (cutT s).1.length → ((cutT s).1.getD k tk0).a = plc (cutT s).1 s.size k) := by
  constructor
  · intro i hi
    have hi2 : i < (cutT s).1.length := by omega
    rcases Nat.lt_or_ge k (cutT s).1.length with h1 | h1
    · unfold plc tkAt
      rw [if_pos h1]
      have hp := List.pairwise_iff_getElem.1 (cutT_rise s) i k hi2 h1 hi
      simpa [List.getD, hi2, h1] using hp
    · have e : plc (cutT s).1 s.size k = s.size := by unfold plc tkAt; rw [if_neg (by omega)]
      have h2 := plc_lt h hi2
      unfold plc tkAt at h2
      rw [if_pos hi2] at h2
      rw [e]
      exact h2
  · intro h1
    unfold plc tkAt
    rw [if_pos h1]
theorem zdf_dfp (ts : List Tk) (L : Nat) (d : Df) : zDf (dfP ts L d) = zDf d := by
  unfold zDf dfP
  simp only [List.map_map]
  congr 1
/-- Two texts of the same tokens. -/
theorem prs_same {s x : ByteArray} (hs : (cutT s).2.1 = 0) (hx : (cutT x).2.1 = 0) (hc : (cutT x).1.map core = (cutT s).1.map core) :
    (prsT s).2.1 = (prsT x).2.1 ∧ (prsT s).1.map zDf = (prsT x).1.map zDf ∧ ((prsT s).2.1 ≠ 0 → ∃ k, k ≤ (cutT s).1.length ∧ (prsT s).2.2 = plc (cutT s).1 s.size k ∧ (prsT x).2.2 = plc (cutT x).1 x.size k) := by
  cases hr : srcP ((cutT s).1.map core) 257 [] 0 with
  | ok D =>
    have hr2 : srcP ((cutT x).1.map core) 257 [] 0 = .ok D := by rw [hc]; exact hr
    rw [prs_ok hs hr, prs_ok hx hr2]
    refine ⟨rfl, ?_, fun h => absurd rfl h⟩
    simp only [List.map_map]
    congr 1
    funext d
    simp only [Function.comp]
    rw [zdf_dfp, zdf_dfp]
  | error e =>
    have hr2 : srcP ((cutT x).1.map core) 257 [] 0 = .error e := by rw [hc]; exact hr
    have h3 := (src_le hr).1
    rw [List.length_map] at h3
    rw [prs_err hs hr, prs_err hx hr2]
    exact ⟨rfl, rfl, fun _ => ⟨e.2, h3, rfl, rfl⟩⟩
theorem Bd.end {b F : List UInt8} {ts : List Tk} (h : Bd b ts) (hF : gp false F false = true) : cut (b ++ F) 0 = (ts, 0, 0) := by
  rw [h F]
  have := cut_gap (G := F) [] b.length hF
  rw [List.append_nil] at this
  rw [this, cut_nil]
  simp [apps]
/-- One more token, blanks ahead of it, something else behind. -/
def Bk (b : List UInt8) (ts : List Tk) : Prop := ∀ F X, IsFill F → cut (b ++ F ++ X) 0 = apps ts (cut X (b ++ F).length)
theorem Bk.nil : Bk [] [] := fun F X hF => by rw [List.nil_append, cut_gap X 0 hF.1, apps_nil]; simp
theorem Bk.step {b F w : List UInt8} {ts : List Tk} (h : Bk b ts) (hF : IsFill F) (hw : Tw w) : Bk (b ++ F ++ w) (ts ++ [tkW w (b ++ F).length]) := fun F2 X hF2 => by
  rw [List.append_assoc, List.append_assoc]
  rw [h F (w ++ (F2 ++ X)) hF, cut_word hw (hF2.off w X), apps_app, cut_gap X _ hF2.1]
  congr 2
  simp; omega
theorem Bk.whole {b F : List UInt8} {ts : List Tk} (h : Bk b ts) (hF : IsFill F) : cut (b ++ F) 0 = (ts, 0, 0) := by
  have := h F [] hF
  rw [List.append_nil, cut_nil] at this
  rw [this]
  simp [apps]
end Go.Proofs.Ytokepgimjdalaaa
