/- What follows, plain: gaps, places, written again, fronts. -/
import Derived.Test.YtokepgimjdalaaaA
namespace Go.Proofs.Ytokepgimjdalaaa
set_option linter.unusedVariables false

/-- Blanks and remarks alone; rm: inside a remark; last: it may end there. -/
def gp : Bool → List UInt8 → Bool → Bool
  | rm, [], last => !rm || last
  | true, c :: r, last => gp (inl c) r last
  | false, c :: r, last => if sharp c then gp true r last else if blank c then gp false r last else false
def cutR (s : List UInt8) (p : Nat) : Cu := cut (s.dropWhile inl) (p + (s.takeWhile inl).length)
theorem cutR_inl {c : UInt8} (h : inl c = true) (s : List UInt8) (p : Nat) : cutR (c :: s) p = cutR s (p + 1) := by
  unfold cutR
  simp [h]
  congr 1
  omega
theorem cutR_end {c : UInt8} (h : inl c = false) (s : List UInt8) (p : Nat) : cutR (c :: s) p = cut s (p + 1) := by
  have hb : blank c = true := by simp [inl] at h; simp [blank, h]
  unfold cutR
  simp [h]
  exact cut_blank s p hb
theorem cutR_nil (p : Nat) : cutR [] p = ([], 0, 0) := rfl
theorem cut_sharpR {c : UInt8} (h : sharp c = true) (s : List UInt8) (p : Nat) : cut (c :: s) p = cutR s (p + 1) := cut_sharp s p h
theorem gap_skip : ∀ (G : List UInt8) (rm : Bool) (s : List UInt8) (p : Nat), gp rm G false = true → (if rm then cutR (G ++ s) p else cut (G ++ s) p) = cut s (p + G.length)
  | [], rm, s, p, h => by cases rm <;> simp_all [gp]
  | c :: G, true, s, p, h => by
    rw [gp] at h
    have ih := gap_skip G (inl c) s (p + 1) h
    rw [if_pos rfl, List.cons_append]
    cases hc : inl c with
    | true =>
      rw [hc, if_pos rfl] at ih
      rw [cutR_inl hc, ih, List.length_cons]; congr 1; omega
    | false =>
      rw [hc] at ih
      rw [cutR_end hc]
      have ih : cut (G ++ s) (p + 1) = cut s (p + 1 + G.length) := by simpa using ih
      rw [ih, List.length_cons]; congr 1; omega
  | c :: G, false, s, p, h => by
    rw [gp] at h
    rw [if_neg (by simp), List.cons_append]
    cases hs : sharp c with
    | true =>
      rw [hs, if_pos rfl] at h
      have ih := gap_skip G true s (p + 1) h
      rw [if_pos rfl] at ih
      rw [cut_sharpR hs, ih, List.length_cons]; congr 1; omega
    | false =>
      rw [hs] at h
      cases hb : blank c with
      | true =>
        rw [hb] at h
        have h : gp false G false = true := by simpa using h
        have ih := gap_skip G false s (p + 1) h
        rw [if_neg (by simp)] at ih
        rw [cut_blank _ p hb, ih, List.length_cons]; congr 1; omega
      | false => rw [hb] at h; simp at h
theorem cut_gap {G : List UInt8} (s : List UInt8) (p : Nat) (h : gp false G false = true) : cut (G ++ s) p = cut s (p + G.length) := by
  have := gap_skip G false s p h
  simpa using this

/-! ### Places -/
def PlOk : List Tk → List UInt8 → Nat → Prop
  | [], l, p => gp false l true = true
  | t :: ts, l, p => ∃ G w s, l = G ++ (w ++ s) ∧ gp false G false = true ∧ Tw w ∧ t = tkW w (p + G.length) ∧ PlOk ts s (p + G.length + w.length)
theorem gp_all : ∀ {r : List UInt8}, (∀ x ∈ r, inl x = true) → gp true r true = true
  | [], _ => rfl
  | a :: r, h => by rw [gp, h a (by simp)]; exact gp_all (fun x hx => h x (by simp [hx]))
theorem gp_rem : ∀ {r : List UInt8} {d : UInt8} {s : List UInt8} {b : Bool}, (∀ x ∈ r, inl x = true) → d.toNat = 10 → gp true (r ++ d :: s) b = gp false s b
  | [], d, s, b, _, h => by rw [List.nil_append, gp, inl_10 h]
  | a :: r, d, s, b, h, h2 => by rw [List.cons_append, gp, h a (by simp)]; exact gp_rem (fun x hx => h x (by simp [hx])) h2
theorem sharp_not {c : UInt8} (h : blank c = true) : sharp c = false := by
  simp [sharp, blank] at *
  omega
theorem gp_blank {c : UInt8} (h : blank c = true) (s : List UInt8) (b : Bool) : gp false (c :: s) b = gp false s b := by
  rw [gp, sharp_not h, h]; simp
theorem gp_sharp {c : UInt8} (h : sharp c = true) (s : List UInt8) (b : Bool) : gp false (c :: s) b = gp true s b := by
  rw [gp, h]; simp
theorem app_ok {t : Tk} {R : Cu} (h : (app t R).2.1 = 0) : R.2.1 = 0 ∧ (app t R).1 = t :: R.1 := by
  unfold app at *
  by_cases hr : R.2.1 = 0
  · exact ⟨hr, by rw [if_pos hr]⟩
  · rw [if_neg hr] at h; exact absurd h hr
theorem places (l : List UInt8) (p : Nat) : (cut l p).2.1 = 0 → PlOk (cut l p).1 l p := by
  refine cut_ind (fun l p => (cut l p).2.1 = 0 → PlOk (cut l p).1 l p) ?_ ?_ ?_ ?_ ?_ ?_ l p
  · intro p _; rw [cut_nil]; rfl
  · intro c r p hb ih h
    rw [cut_blank r p hb] at h ⊢
    have ih := ih h
    revert ih
    cases (cut r (p + 1)).1 with
    | nil => intro ih; show gp false (c :: r) true = true; rw [gp_blank hb]; exact ih
    | cons t ts =>
      rintro ⟨G, w, s, rfl, h1, h2, h3, h4⟩
      refine ⟨c :: G, w, s, rfl, by rw [gp_blank hb]; exact h1, h2, ?_, ?_⟩
      · rw [h3]; congr 1; simp; omega
      · have e : p + (c :: G).length = p + 1 + G.length := by simp; omega
        rw [e]; exact h4
  · intro c r p hs h2 _
    rw [cut_end p hs h2]
    show gp false (c :: r) true = true
    rw [gp_sharp hs]; exact gp_all h2
  · intro c r d s p hs h2 h3 ih h
    rw [cut_rem p hs h2 h3] at h ⊢
    have ih := ih h
    revert ih
    cases (cut s (p + 1 + r.length + 1)).1 with
    | nil => intro ih; show gp false (c :: (r ++ d :: s)) true = true; rw [gp_sharp hs, gp_rem h2 h3]; exact ih
    | cons t ts =>
      rintro ⟨G, w, s, rfl, h1, k2, k3, h4⟩
      refine ⟨c :: (r ++ d :: G), w, s, by simp, by rw [gp_sharp hs, gp_rem h2 h3]; exact h1, k2, ?_, ?_⟩
      · rw [k3]; congr 1; simp; omega
      · have e : p + (c :: (r ++ d :: G)).length = p + 1 + r.length + 1 + G.length := by simp; omega
        rw [e]; exact h4
  · intro c r p hb hs he h
    rw [cut_bad r p hb hs he] at h
    exact absurd h he
  · intro w s p hw ho ih h
    rw [cut_word hw ho p] at h ⊢
    obtain ⟨h1, h2⟩ := app_ok h
    rw [h2]
    exact ⟨[], w, s, rfl, rfl, hw, rfl, ih h1⟩
theorem Off.nil (w : List UInt8) : Off w [] := fun _ _ _ _ _ h => by simp at h
theorem cut_alone {w : List UInt8} (h : Tw w) (p : Nat) : cut w p = ([tkW w p], 0, 0) := by
  have := cut_word h (Off.nil w) p
  rw [List.append_nil] at this
  rw [this]; rfl
theorem Tw.pos {w : List UInt8} (h : Tw w) : 0 < w.length := by obtain ⟨c, r, rfl, _⟩ := h; simp
/-- A token but for its places hangs on its bytes alone. -/
theorem tkW_is {w : List UInt8} (h : Tw w) (p : Nat) : (tkW w p).k = (tkW w 0).k ∧ (tkW w p).t = (tkW w 0).t ∧ (tkW w p).n = (tkW w 0).n ∧ (tkW w p).a = p ∧ (tkW w p).e = p + w.length := by
  obtain ⟨c, r, rfl, _⟩ := h
  unfold tkW
  simp only
  cases letter c <;> cases digit c <;> simp

/-! ### Written again -/
def IsFill (F : List UInt8) : Prop := gp false F false = true ∧ ∃ x y, F = x :: y ∧ goes x = false
theorem follows_goes {c x : UInt8} (h : goes x = false) : follows c x = false := by
  have hd : digit x = false := by cases hd : digit x <;> simp_all [goes]
  unfold follows
  rw [h, hd]
  simp
theorem IsFill.off {F : List UInt8} (h : IsFill F) (w X : List UInt8) : Off w (F ++ X) := by
  obtain ⟨_, x, y, rfl, hx⟩ := h
  intro c r x' y' _ e
  injection e with e _
  subst e
  exact follows_goes hx
theorem apps_nil (l : List UInt8) (p : Nat) : apps [] (cut l p) = cut l p := by
  unfold apps
  by_cases h : (cut l p).2.1 = 0
  · rw [if_pos h, List.nil_append]
    have := (cut_form l p).2 h
    rw [← h]
    conv => lhs; rw [h]; rw [show (0 : Nat) = (cut l p).2.2 from this.symm]
    rw [show (cut l p).2.2 = (cut l p).2.1 from this.trans h.symm]
    rw [show ((cut l p).1, (cut l p).2.1, (cut l p).2.1) = ((cut l p).1, (cut l p).2.1, (cut l p).2.2) by rw [this, h]]
  · rw [if_neg h]
theorem apps_app (ts : List Tk) (t : Tk) (R : Cu) : apps ts (app t R) = apps (ts ++ [t]) R := by
  unfold apps app
  by_cases h : R.2.1 = 0
  · simp [h]
  · simp [h]
theorem apps_apps (ts us : List Tk) (R : Cu) : apps ts (apps us R) = apps (ts ++ us) R := by
  unfold apps
  by_cases h : R.2.1 = 0
  · simp [h]
  · simp [h]
/-- These bytes are these tokens, whatever stands behind. -/
def Bd (b : List UInt8) (ts : List Tk) : Prop := ∀ X, cut (b ++ X) 0 = apps ts (cut X b.length)
theorem Bd.nil : Bd [] [] := fun X => by rw [List.nil_append, apps_nil]; rfl
theorem Bd.step {b F1 w F2 : List UInt8} {ts : List Tk} (h : Bd b ts) (h1 : IsFill F1) (hw : Tw w) (h2 : IsFill F2) : Bd (b ++ F1 ++ w ++ F2) (ts ++ [tkW w (b ++ F1).length]) := by
  intro X
  have e : b ++ F1 ++ w ++ F2 ++ X = b ++ (F1 ++ (w ++ (F2 ++ X))) := by simp
  rw [e, h, cut_gap _ _ h1.1, cut_word hw (h2.off w X), apps_app, cut_gap _ _ h2.1]
  simp [Nat.add_assoc]
theorem Bd.whole {b : List UInt8} {ts : List Tk} (h : Bd b ts) : cut b 0 = (ts, 0, 0) := by
  have := h []
  rw [List.append_nil, cut_nil] at this
  rw [this]; simp [apps]

/-! ### Fronts -/
theorem Off.take {w s : List UInt8} (h : Off w s) (n : Nat) : Off w (s.take n) := by
  intro c r x y hw hs
  cases s with
  | nil => simp at hs
  | cons a s =>
    cases n with
    | zero => simp at hs
    | succ n =>
      rw [List.take_succ_cons] at hs
      injection hs with hs _
      subst hs
      exact h c r a s hw rfl
theorem Off.app {w s : List UInt8} (h : Off w s) {d : UInt8} (hd : goes d = false) (m : List UInt8) : Off w (s ++ d :: m) := by
  intro c r x y hw hs
  cases s with
  | nil => rw [List.nil_append] at hs; injection hs with hs _; subst hs; exact follows_goes hd
  | cons a s => rw [List.cons_append] at hs; injection hs with hs _; subst hs; exact h c r a s hw rfl
/-- What stands ahead of place q is cut into ts, whatever stands behind a blank there. -/
def FrOk (l : List UInt8) (p q : Nat) : Prop := ∃ ts, cut (l.take (q - p)) p = (ts, 0, 0) ∧ ∀ (d : UInt8) (m : List UInt8), d.toNat = 32 →
  ((cut (l.take (q - p) ++ d :: m) p).2.1 ≠ 0 → q < (cut (l.take (q - p) ++ d :: m) p).2.2) ∧ ((cut (l.take (q - p) ++ d :: m) p).2.1 = 0 → ∃ us, (cut (l.take (q - p) ++ d :: m) p).1 = ts ++ us)
theorem fronts (l : List UInt8) (p : Nat) : (cut l p).2.1 ≠ 0 → FrOk l p (cut l p).2.2 := by
  refine cut_ind (fun l p => (cut l p).2.1 ≠ 0 → FrOk l p (cut l p).2.2) ?_ ?_ ?_ ?_ ?_ ?_ l p
  · intro p h; simp [cut_nil] at h
  · intro c r p hb ih h
    rw [cut_blank r p hb] at h ⊢
    have hf := ((cut_form r (p + 1)).1 h).2.1
    obtain ⟨ts, h1, h2⟩ := ih h
    generalize (cut r (p + 1)).2.2 = q at *
    have e : (c :: r).take (q - p) = c :: r.take (q - (p + 1)) := by
      rw [show q - p = (q - (p + 1)) + 1 by omega, List.take_succ_cons]
    refine ⟨ts, by rw [e, cut_blank _ _ hb]; exact h1, fun d m hd => ?_⟩
    rw [e, List.cons_append, cut_blank _ _ hb]
    exact h2 d m hd
  · intro c r p hs h2 h; rw [cut_end p hs h2] at h; simp at h
  · intro c r d s p hs h2 h3 ih h
    rw [cut_rem p hs h2 h3] at h ⊢
    have hf := ((cut_form s (p + 1 + r.length + 1)).1 h).2.1
    obtain ⟨ts, k1, k2⟩ := ih h
    generalize (cut s (p + 1 + r.length + 1)).2.2 = q at *
    have e : (c :: (r ++ d :: s)).take (q - p) = c :: (r ++ d :: s.take (q - (p + 1 + r.length + 1))) := by
      rw [show q - p = (r.length + (q - (p + 1 + r.length + 1) + 1)) + 1 by omega, List.take_succ_cons, List.take_length_add_append, List.take_succ_cons]
    refine ⟨ts, by rw [e, cut_rem _ hs h2 h3]; exact k1, fun d' m hd => ?_⟩
    have e2 : c :: (r ++ d :: s.take (q - (p + 1 + r.length + 1))) ++ d' :: m = c :: (r ++ d :: (s.take (q - (p + 1 + r.length + 1)) ++ d' :: m)) := by simp
    rw [e, e2, cut_rem _ hs h2 h3]
    exact k2 d' m hd
  · intro c r p hb hs he h
    rw [cut_bad r p hb hs he]
    refine ⟨[], by simp [cut_nil], fun d m hd => ?_⟩
    have hbd : blank d = true := by simp [blank, hd]
    simp only [Nat.sub_self, List.take_zero, List.nil_append]
    rw [cut_blank m p hbd]
    exact ⟨fun h => by have := ((cut_form m (p + 1)).1 h).2.1; omega, fun _ => ⟨_, rfl⟩⟩
  · intro w s p hw ho ih h
    rw [cut_word hw ho p] at h ⊢
    have h0 : (cut s (p + w.length)).2.1 ≠ 0 := by
      intro e
      apply h
      unfold app
      rw [if_pos e]
    have ea : app (tkW w p) (cut s (p + w.length)) = cut s (p + w.length) := by unfold app; rw [if_neg h0]
    rw [ea]
    have hf := ((cut_form s (p + w.length)).1 h0).2.1
    obtain ⟨ts, k1, k2⟩ := ih h0
    generalize (cut s (p + w.length)).2.2 = q at *
    have e : (w ++ s).take (q - p) = w ++ s.take (q - (p + w.length)) := by
      rw [show q - p = w.length + (q - (p + w.length)) by omega, List.take_length_add_append]
    refine ⟨tkW w p :: ts, by rw [e, cut_word hw (ho.take _) p, k1]; rfl, fun d m hd => ?_⟩
    have hg : goes d = false := by simp [goes, letter, digit, hd]
    have k := k2 d m hd
    rw [e, List.append_assoc, cut_word hw ((ho.take _).app hg m) p]
    generalize cut (s.take (q - (p + w.length)) ++ d :: m) (p + w.length) = R at *
    unfold app
    by_cases hR : R.2.1 = 0
    · rw [if_pos hR]
      obtain ⟨us, hu⟩ := k.2 hR
      exact ⟨fun h => absurd rfl h, fun _ => ⟨us, by rw [hu]; rfl⟩⟩
    · rw [if_neg hR]
      exact ⟨fun _ => k.1 hR, fun h => absurd h hR⟩
end Go.Proofs.Ytokepgimjdalaaa
