import Derived.Test.YtbfmoiaedopeiaaDoorPart04
import Derived.Test.YtbfmoiaedopeiaaDoorPart02
import Derived.Lib.AppendStr
import Derived.Deep.RegionLaw
import Derived.Test.YtbfmoiaedopeiaaDoorPart01
import Derived.Lib.AppendIntMem

/- A source that Check takes, written as tokens, is parsed back; plain. -/
namespace Go.Proofs.YtbfmoiaedopeiaaDoor
open Go.RowKit
set_option linter.unusedVariables false

theorem wp_z : ∀ (fu d : Nat) (k : Int) (n : Nat) (N : List Nd) (b : Nat) (T : List Q) (N' : List Nd), WP fu d k n N b T N' → N'.map zNd = N.map zNd
  | 0, d, k, n, N, b, T, N', h => by obtain ⟨_, rfl, _, rfl⟩ := h; rfl
  | fu + 1, d, k, 0, N, b, T, N', h => by obtain ⟨rfl, _, rfl⟩ := h; rfl
  | fu + 1, d, k, n + 1, N, b, T, N', h => by
    obtain ⟨x, A, B, TA, TB, A', B', rfl, _, hA, hB, _, rfl⟩ := h
    have e1 := wp_z fu _ _ _ _ _ _ _ hA
    have e2 := wp_z fu _ _ _ _ _ _ _ hB
    simp only [List.map_cons, List.map_append, e1, e2]
    rfl
/-- The definitions written from token number b on. -/
def WD : List Df → Nat → List Q → List Df → Prop
  | [], _, T, D' => T = [] ∧ D' = []
  | d :: D, b, T, D' => ∃ TN N' TD E', WP d.ty.length 0 0 1 d.ty (b + 3) TN N' ∧ WD D (b + 3 + TN.length + 1) TD E' ∧ T = qw ⟨#[116, 121, 112, 101]⟩ :: qw d.name :: qm 61 :: (TN ++ (qm 59 :: TD)) ∧ D' = ⟨d.name, ((b + 1 : Nat) : Int), N'⟩ :: E'
theorem wd_of : ∀ (D : List Df), (∀ d ∈ D, isName d.name = true ∧ Forest d.ty.length 0 0 1 d.ty) → ∀ b, ∃ T D', WD D b T D'
  | [], _, b => ⟨[], [], rfl, rfl⟩
  | d :: D, h, b => by
    obtain ⟨TN, N', hN⟩ := wp_of _ _ _ _ _ (h d (by simp)).2 (b + 3)
    obtain ⟨TD, E', hD⟩ := wd_of D (fun e he => h e (by simp [he])) (b + 3 + TN.length + 1)
    exact ⟨_, _, TN, N', TD, E', hN, hD, rfl, rfl⟩
theorem wd_z : ∀ (D : List Df) (b : Nat) (T : List Q) (D' : List Df), WD D b T D' → D'.map zDf = D.map zDf ∧ D'.length = D.length
  | [], b, T, D', h => by obtain ⟨_, rfl⟩ := h; exact ⟨rfl, rfl⟩
  | d :: D, b, T, D', h => by
    obtain ⟨TN, N', TD, E', hN, hD, _, rfl⟩ := h
    obtain ⟨e1, e2⟩ := wd_z D _ _ _ hD
    have e3 := wp_z _ _ _ _ _ _ _ _ hN
    refine ⟨?_, by simp [e2]⟩
    simp only [List.map_cons, e1]
    congr 1
    unfold zDf
    simp only [e3]
section
variable {qs : List Q}
theorem nm_at {i : Nat} {s : ByteArray} (h : qAt qs i = qw s) (hn : isName s = true) : tak qs isNm i = .ok (i + 1) := by
  unfold tak
  rw [h, if_pos (by exact hn)]
theorem src_b : ∀ (D : List Df) (i : Nat) (T : List Q) (D' : List Df) (f : Nat) (Da : List Df), WD D i T D' → (∀ d ∈ D, isName d.name = true) → qs.drop i = T → D.length < f → srcP qs f Da i = .ok (Da ++ D')
  | [], i, T, D', f, Da, h, hn, ht, hf => by
    obtain ⟨rfl, rfl⟩ := h
    cases f with
    | zero => omega
    | succ f =>
      unfold srcP
      have : qs.length ≤ i := by
        have := congrArg List.length ht
        simp at this
        omega
      rw [if_neg (by omega), List.append_nil]
  | d :: D, i, T, D', f, Da, h, hn, ht, hf => by
    obtain ⟨TN, N', TD, E', hN, hD, rfl, rfl⟩ := h
    cases f with
    | zero => omega
    | succ f =>
      simp only [List.length_cons] at hf
      have hi : i < qs.length := by
        have := congrArg List.length ht
        simp at this
        omega
      have h0 : AtT qs i (qw ⟨#[116, 121, 112, 101]⟩ :: qw d.name :: qm 61 :: (TN ++ (qm 59 :: TD))) := ⟨[], by rw [ht]; simp⟩
      obtain ⟨t0, h0⟩ := h0.head
      obtain ⟨t1, h0⟩ := h0.head
      obtain ⟨t2, h0⟩ := h0.head
      obtain ⟨tn, h0⟩ := h0.app
      obtain ⟨t3, h0⟩ := h0.head
      have hsub := one_plain (qs := qs) (d := 0) (F := d.ty.length) (fun f _ => node_b f) (Nat.le_refl _) (by decide) (by decide) hN tn
      have hdf : defP qs (i + 1) = .ok (⟨d.name, ((i + 1 : Nat) : Int), N'⟩, i + 3 + TN.length + 1) := by
        unfold defP
        rw [nm_at t1 (hn d (by simp)), bnd_ok, txt_at t2, bnd_ok]
        rw [show i + 1 + 1 + 1 = i + 3 by omega] at t3 ⊢
        rw [hsub, bnd_ok]
        simp only
        rw [txt_at t3, bnd_ok, t1]
        rfl
      have htd : qs.drop (i + 3 + TN.length + 1) = TD := by
        have e : i + 3 + TN.length + 1 = i + (3 + TN.length + 1) := by omega
        rw [e, ← List.drop_drop, ht]
        have e2 : (qw ⟨#[116, 121, 112, 101]⟩ :: qw d.name :: qm 61 :: (TN ++ (qm 59 :: TD))) = (qw ⟨#[116, 121, 112, 101]⟩ :: qw d.name :: qm 61 :: (TN ++ [qm 59])) ++ TD := by simp
        rw [e2]
        exact List.drop_left' (by simp; omega)
      unfold srcP
      have tt : txt qs ⟨#[116, 121, 112, 101]⟩ i = .ok (i + 1) := by unfold txt tak; rw [t0, if_pos (by simp [isT, qw])]
      rw [if_pos hi, tt, bnd_ok, if_neg (by omega), hdf, bnd_ok]
      simp only
      rw [src_b D _ TD E' f _ hD (fun e he => hn e (by simp [he])) htd (by omega)]
      simp
end
/-- What Check takes, written down, is parsed back. -/
theorem back_tok {D : List Df} (h : (ckP D).2.2 = 0) : ∃ T D', WD D 0 T D' ∧ srcP T 257 [] 0 = .ok D' ∧ D'.map zDf = D.map zDf := by
  obtain ⟨hl, hall⟩ := ckP_all h
  obtain ⟨T, D', hW⟩ := wd_of D hall 0
  refine ⟨T, D', hW, ?_, (wd_z D 0 T D' hW).1⟩
  have := src_b (qs := T) D 0 T D' 257 [] hW (fun d hd => (hall d hd).1) rfl (by omega)
  rw [List.nil_append] at this
  exact this
end Go.Proofs.YtbfmoiaedopeiaaDoor

/- The grammar by a stack of what must still come; it answers as the parser does. -/
namespace Go.Proofs.YtbfmoiaedopeiaaDoor
set_option linter.unusedVariables false

/-- What must come, the next one first; the next token's number; how many parts each open type has; how many definitions. -/
structure St where
  s : List Nat
  i : Nat
  o : List Nat
  d : Nat
def insideM (k : Int) : List Nat :=
  if k = 4 ∨ k = 5 then [70, 3, 54, 2, 72, 8] else if k = 6 then [70, 3, 72, 8] else if k = 7 then [133, 5, 7, 8] else if k = 8 then [133, 4, 6, 8] else []
section
variable (qs : List Q)
def stepM (t : St) : PR St :=
  match t.s with
  | [] => .ok t
  | w :: S =>
    if w = 8 then .ok ⟨S, t.i, t.o.tail, t.d⟩
    else if w = 0 then
      (if t.i < qs.length then (if isT ⟨#[116, 121, 112, 101]⟩ (qAt qs t.i) then (if 256 ≤ t.d then .error (5, t.i) else .ok ⟨1 :: 71 :: 3 :: 69 :: 0 :: S, t.i + 1, t.o, t.d + 1⟩) else .error (60, t.i)) else .ok ⟨S, t.i, t.o, t.d⟩)
    else if w = 1 then (if isNm (qAt qs t.i) then .ok ⟨S, t.i + 1, t.o, t.d⟩ else .error (60, t.i))
    else if w = 2 then (if isNum (qAt qs t.i) then .ok ⟨S, t.i + 1, t.o, t.d⟩ else .error (60, t.i))
    else if w = 3 then
      (if (beg (qAt qs t.i).t).1 = 0 then .error (60, t.i) else if 16 < t.o.length then .error (61, t.i)
       else .ok ⟨insideM (beg (qAt qs t.i).t).1 ++ S, t.i + 1, if insideM (beg (qAt qs t.i).t).1 = [] then t.o else 0 :: t.o, t.d⟩)
    else if w = 4 then (if isNm (qAt qs t.i) then (if 64 ≤ t.o.headD 0 then .error (5, t.i) else .ok ⟨68 :: 3 :: S, t.i + 1, (t.o.headD 0 + 1) :: t.o.tail, t.d⟩) else .error (60, t.i))
    else if w = 5 then (if isNum (qAt qs t.i) then (if 64 ≤ t.o.headD 0 then .error (5, t.i) else .ok ⟨68 :: 3 :: S, t.i + 1, (t.o.headD 0 + 1) :: t.o.tail, t.d⟩) else .error (60, t.i))
    else if w = 6 then (if isT ⟨#[44]⟩ (qAt qs t.i) then .ok ⟨4 :: 6 :: S, t.i + 1, t.o, t.d⟩ else if isT ⟨#[125]⟩ (qAt qs t.i) then .ok ⟨S, t.i + 1, t.o, t.d⟩ else .error (60, t.i))
    else if w = 7 then (if isT ⟨#[44]⟩ (qAt qs t.i) then .ok ⟨5 :: 7 :: S, t.i + 1, t.o, t.d⟩ else if isT ⟨#[125]⟩ (qAt qs t.i) then .ok ⟨S, t.i + 1, t.o, t.d⟩ else .error (60, t.i))
    else (if isT ⟨#[UInt8.ofNat (w - 10)]⟩ (qAt qs t.i) then .ok ⟨S, t.i + 1, t.o, t.d⟩ else .error (60, t.i))
def runM : Nat → St → PR St
  | 0, t => .ok t
  | n + 1, t => bnd (stepM qs t) (runM n)
def Ends (t : St) (r : PR St) : Prop := ∃ n, runM qs n t = r
end
section
variable {qs : List Q}
theorem runM_add : ∀ (n m : Nat) (t : St), runM qs (n + m) t = bnd (runM qs n t) (runM qs m)
  | 0, m, t => by rw [Nat.zero_add]; rfl
  | n + 1, m, t => by
    rw [Nat.add_right_comm, runM, runM]
    cases h : stepM qs t with
    | ok u => rw [bnd_ok, bnd_ok]; exact runM_add n m u
    | error e => rfl
theorem Ends.refl (t : St) : Ends qs t (.ok t) := ⟨0, rfl⟩
theorem Ends.trans {t u : St} {r : PR St} (h : Ends qs t (.ok u)) (k : Ends qs u r) : Ends qs t r := by
  obtain ⟨n, hn⟩ := h
  obtain ⟨m, hm⟩ := k
  exact ⟨n + m, by rw [runM_add, hn, bnd_ok, hm]⟩
theorem Ends.step {t u : St} {r : PR St} (h : stepM qs t = .ok u) (k : Ends qs u r) : Ends qs t r := by
  obtain ⟨m, hm⟩ := k
  exact ⟨m + 1, by rw [runM, h, bnd_ok, hm]⟩
theorem Ends.stop {t : St} {e : Nat × Nat} (h : stepM qs t = .error e) : Ends qs t (.error e) := ⟨1, by rw [runM, h]; rfl⟩
/-- What comes of a part's answer. -/
def resM {α : Type} (r : PR α) (f : α → St) : PR St := bnd r (fun a => .ok (f a))
theorem ends_bnd {α β : Type} {t : St} {r : PR α} {g : α → PR β} {f : α → St} {k : β → St} (h : Ends qs t (resM r f)) (h2 : ∀ a, r = .ok a → Ends qs (f a) (resM (g a) k)) : Ends qs t (resM (bnd r g) k) := by
  cases r with
  | ok a => exact h.trans (h2 a rfl)
  | error e => exact h
theorem ends_txt (w b : Nat) (hw : 10 < w) (hb : b = w - 10) (S : List Nat) (i : Nat) (o : List Nat) (d : Nat) : Ends qs ⟨w :: S, i, o, d⟩ (resM (txt qs ⟨#[UInt8.ofNat b]⟩ i) (fun j => ⟨S, j, o, d⟩)) := by
  have hs : stepM qs ⟨w :: S, i, o, d⟩ = (if isT ⟨#[UInt8.ofNat (w - 10)]⟩ (qAt qs i) then .ok ⟨S, i + 1, o, d⟩ else .error (60, i)) := by
    simp only [stepM]
    rw [if_neg (by omega), if_neg (by omega), if_neg (by omega), if_neg (by omega), if_neg (by omega), if_neg (by omega), if_neg (by omega), if_neg (by omega), if_neg (by omega)]
  subst hb
  unfold txt tak
  cases h : isT ⟨#[UInt8.ofNat (w - 10)]⟩ (qAt qs i) with
  | true => rw [h] at hs; exact .step hs (.refl _)
  | false => rw [h] at hs; exact .stop hs
theorem ends_num (S : List Nat) (i : Nat) (o : List Nat) (d : Nat) : Ends qs ⟨2 :: S, i, o, d⟩ (resM (tak qs isNum i) (fun j => ⟨S, j, o, d⟩)) := by
  have hs : stepM qs ⟨2 :: S, i, o, d⟩ = (if isNum (qAt qs i) then .ok ⟨S, i + 1, o, d⟩ else .error (60, i)) := rfl
  unfold tak
  cases h : isNum (qAt qs i) with
  | true => rw [h] at hs; exact .step hs (.refl _)
  | false => rw [h] at hs; exact .stop hs
theorem ends_nm (S : List Nat) (i : Nat) (o : List Nat) (d : Nat) : Ends qs ⟨1 :: S, i, o, d⟩ (resM (tak qs isNm i) (fun j => ⟨S, j, o, d⟩)) := by
  have hs : stepM qs ⟨1 :: S, i, o, d⟩ = (if isNm (qAt qs i) then .ok ⟨S, i + 1, o, d⟩ else .error (60, i)) := rfl
  unfold tak
  cases h : isNm (qAt qs i) with
  | true => rw [h] at hs; exact .step hs (.refl _)
  | false => rw [h] at hs; exact .stop hs
/-- A type is read as the parser reads it. -/
def NodeM (qs : List Q) (f : Nat) : Prop := ∀ (x : Nd) (S : List Nat) (i : Nat) (o : List Nat) (d : Nat), o.length + f = 17 → Ends qs ⟨3 :: S, i, o, d⟩ (resM (nodeP qs f x i) (fun r => ⟨S, r.2, o, d⟩))
theorem ends_part {f : Nat} (hN : NodeM qs f) (x : Nd) (S : List Nat) (i : Nat) (o : List Nat) (d : Nat) (ho : o.length + f = 17) : Ends qs ⟨68 :: 3 :: S, i, o, d⟩ (resM (partP qs (nodeP qs f) x true i) (fun r => ⟨S, r.2, o, d⟩)) := by
  unfold partP
  rw [if_pos rfl]
  exact ends_bnd (ends_txt 68 58 (by omega) rfl _ i o d) (fun j _ => hN x S j o d ho)
theorem ends_arm {f : Nat} (hN : NodeM qs f) (S : List Nat) (c i : Nat) (o : List Nat) (d : Nat) (ho : o.length + 1 + f = 17) : Ends qs ⟨5 :: S, i, c :: o, d⟩ (resM (armP qs (nodeP qs f) c i) (fun r => ⟨S, r.2, (c + 1) :: o, d⟩)) := by
  have hs : stepM qs ⟨5 :: S, i, c :: o, d⟩ = (if isNum (qAt qs i) then (if 64 ≤ c then .error (5, i) else .ok ⟨68 :: 3 :: S, i + 1, (c + 1) :: o, d⟩) else .error (60, i)) := rfl
  unfold armP tak
  cases h : isNum (qAt qs i) with
  | false => rw [h] at hs; exact .stop hs
  | true =>
    rw [h, if_pos rfl] at hs
    rw [if_pos rfl, bnd_ok]
    by_cases hc : 64 ≤ c
    · rw [if_pos hc] at hs
      unfold partP
      rw [decide_eq_false (by omega), if_neg (by decide)]
      exact .stop hs
    · rw [if_neg hc] at hs
      rw [decide_eq_true (by omega)]
      exact .step hs (ends_part hN _ S _ _ d (by simp; omega))
theorem ends_field {f : Nat} (hN : NodeM qs f) (S : List Nat) (c i : Nat) (o : List Nat) (d : Nat) (ho : o.length + 1 + f = 17) : Ends qs ⟨4 :: S, i, c :: o, d⟩ (resM (fieldP qs (nodeP qs f) c i) (fun r => ⟨S, r.2, (c + 1) :: o, d⟩)) := by
  have hs : stepM qs ⟨4 :: S, i, c :: o, d⟩ = (if isNm (qAt qs i) then (if 64 ≤ c then .error (5, i) else .ok ⟨68 :: 3 :: S, i + 1, (c + 1) :: o, d⟩) else .error (60, i)) := rfl
  unfold fieldP tak
  cases h : isNm (qAt qs i) with
  | false => rw [h] at hs; exact .stop hs
  | true =>
    rw [h, if_pos rfl] at hs
    rw [if_pos rfl, bnd_ok]
    by_cases hc : 64 ≤ c
    · rw [if_pos hc] at hs
      unfold partP
      rw [decide_eq_false (by omega), if_neg (by decide)]
      exact .stop hs
    · rw [if_neg hc] at hs
      rw [decide_eq_true (by omega)]
      exact .step hs (ends_part hN _ S _ _ d (by simp; omega))
theorem one_lt {sub : Nd → Nat → PR (List Nd × Nat)} {c i : Nat} {y : List Nd × Nat} (h : armP qs sub c i = .ok y ∨ fieldP qs sub c i = .ok y) : c < 64 := by
  have key : ∀ (x : Nd) (j : Nat) (y : List Nd × Nat), partP qs sub x (decide (c < 64)) j = .ok y → c < 64 := fun x j y h => by
    unfold partP at h
    by_cases hc : c < 64
    · exact hc
    · rw [decide_eq_false hc, if_neg (by decide)] at h
      cases h
  rcases h with h | h
  · unfold armP at h
    obtain ⟨a, _, h2⟩ := bnd_is h
    exact key _ _ _ h2
  · unfold fieldP at h
    obtain ⟨a, _, h2⟩ := bnd_is h
    exact key _ _ _ h2
theorem ends_more (one : Nat → Nat → PR (List Nd × Nat)) (a b : Nat) (hab : a = 5 ∧ b = 7 ∨ a = 4 ∧ b = 6) (o : List Nat) (d : Nat) (h1 : ∀ S c i, Ends qs ⟨a :: S, i, c :: o, d⟩ (resM (one c i) (fun r => ⟨S, r.2, (c + 1) :: o, d⟩))) (h2 : ∀ c i y, one c i = .ok y → c < 64) (S : List Nat) :
    ∀ (f c : Nat) (N : List Nd) (i : Nat), f + c = 65 → c ≤ 64 → Ends qs ⟨b :: S, i, c :: o, d⟩ (resM (moreP qs one f c N i) (fun r => ⟨S, r.2.2, r.2.1 :: o, d⟩)) := by
  intro f
  induction f with
  | zero => intro c N i hf hc; omega
  | succ f ih =>
    intro c N i hf hc
    have hs : stepM qs ⟨b :: S, i, c :: o, d⟩ = (if isT ⟨#[44]⟩ (qAt qs i) then .ok ⟨a :: b :: S, i + 1, c :: o, d⟩ else if isT ⟨#[125]⟩ (qAt qs i) then .ok ⟨S, i + 1, c :: o, d⟩ else .error (60, i)) := by
      rcases hab with ⟨rfl, rfl⟩ | ⟨rfl, rfl⟩ <;> rfl
    unfold moreP
    cases h : isT ⟨#[44]⟩ (qAt qs i) with
    | true =>
      rw [h, if_pos rfl] at hs
      rw [if_pos rfl]
      refine .step hs (ends_bnd (h1 (b :: S) c (i + 1)) (fun y hy => ?_))
      have := h2 c (i + 1) y hy
      exact ih (c + 1) _ _ (by omega) (by omega)
    | false =>
      rw [h, if_neg (by decide)] at hs
      rw [if_neg (by decide)]
      unfold txt tak
      cases h3 : isT ⟨#[125]⟩ (qAt qs i) with
      | true => rw [h3] at hs; exact .step hs (.refl _)
      | false => rw [h3] at hs; exact .stop hs
theorem ends_parts (one : Nat → Nat → PR (List Nd × Nat)) (a b : Nat) (hab : a = 5 ∧ b = 7 ∨ a = 4 ∧ b = 6) (o : List Nat) (d : Nat) (h1 : ∀ S c i, Ends qs ⟨a :: S, i, c :: o, d⟩ (resM (one c i) (fun r => ⟨S, r.2, (c + 1) :: o, d⟩))) (h2 : ∀ c i y, one c i = .ok y → c < 64) (S : List Nat) (i : Nat) :
    Ends qs ⟨133 :: a :: b :: S, i, 0 :: o, d⟩ (resM (partsP qs one i) (fun r => ⟨S, r.2.2, r.2.1 :: o, d⟩)) := by
  unfold partsP
  refine ends_bnd (ends_txt 133 123 (by omega) rfl _ i _ d) (fun j _ => ends_bnd (h1 (b :: S) 0 j) (fun y _ => ?_))
  exact ends_more one a b hab o d h1 h2 S 64 1 y.1 y.2 (by omega) (by omega)
theorem ends_shut {α : Type} {t : St} {r : PR α} {f : α → St} {k : α → St} (h : Ends qs t (resM r f)) (hs : ∀ a, stepM qs (f a) = .ok (k a)) : Ends qs t (resM r k) := by
  cases r with
  | ok a => exact h.trans (.step (hs a) (.refl _))
  | error e => exact h
theorem node_m : ∀ f, NodeM qs f := by
  intro f
  induction f with
  | zero =>
    intro x S i o d ho
    have hs : stepM qs ⟨3 :: S, i, o, d⟩ = (if (beg (qAt qs i).t).1 = 0 then .error (60, i) else if 16 < o.length then .error (61, i) else .ok ⟨insideM (beg (qAt qs i).t).1 ++ S, i + 1, if insideM (beg (qAt qs i).t).1 = [] then o else 0 :: o, d⟩) := rfl
    unfold nodeP
    by_cases hk : (beg (qAt qs i).t).1 = 0
    · rw [if_pos hk] at hs ⊢; exact .stop hs
    · rw [if_neg hk] at hs ⊢
      rw [if_pos (by omega)] at hs
      exact .stop hs
  | succ f ih =>
    intro x S i o d ho
    have hs : stepM qs ⟨3 :: S, i, o, d⟩ = (if (beg (qAt qs i).t).1 = 0 then .error (60, i) else if 16 < o.length then .error (61, i) else .ok ⟨insideM (beg (qAt qs i).t).1 ++ S, i + 1, if insideM (beg (qAt qs i).t).1 = [] then o else 0 :: o, d⟩) := rfl
    unfold nodeP
    by_cases hk : (beg (qAt qs i).t).1 = 0
    · rw [if_pos hk] at hs ⊢; exact .stop hs
    rw [if_neg hk] at hs ⊢
    rw [if_neg (by omega)] at hs
    generalize (beg (qAt qs i).t).1 = k at *
    generalize (beg (qAt qs i).t).2 = n at *
    unfold bodyP
    have hI : ∀ S i d, Ends qs ⟨3 :: S, i, 0 :: o, d⟩ (resM (nodeP qs f { nd0 with a := i } i) (fun r => ⟨S, r.2, 0 :: o, d⟩)) := fun S i d => ih _ S i _ d (by simp; omega)
    by_cases h9 : k = 9
    · subst h9
      exact .step hs (.refl _)
    rw [if_neg h9]
    by_cases h45 : k = 4 ∨ k = 5
    · rw [if_pos h45]
      have hin : insideM k = [70, 3, 54, 2, 72, 8] := by unfold insideM; rw [if_pos h45]
      rw [hin, if_neg (by simp)] at hs
      refine .step hs ?_
      refine ends_bnd (f := fun r => (⟨8 :: S, r.2.2, 0 :: o, d⟩ : St)) ?_ (fun y _ => .step rfl (.refl _))
      unfold itemsP
      refine ends_bnd (ends_txt 70 60 (by omega) rfl _ _ _ d) (fun i1 _ => ends_bnd (hI _ i1 d) (fun y _ => ends_bnd (ends_txt 54 44 (by omega) rfl _ _ _ d) (fun i3 _ => ends_bnd (ends_num _ i3 _ d) (fun i4 _ => ends_bnd (ends_txt 72 62 (by omega) rfl _ i4 _ d) (fun i5 _ => .refl _)))))
    rw [if_neg h45]
    by_cases h6 : k = 6
    · rw [if_pos h6]
      have hin : insideM k = [70, 3, 72, 8] := by unfold insideM; rw [if_neg h45, if_pos h6]
      rw [hin, if_neg (by simp)] at hs
      refine .step hs ?_
      refine ends_bnd (f := fun r => (⟨8 :: S, r.2, 0 :: o, d⟩ : St)) ?_ (fun y _ => .step rfl (.refl _))
      unfold optionP
      exact ends_bnd (ends_txt 70 60 (by omega) rfl _ _ _ d) (fun i1 _ => ends_bnd (hI _ i1 d) (fun y _ => ends_bnd (ends_txt 72 62 (by omega) rfl _ _ _ d) (fun i3 _ => .refl _)))
    rw [if_neg h6]
    by_cases h7 : k = 7
    · rw [if_pos h7]
      have hin : insideM k = [133, 5, 7, 8] := by unfold insideM; rw [if_neg h45, if_neg h6, if_pos h7]
      rw [hin, if_neg (by simp)] at hs
      refine .step hs ?_
      exact ends_bnd (ends_parts (armP qs (nodeP qs f)) 5 7 (.inl ⟨rfl, rfl⟩) o d (fun S c i => ends_arm ih S c i o d (by omega)) (fun c i y h => one_lt (.inl h)) (8 :: S) (i + 1)) (fun y _ => .step rfl (.refl _))
    rw [if_neg h7]
    by_cases h8 : k = 8
    · rw [if_pos h8]
      have hin : insideM k = [133, 4, 6, 8] := by unfold insideM; rw [if_neg h45, if_neg h6, if_neg h7, if_pos h8]
      rw [hin, if_neg (by simp)] at hs
      refine .step hs ?_
      exact ends_bnd (ends_parts (fieldP qs (nodeP qs f)) 4 6 (.inr ⟨rfl, rfl⟩) o d (fun S c i => ends_field ih S c i o d (by omega)) (fun c i y h => one_lt (.inr h)) (8 :: S) (i + 1)) (fun y _ => .step rfl (.refl _))
    rw [if_neg h8]
    have hin : insideM k = [] := by unfold insideM; rw [if_neg h45, if_neg h6, if_neg h7, if_neg h8]
    rw [hin, if_pos rfl] at hs
    exact .step hs (.refl _)
/-- The whole: the machine fails just as the parser does. -/
theorem src_m : ∀ (f : Nat) (D : List Df) (i : Nat), f + D.length = 257 → D.length ≤ 256 → ∃ t, t.s = [] ∧ Ends qs ⟨[0], i, [], D.length⟩ (resM (srcP qs f D i) (fun _ => t)) := by
  intro f
  induction f with
  | zero => intro D i h1 h2; omega
  | succ f ih =>
    intro D i h1 h2
    have hs : stepM qs ⟨[0], i, [], D.length⟩ = (if i < qs.length then (if isT ⟨#[116, 121, 112, 101]⟩ (qAt qs i) then (if 256 ≤ D.length then .error (5, i) else .ok ⟨[1, 71, 3, 69, 0], i + 1, [], D.length + 1⟩) else .error (60, i)) else .ok ⟨[], i, [], D.length⟩) := rfl
    unfold srcP
    by_cases hi : i < qs.length
    · rw [if_pos hi] at hs ⊢
      unfold txt tak
      cases ht : isT ⟨#[116, 121, 112, 101]⟩ (qAt qs i) with
      | false =>
        rw [ht] at hs
        exact ⟨⟨[], 0, [], 0⟩, rfl, .stop hs⟩
      | true =>
        rw [ht, if_pos rfl] at hs
        rw [if_pos rfl, bnd_ok]
        by_cases hf : f = 0
        · rw [if_pos (by omega)] at hs
          rw [if_pos hf]
          exact ⟨⟨[], 0, [], 0⟩, rfl, .stop hs⟩
        · rw [if_neg (by omega)] at hs
          rw [if_neg hf]
          have hD : Ends qs ⟨[1, 71, 3, 69, 0], i + 1, [], D.length + 1⟩ (resM (defP qs (i + 1)) (fun r => ⟨[0], r.2, [], D.length + 1⟩)) := by
            unfold defP
            exact ends_bnd (ends_nm _ _ _ _) (fun i1 _ => ends_bnd (ends_txt 71 61 (by omega) rfl _ _ _ _) (fun i2 _ => ends_bnd (node_m 17 _ _ _ _ _ rfl) (fun y _ => ends_bnd (ends_txt 69 59 (by omega) rfl _ _ _ _) (fun i4 _ => .refl _))))
          cases hd : defP qs (i + 1) with
          | error e =>
            rw [hd] at hD
            exact ⟨⟨[], 0, [], 0⟩, rfl, .step hs hD⟩
          | ok y =>
            rw [hd] at hD
            obtain ⟨t, ht, hE⟩ := ih (D ++ [y.1]) y.2 (by simp; omega) (by simp; omega)
            refine ⟨t, ht, .step hs (Ends.trans hD ?_)⟩
            rw [List.length_append] at hE
            exact hE
    · rw [if_neg hi] at hs ⊢
      exact ⟨_, rfl, .step hs (.refl _)⟩
end
end Go.Proofs.YtbfmoiaedopeiaaDoor

/- A text that ends too early goes on, plain. -/
namespace Go.Proofs.YtbfmoiaedopeiaaDoor
set_option linter.unusedVariables false

/-- A step, the token in hand. -/
def stepQ (q : Q) (L : Nat) (t : St) : PR St :=
  match t.s with
  | [] => .ok t
  | w :: S =>
    if w = 8 then .ok ⟨S, t.i, t.o.tail, t.d⟩
    else if w = 0 then
      (if t.i < L then (if isT ⟨#[116, 121, 112, 101]⟩ q then (if 256 ≤ t.d then .error (5, t.i) else .ok ⟨1 :: 71 :: 3 :: 69 :: 0 :: S, t.i + 1, t.o, t.d + 1⟩) else .error (60, t.i)) else .ok ⟨S, t.i, t.o, t.d⟩)
    else if w = 1 then (if isNm q then .ok ⟨S, t.i + 1, t.o, t.d⟩ else .error (60, t.i))
    else if w = 2 then (if isNum q then .ok ⟨S, t.i + 1, t.o, t.d⟩ else .error (60, t.i))
    else if w = 3 then
      (if (beg q.t).1 = 0 then .error (60, t.i) else if 16 < t.o.length then .error (61, t.i)
       else .ok ⟨insideM (beg q.t).1 ++ S, t.i + 1, if insideM (beg q.t).1 = [] then t.o else 0 :: t.o, t.d⟩)
    else if w = 4 then (if isNm q then (if 64 ≤ t.o.headD 0 then .error (5, t.i) else .ok ⟨68 :: 3 :: S, t.i + 1, (t.o.headD 0 + 1) :: t.o.tail, t.d⟩) else .error (60, t.i))
    else if w = 5 then (if isNum q then (if 64 ≤ t.o.headD 0 then .error (5, t.i) else .ok ⟨68 :: 3 :: S, t.i + 1, (t.o.headD 0 + 1) :: t.o.tail, t.d⟩) else .error (60, t.i))
    else if w = 6 then (if isT ⟨#[44]⟩ q then .ok ⟨4 :: 6 :: S, t.i + 1, t.o, t.d⟩ else if isT ⟨#[125]⟩ q then .ok ⟨S, t.i + 1, t.o, t.d⟩ else .error (60, t.i))
    else if w = 7 then (if isT ⟨#[44]⟩ q then .ok ⟨5 :: 7 :: S, t.i + 1, t.o, t.d⟩ else if isT ⟨#[125]⟩ q then .ok ⟨S, t.i + 1, t.o, t.d⟩ else .error (60, t.i))
    else (if isT ⟨#[UInt8.ofNat (w - 10)]⟩ q then .ok ⟨S, t.i + 1, t.o, t.d⟩ else .error (60, t.i))
theorem stepM_eq (qs : List Q) (t : St) : stepM qs t = stepQ (qAt qs t.i) qs.length t := rfl
def costI (w : Nat) : Nat := if w = 0 ∨ w = 8 then 0 else if w = 4 ∨ w = 5 then 3 else 1
def costS : List Nat → Nat
  | [] => 0
  | w :: S => costI w + costS S
def n8 : List Nat → Nat
  | [] => 0
  | w :: S => (if w = 8 then 1 else 0) + n8 S
def vItems : List Nat := [1, 2, 3, 4, 5, 6, 7, 54, 68, 69, 70, 71, 72, 133]
def okS : List Nat → Prop
  | [] => True
  | w :: S => okS S ∧ costS (w :: S) ≤ 4 + 5 * n8 (w :: S) ∧ (w = 8 → costS S ≤ 3 + 5 * n8 S) ∧ (w = 6 ∨ w = 7 → ∃ S2, S = 8 :: S2) ∧ (w = 4 ∨ w = 5 → ∃ x S2, S = x :: 8 :: S2) ∧ (w = 0 → S = []) ∧ (w = 0 ∨ w = 8 ∨ w ∈ vItems)
def InvM (L : Nat) (t : St) : Prop := okS t.s ∧ n8 t.s = t.o.length ∧ t.o.length ≤ 17 ∧ t.i ≤ L
/-- It errs in none but these ways; else it goes on, in order. -/
theorem stepQ_inv {q : Q} {L : Nat} {t : St} (h : InvM L t) (hq : t.i < L ∨ q = q0) :
    match stepQ q L t with
    | .ok u => InvM L u ∧ t.i ≤ u.i
    | .error e => e.2 = t.i ∧ (e.1 = 5 ∨ e.1 = 60 ∨ e.1 = 61) := by
  obtain ⟨S0, i, o, d⟩ := t
  obtain ⟨h1, h2, h3, h4⟩ := h
  simp only at h1 h2 h3 h4 hq
  cases S0 with
  | nil => exact ⟨⟨h1, h2, h3, h4⟩, Nat.le_refl _⟩
  | cons w S =>
    obtain ⟨k1, k2, k3, k4, k45, k5, k6⟩ := h1
    have hpop : ∀ u : St, w ≠ 8 → u = ⟨S, i + 1, o, d⟩ → i < L → InvM L u ∧ i ≤ u.i := fun u hw hu hl => by
      subst hu
      refine ⟨⟨k1, ?_, h3, by show i + 1 ≤ L; omega⟩, by simp⟩
      simp only [n8, if_neg hw] at h2
      simpa using h2
    have hlt : ∀ f : Q → Bool, f q0 = false → f q = true → i < L := fun f h0 hf => by
      rcases hq with hq | hq
      · exact hq
      · rw [hq, h0] at hf; cases hf
    rcases k6 with rfl | rfl | hV
    · show match (if i < L then _ else _ : PR St) with | .ok u => _ | .error e => _
      by_cases hi : i < L
      · rw [if_pos hi]
        cases isT ⟨#[116, 121, 112, 101]⟩ q with
        | false => exact ⟨rfl, .inr (.inl rfl)⟩
        | true =>
          rw [if_pos rfl]
          by_cases hd : 256 ≤ d
          · rw [if_pos hd]; exact ⟨rfl, .inl rfl⟩
          · rw [if_neg hd]
            have hS := k5 rfl
            subst hS
            simp [n8] at h2
            refine ⟨⟨by simp [okS, costS, costI, n8, vItems], by simp [n8]; omega, h3, by show i + 1 ≤ L; omega⟩, by simp⟩
      · rw [if_neg hi]
        have hS := k5 rfl
        subst hS
        simp [n8] at h2
        exact ⟨⟨trivial, by simp [n8]; omega, h3, h4⟩, Nat.le_refl _⟩
    · show InvM L ⟨S, i, o.tail, d⟩ ∧ i ≤ i
      simp only [n8, if_pos] at h2
      refine ⟨⟨k1, ?_, ?_, h4⟩, Nat.le_refl _⟩
      · cases o with
        | nil => simp at h2
        | cons a o => simp at h2 ⊢; omega
      · simp only [List.length_tail]; omega
    · simp only [vItems, List.mem_cons, List.mem_nil_iff, or_false] at hV
      rcases hV with rfl | rfl | rfl | rfl | rfl | rfl | rfl | rfl | rfl | rfl | rfl | rfl | rfl | rfl
      · show match (if isNm q then _ else _ : PR St) with | .ok u => _ | .error e => _
        cases hb : isNm q with
        | false => exact ⟨rfl, .inr (.inl rfl)⟩
        | true => exact hpop _ (by decide) rfl (hlt isNm (by decide) hb)
      · show match (if isNum q then _ else _ : PR St) with | .ok u => _ | .error e => _
        cases hb : isNum q with
        | false => exact ⟨rfl, .inr (.inl rfl)⟩
        | true => exact hpop _ (by decide) rfl (hlt isNum (by decide) hb)
      · show match (if (beg q.t).1 = 0 then _ else _ : PR St) with | .ok u => _ | .error e => _
        by_cases hk : (beg q.t).1 = 0
        · rw [if_pos hk]; exact ⟨rfl, .inr (.inl rfl)⟩
        · rw [if_neg hk]
          by_cases ho : 16 < o.length
          · rw [if_pos ho]; exact ⟨rfl, .inr (.inr rfl)⟩
          · rw [if_neg ho]
            have hl : i < L := by
              rcases hq with hq | hq
              · exact hq
              · exact absurd (by rw [hq]; decide) hk
            simp only [costS, costI, n8] at k2 h2
            refine ⟨?_, by simp⟩
            generalize (beg q.t).1 = k at *
            have hc : costS S ≤ 3 + 5 * n8 S := by simp at k2; omega
            have h2' : n8 S = o.length := by simpa using h2
            unfold insideM
            by_cases h45 : k = 4 ∨ k = 5
            · simp only [if_pos h45]
              refine ⟨?_, ?_, by simp; omega, by simp; omega⟩
              · simp [okS, costS, costI, n8, vItems]
                repeat' apply And.intro
                all_goals first | exact k1 | omega
              · simp [n8]; omega
            simp only [if_neg h45]
            by_cases h6 : k = 6
            · simp only [if_pos h6]
              refine ⟨?_, ?_, by simp; omega, by simp; omega⟩
              · simp [okS, costS, costI, n8, vItems]
                repeat' apply And.intro
                all_goals first | exact k1 | omega
              · simp [n8]; omega
            simp only [if_neg h6]
            by_cases h7 : k = 7
            · simp only [if_pos h7]
              refine ⟨?_, ?_, by simp; omega, by simp; omega⟩
              · simp [okS, costS, costI, n8, vItems]
                repeat' apply And.intro
                all_goals first | exact k1 | omega
              · simp [n8]; omega
            simp only [if_neg h7]
            by_cases h8 : k = 8
            · simp only [if_pos h8]
              refine ⟨?_, ?_, by simp; omega, by simp; omega⟩
              · simp [okS, costS, costI, n8, vItems]
                repeat' apply And.intro
                all_goals first | exact k1 | omega
              · simp [n8]; omega
            simp only [if_neg h8]
            exact ⟨k1, by simpa using h2', h3, by simp; omega⟩
      · show match (if isNm q then _ else _ : PR St) with | .ok u => _ | .error e => _
        cases hb : isNm q with
        | false => exact ⟨rfl, .inr (.inl rfl)⟩
        | true =>
          rw [if_pos rfl]
          have hl := hlt isNm (by decide) hb
          by_cases hd : 64 ≤ o.headD 0
          · rw [if_pos hd]; exact ⟨rfl, .inl rfl⟩
          · rw [if_neg hd]
            simp only [costS, costI, n8] at k2 h2
            have hS1 : 1 ≤ n8 S := by obtain ⟨x4, S4, rfl⟩ := k45 (by simp); simp [n8]; omega
            simp at k2 h2
            refine ⟨⟨?_, ?_, ?_, by show i + 1 ≤ L; omega⟩, by simp⟩
            · simp [okS, costS, costI, n8, vItems]
              repeat' apply And.intro
              all_goals first | exact k1 | omega
            · cases o with
              | nil => exfalso; simp at h2; omega
              | cons a o => simp [n8] at h2 ⊢; omega
            · cases o with
              | nil => simp
              | cons a o => simp at h3 ⊢; omega
      · show match (if isNum q then _ else _ : PR St) with | .ok u => _ | .error e => _
        cases hb : isNum q with
        | false => exact ⟨rfl, .inr (.inl rfl)⟩
        | true =>
          rw [if_pos rfl]
          have hl := hlt isNum (by decide) hb
          by_cases hd : 64 ≤ o.headD 0
          · rw [if_pos hd]; exact ⟨rfl, .inl rfl⟩
          · rw [if_neg hd]
            simp only [costS, costI, n8] at k2 h2
            have hS1 : 1 ≤ n8 S := by obtain ⟨x4, S4, rfl⟩ := k45 (by simp); simp [n8]; omega
            simp at k2 h2
            refine ⟨⟨?_, ?_, ?_, by show i + 1 ≤ L; omega⟩, by simp⟩
            · simp [okS, costS, costI, n8, vItems]
              repeat' apply And.intro
              all_goals first | exact k1 | omega
            · cases o with
              | nil => exfalso; simp at h2; omega
              | cons a o => simp [n8] at h2 ⊢; omega
            · cases o with
              | nil => simp
              | cons a o => simp at h3 ⊢; omega
      · show match (if isT ⟨#[44]⟩ q then _ else _ : PR St) with | .ok u => _ | .error e => _
        cases hb : isT ⟨#[44]⟩ q with
        | true =>
          rw [if_pos rfl]
          have hl := hlt (isT ⟨#[44]⟩) (by decide) hb
          obtain ⟨S2, rfl⟩ := k4 (.inl rfl)
          have kk := k1.2.2.1 rfl
          simp only [costS, costI, n8] at k2 h2
          simp at k2 h2
          refine ⟨⟨?_, ?_, h3, by show i + 1 ≤ L; omega⟩, by simp⟩
          · simp only [okS] at k1 ⊢
            simp [costS, costI, n8, vItems] at k1 ⊢
            repeat' apply And.intro
            all_goals first | exact k1 | omega | exact k1.1 | exact k1.2.1
          · simp [n8]; omega
        | false =>
          rw [if_neg (by decide)]
          cases hb2 : isT ⟨#[125]⟩ q with
          | false => exact ⟨rfl, .inr (.inl rfl)⟩
          | true => exact hpop _ (by decide) rfl (hlt (isT ⟨#[125]⟩) (by decide) hb2)
      · show match (if isT ⟨#[44]⟩ q then _ else _ : PR St) with | .ok u => _ | .error e => _
        cases hb : isT ⟨#[44]⟩ q with
        | true =>
          rw [if_pos rfl]
          have hl := hlt (isT ⟨#[44]⟩) (by decide) hb
          obtain ⟨S2, rfl⟩ := k4 (.inr rfl)
          have kk := k1.2.2.1 rfl
          simp only [costS, costI, n8] at k2 h2
          simp at k2 h2
          refine ⟨⟨?_, ?_, h3, by show i + 1 ≤ L; omega⟩, by simp⟩
          · simp only [okS] at k1 ⊢
            simp [costS, costI, n8, vItems] at k1 ⊢
            repeat' apply And.intro
            all_goals first | exact k1 | omega | exact k1.1 | exact k1.2.1
          · simp [n8]; omega
        | false =>
          rw [if_neg (by decide)]
          cases hb2 : isT ⟨#[125]⟩ q with
          | false => exact ⟨rfl, .inr (.inl rfl)⟩
          | true => exact hpop _ (by decide) rfl (hlt (isT ⟨#[125]⟩) (by decide) hb2)
      · show match (if isT ⟨#[44]⟩ q then _ else _ : PR St) with | .ok u => _ | .error e => _
        cases hb : isT ⟨#[44]⟩ q with
        | false => exact ⟨rfl, .inr (.inl rfl)⟩
        | true => exact hpop _ (by decide) rfl (hlt (isT ⟨#[44]⟩) (by decide) hb)
      · show match (if isT ⟨#[58]⟩ q then _ else _ : PR St) with | .ok u => _ | .error e => _
        cases hb : isT ⟨#[58]⟩ q with
        | false => exact ⟨rfl, .inr (.inl rfl)⟩
        | true => exact hpop _ (by decide) rfl (hlt (isT ⟨#[58]⟩) (by decide) hb)
      · show match (if isT ⟨#[59]⟩ q then _ else _ : PR St) with | .ok u => _ | .error e => _
        cases hb : isT ⟨#[59]⟩ q with
        | false => exact ⟨rfl, .inr (.inl rfl)⟩
        | true => exact hpop _ (by decide) rfl (hlt (isT ⟨#[59]⟩) (by decide) hb)
      · show match (if isT ⟨#[60]⟩ q then _ else _ : PR St) with | .ok u => _ | .error e => _
        cases hb : isT ⟨#[60]⟩ q with
        | false => exact ⟨rfl, .inr (.inl rfl)⟩
        | true => exact hpop _ (by decide) rfl (hlt (isT ⟨#[60]⟩) (by decide) hb)
      · show match (if isT ⟨#[61]⟩ q then _ else _ : PR St) with | .ok u => _ | .error e => _
        cases hb : isT ⟨#[61]⟩ q with
        | false => exact ⟨rfl, .inr (.inl rfl)⟩
        | true => exact hpop _ (by decide) rfl (hlt (isT ⟨#[61]⟩) (by decide) hb)
      · show match (if isT ⟨#[62]⟩ q then _ else _ : PR St) with | .ok u => _ | .error e => _
        cases hb : isT ⟨#[62]⟩ q with
        | false => exact ⟨rfl, .inr (.inl rfl)⟩
        | true => exact hpop _ (by decide) rfl (hlt (isT ⟨#[62]⟩) (by decide) hb)
      · show match (if isT ⟨#[123]⟩ q then _ else _ : PR St) with | .ok u => _ | .error e => _
        cases hb : isT ⟨#[123]⟩ q with
        | false => exact ⟨rfl, .inr (.inl rfl)⟩
        | true => exact hpop _ (by decide) rfl (hlt (isT ⟨#[123]⟩) (by decide) hb)
end Go.Proofs.YtbfmoiaedopeiaaDoor

/- A text that ends too early: one token more. -/
namespace Go.Proofs.YtbfmoiaedopeiaaDoor
set_option linter.unusedVariables false

section
variable {qs : List Q}
theorem run_nil : ∀ (n : Nat) (t : St), t.s = [] → runM qs n t = .ok t
  | 0, t, h => rfl
  | n + 1, t, h => by
    have hs : stepM qs t = .ok t := by unfold stepM; rw [h]
    rw [runM, hs, bnd_ok]
    exact run_nil n t h
theorem run_err : ∀ (n : Nat) (t : St) (e : Nat × Nat), runM qs n t = .error e → ∃ m u, runM qs m t = .ok u ∧ stepM qs u = .error e
  | 0, t, e, h => by cases h
  | n + 1, t, e, h => by
    rw [runM] at h
    cases hs : stepM qs t with
    | error x =>
      rw [hs] at h
      injection h with h
      subst h
      exact ⟨0, t, rfl, hs⟩
    | ok u =>
      rw [hs, bnd_ok] at h
      obtain ⟨m, v, h1, h2⟩ := run_err n u e h
      exact ⟨m + 1, v, by rw [runM, hs, bnd_ok, h1], h2⟩
theorem ends_det {t : St} {e : Nat × Nat} {r : PR St} (h : Ends qs t (.error e)) (k : Ends qs t r) (hr : ∀ u, r = .ok u → u.s = []) : r = .error e := by
  obtain ⟨n, hn⟩ := h
  obtain ⟨m, hm⟩ := k
  have h1 := runM_add (qs := qs) n m t
  have h2 := runM_add (qs := qs) m n t
  rw [hn, bnd_err] at h1
  rw [hm, Nat.add_comm, h1] at h2
  cases r with
  | error x => exact h2.symm
  | ok u =>
    rw [bnd_ok, run_nil n u (hr u rfl)] at h2
    cases h2
theorem src_of {e : Nat × Nat} (h : Ends qs ⟨[0], 0, [], 0⟩ (.error e)) : srcP qs 257 [] 0 = .error e := by
  obtain ⟨t, ht, hE⟩ := src_m (qs := qs) 257 [] 0 rfl (Nat.zero_le _)
  have := ends_det h hE (fun u hu => by
    cases hs : srcP qs 257 [] 0 with
    | error x => rw [hs] at hu; cases hu
    | ok D => rw [hs] at hu; injection hu with hu; rw [← hu]; exact ht)
  cases hs : srcP qs 257 [] 0 with
  | error x => rw [hs] at this; injection this with this; rw [this]
  | ok D => rw [hs] at this; cases this
theorem src_err {e : Nat × Nat} (h : srcP qs 257 [] 0 = .error e) : Ends qs ⟨[0], 0, [], 0⟩ (.error e) := by
  obtain ⟨t, ht, hE⟩ := src_m (qs := qs) 257 [] 0 rfl (Nat.zero_le _)
  rw [h] at hE
  exact hE
theorem q_lt {i : Nat} (h : i ≤ qs.length) : i < qs.length ∨ qAt qs i = q0 := by
  rcases Nat.lt_or_ge i qs.length with h1 | h1
  · exact .inl h1
  · exact .inr (by unfold qAt; simp [List.getD, h1])
theorem run_inv : ∀ (n : Nat) (t u : St), InvM qs.length t → runM qs n t = .ok u → InvM qs.length u ∧ t.i ≤ u.i
  | 0, t, u, h, hr => by injection hr with hr; subst hr; exact ⟨h, Nat.le_refl _⟩
  | n + 1, t, u, h, hr => by
    rw [runM] at hr
    have hk := stepQ_inv h (q_lt h.2.2.2)
    rw [← stepM_eq] at hk
    cases hs : stepM qs t with
    | error x => rw [hs] at hr; cases hr
    | ok v =>
      rw [hs] at hk hr
      rw [bnd_ok] at hr
      have ih := run_inv n v u hk.1 hr
      exact ⟨ih.1, Nat.le_trans hk.2 ih.2⟩
theorem inv0 : InvM qs.length ⟨[0], 0, [], 0⟩ := ⟨by simp [okS, costS, costI, n8], rfl, by simp, Nat.zero_le _⟩
theorem qAt_app (q : Q) {i : Nat} (h : i < qs.length) : qAt (qs ++ [q]) i = qAt qs i := by unfold qAt; simp [List.getD, List.getElem?_append_left h]
theorem qAt_last (q : Q) : qAt (qs ++ [q]) qs.length = q := by unfold qAt; simp [List.getD]
/-- With no token at hand nothing but a closing or the whole's end goes on. -/
theorem step_end {L : Nat} {t u : St} {w : Nat} {S : List Nat} (hI : InvM L t) (hs : t.s = w :: S) (hi : t.i = L) (h : stepQ q0 L t = .ok u) : w = 8 ∧ u = ⟨S, t.i, t.o.tail, t.d⟩ ∨ w = 0 ∧ u.s = [] := by
  obtain ⟨S0, i, o, d⟩ := t
  simp only at hs hi
  subst hs
  obtain ⟨k1, k2, k3, k4, k45, k5, k6⟩ := hI.1
  rcases k6 with rfl | rfl | hV
  · right
    refine ⟨rfl, ?_⟩
    have h2 : stepQ q0 L ⟨0 :: S, i, o, d⟩ = (if i < L then (if isT ⟨#[116, 121, 112, 101]⟩ q0 then (if 256 ≤ d then .error (5, i) else .ok ⟨1 :: 71 :: 3 :: 69 :: 0 :: S, i + 1, o, d + 1⟩) else .error (60, i)) else .ok ⟨S, i, o, d⟩) := rfl
    rw [h2, if_neg (by omega)] at h
    injection h with h
    rw [← h]
    exact k5 rfl
  · left
    injection h with h
    exact ⟨rfl, h.symm⟩
  · exfalso
    simp only [vItems, List.mem_cons, List.mem_nil_iff, or_false] at hV
    rcases hV with rfl | rfl | rfl | rfl | rfl | rfl | rfl | rfl | rfl | rfl | rfl | rfl | rfl | rfl <;> exact absurd h (by intro h; cases h)
/-- It ends too early; so many tokens are wanting. -/
def Early (qs : List Q) (c : Nat) : Prop := ∃ m u, runM qs m ⟨[0], 0, [], 0⟩ = .ok u ∧ stepM qs u = .error (60, qs.length) ∧ costS u.s = c
theorem Early.of (h : srcP qs 257 [] 0 = .error (60, qs.length)) : ∃ c, c ≤ 89 ∧ Early qs c := by
  obtain ⟨n, hn⟩ := src_err h
  obtain ⟨m, u, h1, h2⟩ := run_err n _ _ hn
  have hI := (run_inv m _ u inv0 h1).1
  refine ⟨costS u.s, ?_, m, u, h1, h2, rfl⟩
  have h3 := hI.2.2.1
  have h4 := hI.2.1
  cases hs : u.s with
  | nil => simp [costS]
  | cons w S =>
    have h5 := hI.1
    rw [hs] at h5 h4
    have := h5.2.1
    omega
theorem Early.state {c : Nat} (h : Early qs c) : ∃ m w S o d, runM qs m ⟨[0], 0, [], 0⟩ = .ok ⟨w :: S, qs.length, o, d⟩ ∧ w ∈ vItems ∧ costI w + costS S = c ∧ InvM qs.length ⟨w :: S, qs.length, o, d⟩ := by
  obtain ⟨m, u, h1, h2, h3⟩ := h
  have hI := (run_inv m _ u inv0 h1).1
  have hk := stepQ_inv hI (q_lt hI.2.2.2)
  rw [← stepM_eq, h2] at hk
  obtain ⟨S0, i, o, d⟩ := u
  have hi : qs.length = i := hk.1
  subst hi
  cases S0 with
  | nil => cases h2
  | cons w S =>
    refine ⟨m, w, S, o, d, h1, ?_, h3, hI⟩
    rcases hI.1.2.2.2.2.2.2 with rfl | rfl | hV
    · have h4 : stepM qs ⟨0 :: S, qs.length, o, d⟩ = (if qs.length < qs.length then (if isT ⟨#[116, 121, 112, 101]⟩ (qAt qs qs.length) then (if 256 ≤ d then .error (5, qs.length) else .ok ⟨1 :: 71 :: 3 :: 69 :: 0 :: S, qs.length + 1, o, d + 1⟩) else .error (60, qs.length)) else .ok ⟨S, qs.length, o, d⟩) := rfl
      rw [h4, if_neg (Nat.lt_irrefl _)] at h2
      cases h2
    · cases h2
    · exact hV
/-- What was run is run so with a token more. -/
theorem runM_app (q : Q) : ∀ (n : Nat) (t u : St), InvM qs.length t → runM qs n t = .ok u → u.s ≠ [] → runM (qs ++ [q]) n t = .ok u
  | 0, t, u, h, hr, hn => hr
  | n + 1, t, u, h, hr, hn => by
    rw [runM] at hr ⊢
    have hk := stepQ_inv h (q_lt h.2.2.2)
    rw [← stepM_eq] at hk
    cases hs : stepM qs t with
    | error x => rw [hs] at hr; cases hr
    | ok v =>
      rw [hs] at hk hr
      rw [bnd_ok] at hr
      have hs2 : stepM (qs ++ [q]) t = .ok v := by
        cases ht : t.s with
        | nil =>
          have e1 : stepM qs t = .ok t := by unfold stepM; rw [ht]
          rw [e1] at hs
          injection hs with hs
          subst hs
          rw [run_nil n t ht] at hr
          injection hr with hr
          subst hr
          exact absurd ht hn
        | cons w S =>
          rcases Nat.lt_or_ge t.i qs.length with hl | hl
          · rw [stepM_eq] at hs ⊢
            rw [qAt_app q hl]
            have hlen : ∀ (p : Q), stepQ p (qs ++ [q]).length t = stepQ p qs.length t := fun p => by
              unfold stepQ
              rw [ht]
              simp only [List.length_append, List.length_cons, List.length_nil]
              rw [if_pos (show t.i < qs.length + (0 + 1) by omega), if_pos hl]
            rw [hlen]
            exact hs
          · have hi : t.i = qs.length := by have := h.2.2.2; omega
            have hq : qAt qs t.i = q0 := (q_lt h.2.2.2).resolve_left (by omega)
            rw [stepM_eq, hq] at hs
            rcases step_end h ht hi hs with ⟨rfl, rfl⟩ | ⟨rfl, hv⟩
            · unfold stepM; rw [ht]; rfl
            · rw [run_nil n v hv] at hr
              injection hr with hr
              subst hr
              exact absurd hv hn
      rw [hs2, bnd_ok]
      exact runM_app q n v u hk.1 hr hn
end
/-- The tokens that may be put. -/
def toks : List Q := [⟨3, ⟨#[59]⟩, 0⟩, ⟨3, ⟨#[125]⟩, 0⟩, ⟨3, ⟨#[62]⟩, 0⟩, ⟨1, ⟨#[117, 56]⟩, 0⟩, ⟨1, ⟨#[122, 122]⟩, 0⟩, ⟨2, ⟨#[]⟩, 1⟩, ⟨3, ⟨#[61]⟩, 0⟩, ⟨3, ⟨#[58]⟩, 0⟩, ⟨3, ⟨#[44]⟩, 0⟩, ⟨3, ⟨#[60]⟩, 0⟩, ⟨3, ⟨#[123]⟩, 0⟩]
/-- Which of them is put. -/
def accM (w : Nat) : Nat := if w = 6 then 1 else if w = 7 then 1 else if w = 72 then 2 else if w = 3 then 3 else if w = 1 then 4 else if w = 4 then 4 else if w = 2 then 5 else if w = 5 then 5 else if w = 71 then 6 else if w = 68 then 7 else if w = 54 then 8 else if w = 70 then 9 else if w = 133 then 10 else 0
theorem bad_tok {w : Nat} (hw : w ∈ vItems) (j : Nat) (hj : j < accM w) (L i : Nat) (S o : List Nat) (d : Nat) : stepQ (toks.getD j q0) L ⟨w :: S, i, o, d⟩ = .error (60, i) := by
  simp only [vItems, List.mem_cons, List.mem_nil_iff, or_false] at hw
  rcases hw with rfl | rfl | rfl | rfl | rfl | rfl | rfl | rfl | rfl | rfl | rfl | rfl | rfl | rfl
  · have hj2 : j = 0 ∨ j = 1 ∨ j = 2 ∨ j = 3 := by have : accM 1 = 4 := rfl; omega
    rcases hj2 with rfl | rfl | rfl | rfl <;> rfl
  · have hj2 : j = 0 ∨ j = 1 ∨ j = 2 ∨ j = 3 ∨ j = 4 := by have : accM 2 = 5 := rfl; omega
    rcases hj2 with rfl | rfl | rfl | rfl | rfl <;> rfl
  · have hj2 : j = 0 ∨ j = 1 ∨ j = 2 := by have : accM 3 = 3 := rfl; omega
    rcases hj2 with rfl | rfl | rfl <;> rfl
  · have hj2 : j = 0 ∨ j = 1 ∨ j = 2 ∨ j = 3 := by have : accM 4 = 4 := rfl; omega
    rcases hj2 with rfl | rfl | rfl | rfl <;> rfl
  · have hj2 : j = 0 ∨ j = 1 ∨ j = 2 ∨ j = 3 ∨ j = 4 := by have : accM 5 = 5 := rfl; omega
    rcases hj2 with rfl | rfl | rfl | rfl | rfl <;> rfl
  · obtain rfl : j = 0 := by have : accM 6 = 1 := rfl; omega
    rfl
  · obtain rfl : j = 0 := by have : accM 7 = 1 := rfl; omega
    rfl
  · have hj2 : j = 0 ∨ j = 1 ∨ j = 2 ∨ j = 3 ∨ j = 4 ∨ j = 5 ∨ j = 6 ∨ j = 7 := by have : accM 54 = 8 := rfl; omega
    rcases hj2 with rfl | rfl | rfl | rfl | rfl | rfl | rfl | rfl <;> rfl
  · have hj2 : j = 0 ∨ j = 1 ∨ j = 2 ∨ j = 3 ∨ j = 4 ∨ j = 5 ∨ j = 6 := by have : accM 68 = 7 := rfl; omega
    rcases hj2 with rfl | rfl | rfl | rfl | rfl | rfl | rfl <;> rfl
  · exact absurd (show j < 0 from hj) (Nat.not_lt_zero j)
  · have hj2 : j = 0 ∨ j = 1 ∨ j = 2 ∨ j = 3 ∨ j = 4 ∨ j = 5 ∨ j = 6 ∨ j = 7 ∨ j = 8 := by have : accM 70 = 9 := rfl; omega
    rcases hj2 with rfl | rfl | rfl | rfl | rfl | rfl | rfl | rfl | rfl <;> rfl
  · have hj2 : j = 0 ∨ j = 1 ∨ j = 2 ∨ j = 3 ∨ j = 4 ∨ j = 5 := by have : accM 71 = 6 := rfl; omega
    rcases hj2 with rfl | rfl | rfl | rfl | rfl | rfl <;> rfl
  · have hj2 : j = 0 ∨ j = 1 := by have : accM 72 = 2 := rfl; omega
    rcases hj2 with rfl | rfl <;> rfl
  · have hj2 : j = 0 ∨ j = 1 ∨ j = 2 ∨ j = 3 ∨ j = 4 ∨ j = 5 ∨ j = 6 ∨ j = 7 ∨ j = 8 ∨ j = 9 := by have : accM 133 = 10 := rfl; omega
    rcases hj2 with rfl | rfl | rfl | rfl | rfl | rfl | rfl | rfl | rfl | rfl <;> rfl
theorem good_tok {w : Nat} (hw : w ∈ vItems) (L i : Nat) (S o : List Nat) (d : Nat) : (∃ c, stepQ (toks.getD (accM w) q0) L ⟨w :: S, i, o, d⟩ = .error (c, i) ∧ (c = 5 ∨ c = 61)) ∨ ∃ v, stepQ (toks.getD (accM w) q0) L ⟨w :: S, i, o, d⟩ = .ok v ∧ v.i = i + 1 ∧ costS v.s + 1 = costI w + costS S := by
  simp only [vItems, List.mem_cons, List.mem_nil_iff, or_false] at hw
  rcases hw with rfl | rfl | rfl | rfl | rfl | rfl | rfl | rfl | rfl | rfl | rfl | rfl | rfl | rfl
  · exact .inr ⟨⟨S, i + 1, o, d⟩, rfl, rfl, by simp [costI]; omega⟩
  · exact .inr ⟨⟨S, i + 1, o, d⟩, rfl, rfl, by simp [costI]; omega⟩
  · have h : stepQ (toks.getD (accM 3) q0) L ⟨3 :: S, i, o, d⟩ = (if 16 < o.length then .error (61, i) else .ok ⟨S, i + 1, o, d⟩) := rfl
    by_cases ho : 16 < o.length
    · rw [if_pos ho] at h; exact .inl ⟨61, h, .inr rfl⟩
    · rw [if_neg ho] at h; exact .inr ⟨_, h, rfl, by simp [costI]; omega⟩
  · have h : stepQ (toks.getD (accM 4) q0) L ⟨4 :: S, i, o, d⟩ = (if 64 ≤ o.headD 0 then .error (5, i) else .ok ⟨68 :: 3 :: S, i + 1, (o.headD 0 + 1) :: o.tail, d⟩) := rfl
    by_cases ho : 64 ≤ o.headD 0
    · rw [if_pos ho] at h; exact .inl ⟨5, h, .inl rfl⟩
    · rw [if_neg ho] at h; exact .inr ⟨_, h, rfl, by simp [costS, costI]; omega⟩
  · have h : stepQ (toks.getD (accM 5) q0) L ⟨5 :: S, i, o, d⟩ = (if 64 ≤ o.headD 0 then .error (5, i) else .ok ⟨68 :: 3 :: S, i + 1, (o.headD 0 + 1) :: o.tail, d⟩) := rfl
    by_cases ho : 64 ≤ o.headD 0
    · rw [if_pos ho] at h; exact .inl ⟨5, h, .inl rfl⟩
    · rw [if_neg ho] at h; exact .inr ⟨_, h, rfl, by simp [costS, costI]; omega⟩
  · exact .inr ⟨⟨S, i + 1, o, d⟩, rfl, rfl, by simp [costI]; omega⟩
  · exact .inr ⟨⟨S, i + 1, o, d⟩, rfl, rfl, by simp [costI]; omega⟩
  · exact .inr ⟨⟨S, i + 1, o, d⟩, rfl, rfl, by simp [costI]; omega⟩
  · exact .inr ⟨⟨S, i + 1, o, d⟩, rfl, rfl, by simp [costI]; omega⟩
  · exact .inr ⟨⟨S, i + 1, o, d⟩, rfl, rfl, by simp [costI]; omega⟩
  · exact .inr ⟨⟨S, i + 1, o, d⟩, rfl, rfl, by simp [costI]; omega⟩
  · exact .inr ⟨⟨S, i + 1, o, d⟩, rfl, rfl, by simp [costI]; omega⟩
  · exact .inr ⟨⟨S, i + 1, o, d⟩, rfl, rfl, by simp [costI]; omega⟩
  · exact .inr ⟨⟨S, i + 1, o, d⟩, rfl, rfl, by simp [costI]; omega⟩
theorem acc_lt {w : Nat} (hw : w ∈ vItems) : accM w < 11 := by
  simp only [vItems, List.mem_cons, List.mem_nil_iff, or_false] at hw
  rcases hw with rfl | rfl | rfl | rfl | rfl | rfl | rfl | rfl | rfl | rfl | rfl | rfl | rfl | rfl <;> decide
section
variable {qs : List Q}
theorem run_tail : ∀ (k : Nat) (v u : St), InvM qs.length v → v.i = qs.length → runM qs k v = .ok u → u.s ≠ [] → costS u.s = costS v.s
  | 0, v, u, h, hi, hr, hn => by injection hr with hr; subst hr; rfl
  | k + 1, v, u, h, hi, hr, hn => by
    rw [runM] at hr
    have hk := stepQ_inv h (q_lt h.2.2.2)
    rw [← stepM_eq] at hk
    cases hs : stepM qs v with
    | error x => rw [hs] at hr; cases hr
    | ok x =>
      rw [hs] at hk hr
      rw [bnd_ok] at hr
      cases ht : v.s with
      | nil =>
        have e1 : stepM qs v = .ok v := by unfold stepM; rw [ht]
        rw [e1] at hs
        injection hs with hs
        subst hs
        rw [run_nil k v ht] at hr
        injection hr with hr
        subst hr
        exact absurd ht hn
      | cons w S =>
        have hq : qAt qs v.i = q0 := (q_lt h.2.2.2).resolve_left (by omega)
        rw [stepM_eq, hq] at hs
        rcases step_end h ht hi hs with ⟨rfl, rfl⟩ | ⟨rfl, hv⟩
        · have := run_tail k _ u hk.1 hi hr hn
          rw [this]
          simp [costS, costI]
        · rw [run_nil k x hv] at hr
          injection hr with hr
          subst hr
          exact absurd hv hn
theorem ends_tail {t v : St} {e : Nat × Nat} (h : Ends qs t (.ok v)) (k : Ends qs t (.error e)) : Ends qs v (.error e) := by
  obtain ⟨m, hm⟩ := h
  obtain ⟨n, hn⟩ := k
  rcases Nat.lt_or_ge n m with h1 | h1
  · obtain ⟨x, rfl⟩ : ∃ x, m = n + x := ⟨m - n, by omega⟩
    rw [runM_add, hn, bnd_err] at hm
    cases hm
  · obtain ⟨x, rfl⟩ : ∃ x, n = m + x := ⟨n - m, by omega⟩
    rw [runM_add, hm, bnd_ok] at hn
    exact ⟨x, hn⟩
/-- One token more: which is put, and what comes of it. -/
theorem go_on {c : Nat} (h : Early qs c) : ∃ a, a < 11 ∧ (∀ j, j < a → srcP (qs ++ [toks.getD j q0]) 257 [] 0 = .error (60, qs.length)) ∧
    ((∃ D, srcP (qs ++ [toks.getD a q0]) 257 [] 0 = .ok D) ∨ (∃ e, srcP (qs ++ [toks.getD a q0]) 257 [] 0 = .error e ∧ (e.1 = 5 ∨ e.1 = 61)) ∨ (srcP (qs ++ [toks.getD a q0]) 257 [] 0 = .error (60, qs.length + 1) ∧ ∃ c', c' < c ∧ Early (qs ++ [toks.getD a q0]) c')) := by
  obtain ⟨m, w, S, o, d, h1, hw, hc, hI⟩ := h.state
  have hrun : ∀ q, runM (qs ++ [q]) m ⟨[0], 0, [], 0⟩ = .ok ⟨w :: S, qs.length, o, d⟩ := fun q => runM_app q m _ _ inv0 h1 (by simp)
  have hstep : ∀ q, stepM (qs ++ [q]) ⟨w :: S, qs.length, o, d⟩ = stepQ q (qs ++ [q]).length ⟨w :: S, qs.length, o, d⟩ := fun q => by rw [stepM_eq, qAt_last]
  refine ⟨accM w, acc_lt hw, fun j hj => ?_, ?_⟩
  · exact src_of (Ends.trans ⟨m, hrun _⟩ (.stop (by rw [hstep, bad_tok hw j hj])))
  · rcases good_tok hw (qs ++ [toks.getD (accM w) q0]).length qs.length S o d with ⟨x, hx, hx2⟩ | ⟨v, hv, hvi, hvc⟩
    · right; left
      exact ⟨(x, qs.length), src_of (Ends.trans ⟨m, hrun _⟩ (.stop (by rw [hstep, hx]))), hx2⟩
    · cases hr : srcP (qs ++ [toks.getD (accM w) q0]) 257 [] 0 with
      | ok D => exact .inl ⟨D, rfl⟩
      | error e =>
        right
        have hE := src_err hr
        have hv0 : Ends (qs ++ [toks.getD (accM w) q0]) ⟨[0], 0, [], 0⟩ (.ok v) := Ends.trans ⟨m, hrun _⟩ (.step (by rw [hstep, hv]) (.refl _))
        obtain ⟨n, hn⟩ := ends_tail hv0 hE
        obtain ⟨k, u, hk, hu⟩ := run_err n v e hn
        obtain ⟨n0, hn0⟩ := hv0
        have hIv := (run_inv n0 _ v inv0 hn0).1
        have hIu := run_inv k v u hIv hk
        have hlen : (qs ++ [toks.getD (accM w) q0]).length = qs.length + 1 := by simp
        have hui : u.i = qs.length + 1 := by
          have h3 := hIu.1.2.2.2
          have h4 := hIu.2
          rw [hlen] at h3
          omega
        have hku := stepQ_inv hIu.1 (q_lt hIu.1.2.2.2)
        rw [← stepM_eq, hu] at hku
        obtain ⟨e1, e2⟩ := e
        obtain ⟨he2, he1⟩ := hku
        simp only at he2 he1
        rw [hui] at he2
        subst he2
        rcases he1 with rfl | rfl | rfl
        · exact .inl ⟨_, rfl, .inl rfl⟩
        · right
          refine ⟨rfl, costS u.s, ?_, n0 + k, u, by rw [runM_add, hn0, bnd_ok, hk], by rw [hlen]; exact hu, rfl⟩
          have hne : u.s ≠ [] := fun hz => by
            have : stepM (qs ++ [toks.getD (accM w) q0]) u = .ok u := by unfold stepM; rw [hz]
            rw [this] at hu
            cases hu
          have := run_tail k v u hIv (by rw [hvi, hlen]) hk hne
          omega
        · exact .inl ⟨_, rfl, .inr rfl⟩
end
end Go.Proofs.YtbfmoiaedopeiaaDoor

/- A text that ends too early goes on: texts. -/
namespace Go.Proofs.YtbfmoiaedopeiaaDoor
set_option linter.unusedVariables false

theorem app_apps (t : Tk) (ts : List Tk) (R : Cu) : app t (apps ts R) = apps (t :: ts) R := by
  unfold app apps
  by_cases h0 : R.2.1 = 0
  · simp [h0]
  · simp [h0]
theorem cut_nl (l : List UInt8) (p : Nat) : (cut l p).2.1 = 0 → ∀ X, cut (l ++ 10 :: X) p = apps (cut l p).1 (cut X (p + l.length + 1)) := by
  have h10 : (10 : UInt8).toNat = 10 := rfl
  refine cut_ind (fun l p => (cut l p).2.1 = 0 → ∀ X, cut (l ++ 10 :: X) p = apps (cut l p).1 (cut X (p + l.length + 1))) ?_ ?_ ?_ ?_ ?_ ?_ l p
  · intro p _ X
    rw [List.nil_append, cut_blank X p (blank_10 h10), cut_nil, apps_nil]
    rfl
  · intro c r p hb ih h X
    rw [cut_blank r p hb] at h ⊢
    rw [List.cons_append, cut_blank _ p hb, ih h X, List.length_cons]
    congr 2; omega
  · intro c r p hs h2 h X
    rw [cut_end p hs h2, apps_nil, List.cons_append, cut_rem p hs h2 h10, List.length_cons]
    congr 1; omega
  · intro c r d s p hs h2 h3 ih h X
    rw [cut_rem p hs h2 h3] at h ⊢
    have e : c :: (r ++ d :: s) ++ 10 :: X = c :: (r ++ d :: (s ++ 10 :: X)) := by simp
    rw [e, cut_rem p hs h2 h3, ih h X]
    congr 2; simp; omega
  · intro c r p hb hs he h
    rw [cut_bad r p hb hs he] at h
    exact absurd h he
  · intro w s p hw ho ih h X
    rw [cut_word hw ho p] at h ⊢
    obtain ⟨h1, h2⟩ := app_ok h
    have ho2 : Off w (s ++ 10 :: X) := ho.app (by decide) X
    rw [List.append_assoc, cut_word hw ho2 p, ih h1 X, h2]
    have e : p + w.length + s.length + 1 = p + (w ++ s).length + 1 := by simp; omega
    rw [e]
    exact app_apps _ _ _
theorem cut_a (l : List UInt8) (p : Nat) : ∀ t ∈ (cut l p).1, t.a < p + l.length := by
  refine cut_ind (fun l p => ∀ t ∈ (cut l p).1, t.a < p + l.length) ?_ ?_ ?_ ?_ ?_ ?_ l p
  · intro p; simp [cut_nil]
  · intro c r p hb ih; rw [cut_blank r p hb]; intro t ht; have := ih t ht; simp; omega
  · intro c r p hs h2; rw [cut_end p hs h2]; simp
  · intro c r d s p hs h2 h3 ih; rw [cut_rem p hs h2 h3]; intro t ht; have := ih t ht; simp; omega
  · intro c r p hb hs he; rw [cut_bad r p hb hs he]; simp
  · intro w s p hw ho ih
    rw [cut_word hw ho p]
    have hp := hw.pos
    unfold app
    split
    · intro t ht
      simp only [List.mem_cons] at ht
      rcases ht with rfl | ht
      · rw [(tkW_is hw p).2.2.2.1]; simp; omega
      · have := ih t ht; simp; omega
    · intro t ht
      have := ih t ht; simp; omega
def mores : List (List UInt8) := [[59], [125], [62], [117, 56], [122, 122], [49], [61], [58], [44], [60], [123]]
theorem mores_tw (j : Nat) (hj : j < 11) : Tw (mores.getD j []) ∧ (∀ p, core (tkW (mores.getD j []) p) = toks.getD j q0) ∧ (mores.getD j []).length ≤ 2 := by
  have h : j = 0 ∨ j = 1 ∨ j = 2 ∨ j = 3 ∨ j = 4 ∨ j = 5 ∨ j = 6 ∨ j = 7 ∨ j = 8 ∨ j = 9 ∨ j = 10 := by omega
  rcases h with rfl | rfl | rfl | rfl | rfl | rfl | rfl | rfl | rfl | rfl | rfl
  all_goals exact ⟨⟨_, _, rfl, by decide, by decide, by decide⟩, fun p => rfl, by decide⟩
/-- The text with a line's end and a token more. -/
def nx (s : ByteArray) (j : Nat) : ByteArray := ⟨(s.data.toList ++ 10 :: mores.getD j []).toArray⟩
theorem nx_size (s : ByteArray) (j : Nat) : (nx s j).size = s.size + 1 + (mores.getD j []).length := by
  rw [Lib.size_eq, Lib.size_eq, nx]; simp; omega
theorem nx_cut {s : ByteArray} {j : Nat} (hj : j < 11) (hs : s.size ≤ 60000) (h : (cutT s).2.1 = 0) : cutT (nx s j) = ((cutT s).1 ++ [tkW (mores.getD j []) (s.size + 1)], 0, 0) := by
  obtain ⟨h1, h2, h3⟩ := mores_tw j hj
  have hn := nx_size s j
  unfold cutT at h ⊢
  rw [if_neg (by omega)] at h ⊢
  rw [if_neg (by omega)]
  have e : (nx s j).data.toList = s.data.toList ++ 10 :: mores.getD j [] := by simp [nx]
  rw [e, cut_nl _ 0 h, cut_alone h1]
  have e2 : 0 + s.data.toList.length + 1 = s.size + 1 := by rw [Lib.size_eq]; omega
  rw [e2]
  simp [apps]
def TE (s : ByteArray) (c : Nat) : Prop := (cutT s).2.1 = 0 ∧ Early ((cutT s).1.map core) c
theorem src_le {qs : List Q} {e : Nat × Nat} (h : srcP qs 257 [] 0 = .error e) : e.2 ≤ qs.length ∧ (e.1 = 5 ∨ e.1 = 60 ∨ e.1 = 61) := by
  obtain ⟨n, hn⟩ := src_err h
  obtain ⟨m, u, h1, h2⟩ := run_err n _ _ hn
  have hI := (run_inv m _ u inv0 h1).1
  have hk := stepQ_inv hI (q_lt hI.2.2.2)
  rw [← stepM_eq, h2] at hk
  exact ⟨by rw [hk.1]; exact hI.2.2.2, hk.2⟩
theorem plc_lt {s : ByteArray} (h : (cutT s).2.1 = 0) {k : Nat} (hk : k < (cutT s).1.length) : plc (cutT s).1 s.size k < s.size := by
  unfold plc tkAt
  rw [if_pos hk]
  have hm : (cutT s).1.getD k tk0 ∈ (cutT s).1 := by rw [List.getD_eq_getElem?_getD, List.getElem?_eq_getElem hk]; exact List.getElem_mem hk
  unfold cutT at h hm ⊢
  split at h
  · simp at h
  · rename_i hs
    rw [if_neg hs] at hm ⊢
    have := cut_a _ _ _ hm
    rw [← Lib.size_eq] at this
    omega
theorem te_of {s : ByteArray} (h : (prsT s).2 = (60, s.size)) : ∃ c, c ≤ 89 ∧ TE s c := by
  have hc : (cutT s).2.1 = 0 := by
    by_cases h0 : (cutT s).2.1 = 0
    · exact h0
    · rw [prs_bad h0] at h
      have h1 : (cutT s).2.1 = 60 := congrArg Prod.fst h
      unfold cutT at h1
      split at h1
      · simp at h1
      · have := (cut_form s.data.toList 0).1 (by rw [h1]; decide)
        omega
  cases hr : srcP ((cutT s).1.map core) 257 [] 0 with
  | ok D => rw [prs_ok hc hr] at h; cases h
  | error e =>
    rw [prs_err hc hr] at h
    obtain ⟨e1, e2⟩ := e
    have h1 : e1 = 60 := congrArg Prod.fst h
    have h2 : plc (cutT s).1 s.size e2 = s.size := congrArg Prod.snd h
    have h3 := (src_le hr).1
    rw [List.length_map] at h3
    have h4 : e2 = (cutT s).1.length := by
      rcases Nat.lt_or_ge e2 (cutT s).1.length with hl | hl
      · have := plc_lt hc hl; omega
      · have h5 : e2 ≤ (cutT s).1.length := h3
        omega
    subst h1 h4
    obtain ⟨c, hc1, hc2⟩ := Early.of (qs := (cutT s).1.map core) (by rw [hr, List.length_map])
    exact ⟨c, hc1, hc, hc2⟩
/-- One token more, in texts. -/
theorem te_on {s : ByteArray} {c : Nat} (h : TE s c) (hs : s.size ≤ 60000) : ∃ a, a < 11 ∧ (∀ j, j < a → (prsT (nx s j)).2 = (60, s.size + 1)) ∧
    ((prsT (nx s a)).2.1 = 0 ∨ (prsT (nx s a)).2.1 = 61 ∨ (prsT (nx s a)).2.1 = 5 ∨ ((prsT (nx s a)).2 = (60, (nx s a).size) ∧ ∃ c', c' < c ∧ TE (nx s a) c')) := by
  obtain ⟨a, ha, h1, h2⟩ := go_on h.2
  have hx : ∀ j, j < 11 → ((cutT (nx s j)).1.map core = (cutT s).1.map core ++ [toks.getD j q0] ∧ (cutT (nx s j)).2.1 = 0) := fun j hj => by
    rw [nx_cut hj hs h.1]
    exact ⟨by rw [List.map_append, List.map_cons, List.map_nil, (mores_tw j hj).2.1], rfl⟩
  refine ⟨a, ha, fun j hj => ?_, ?_⟩
  · have hj11 : j < 11 := by omega
    have e := h1 j hj
    rw [← (hx j hj11).1] at e
    rw [prs_err (hx j hj11).2 e]
    have : plc (cutT (nx s j)).1 (nx s j).size ((cutT s).1.map core).length = s.size + 1 := by
      rw [nx_cut hj11 hs h.1, List.length_map]
      unfold plc tkAt
      rw [if_pos (by simp)]
      have hk := (tkW_is (mores_tw j hj11).1 (s.size + 1)).2.2.2.1
      simpa [List.getD] using hk
    rw [this]
  · rw [← (hx a ha).1] at h2
    rcases h2 with ⟨D, hD⟩ | ⟨e, he, he2⟩ | ⟨he, c', hc1, hc2⟩
    · left; rw [prs_ok (hx a ha).2 hD]
    · rcases he2 with he2 | he2
      · right; right; left; rw [prs_err (hx a ha).2 he]; exact he2
      · right; left; rw [prs_err (hx a ha).2 he]; exact he2
    · right; right; right
      refine ⟨?_, c', hc1, (hx a ha).2, hc2⟩
      rw [prs_err (hx a ha).2 he]
      have : plc (cutT (nx s a)).1 (nx s a).size (((cutT s).1.map core).length + 1) = (nx s a).size := by
        rw [nx_cut ha hs h.1, List.length_map]
        unfold plc tkAt
        rw [if_neg (by simp)]
      rw [this]
end Go.Proofs.YtbfmoiaedopeiaaDoor

/- Other blanks between the tokens, plain. -/
namespace Go.Proofs.YtbfmoiaedopeiaaDoor
set_option linter.unusedVariables false

theorem cut_ge (l : List UInt8) (p : Nat) : ∀ t ∈ (cut l p).1, p ≤ t.a := by
  refine cut_ind (fun l p => ∀ t ∈ (cut l p).1, p ≤ t.a) ?_ ?_ ?_ ?_ ?_ ?_ l p
  · intro p; simp [cut_nil]
  · intro c r p hb ih; rw [cut_blank r p hb]; intro t ht; have := ih t ht; omega
  · intro c r p hs h2; rw [cut_end p hs h2]; simp
  · intro c r d s p hs h2 h3 ih; rw [cut_rem p hs h2 h3]; intro t ht; have := ih t ht; omega
  · intro c r p hb hs he; rw [cut_bad r p hb hs he]; simp
  · intro w s p hw ho ih
    rw [cut_word hw ho p]
    unfold app
    split
    · intro t ht
      simp only [List.mem_cons] at ht
      rcases ht with rfl | ht
      · rw [(tkW_is hw p).2.2.2.1]; exact Nat.le_refl _
      · have := ih t ht; omega
    · intro t ht
      have := ih t ht; omega
/-- Places rise. -/
theorem cut_rise (l : List UInt8) (p : Nat) : (cut l p).1.Pairwise (fun a b => a.a < b.a) := by
  refine cut_ind (fun l p => (cut l p).1.Pairwise (fun a b => a.a < b.a)) ?_ ?_ ?_ ?_ ?_ ?_ l p
  · intro p; simp [cut_nil]
  · intro c r p hb ih; rw [cut_blank r p hb]; exact ih
  · intro c r p hs h2; rw [cut_end p hs h2]; simp
  · intro c r d s p hs h2 h3 ih; rw [cut_rem p hs h2 h3]; exact ih
  · intro c r p hb hs he; rw [cut_bad r p hb hs he]; simp
  · intro w s p hw ho ih
    rw [cut_word hw ho p]
    unfold app
    split
    · refine List.pairwise_cons.2 ⟨fun t ht => ?_, ih⟩
      have h1 := cut_ge s (p + w.length) t ht
      have h2 := hw.pos
      rw [(tkW_is hw p).2.2.2.1]
      omega
    · exact ih
theorem cutT_rise (s : ByteArray) : (cutT s).1.Pairwise (fun a b => a.a < b.a) := by
  unfold cutT
  split
  · exact List.Pairwise.nil
  · exact cut_rise _ _
/-- The token at fault is found by its place. -/
theorem plc_find {s : ByteArray} (h : (cutT s).2.1 = 0) {k : Nat} (hk : k ≤ (cutT s).1.length) : (∀ i, i < k → ((cutT s).1.getD i tk0).a < plc (cutT s).1 s.size k) ∧ (k < (cutT s).1.length → ((cutT s).1.getD k tk0).a = plc (cutT s).1 s.size k) := by
  constructor
  · intro i hi
    have hi2 : i < (cutT s).1.length := by omega
    rcases Nat.lt_or_ge k (cutT s).1.length with h1 | h1
    · unfold plc tkAt
      rw [if_pos h1]
      have hp := List.pairwise_iff_getElem.1 (cutT_rise s) i k hi2 h1 hi
      simpa [List.getD, hi2, h1] using hp
    · have e : plc (cutT s).1 s.size k = s.size := by unfold plc tkAt; rw [if_neg (by omega)]
      have h2 := plc_lt h hi2
      unfold plc tkAt at h2
      rw [if_pos hi2] at h2
      rw [e]
      exact h2
  · intro h1
    unfold plc tkAt
    rw [if_pos h1]
theorem zdf_dfp (ts : List Tk) (L : Nat) (d : Df) : zDf (dfP ts L d) = zDf d := by
  unfold zDf dfP
  simp only [List.map_map]
  congr 1
/-- Two texts of the same tokens. -/
theorem prs_same {s x : ByteArray} (hs : (cutT s).2.1 = 0) (hx : (cutT x).2.1 = 0) (hc : (cutT x).1.map core = (cutT s).1.map core) :
    (prsT s).2.1 = (prsT x).2.1 ∧ (prsT s).1.map zDf = (prsT x).1.map zDf ∧ ((prsT s).2.1 ≠ 0 → ∃ k, k ≤ (cutT s).1.length ∧ (prsT s).2.2 = plc (cutT s).1 s.size k ∧ (prsT x).2.2 = plc (cutT x).1 x.size k) := by
  cases hr : srcP ((cutT s).1.map core) 257 [] 0 with
  | ok D =>
    have hr2 : srcP ((cutT x).1.map core) 257 [] 0 = .ok D := by rw [hc]; exact hr
    rw [prs_ok hs hr, prs_ok hx hr2]
    refine ⟨rfl, ?_, fun h => absurd rfl h⟩
    simp only [List.map_map]
    congr 1
    funext d
    simp only [Function.comp]
    rw [zdf_dfp, zdf_dfp]
  | error e =>
    have hr2 : srcP ((cutT x).1.map core) 257 [] 0 = .error e := by rw [hc]; exact hr
    have h3 := (src_le hr).1
    rw [List.length_map] at h3
    rw [prs_err hs hr, prs_err hx hr2]
    exact ⟨rfl, rfl, fun _ => ⟨e.2, h3, rfl, rfl⟩⟩
theorem Bd.end {b F : List UInt8} {ts : List Tk} (h : Bd b ts) (hF : gp false F false = true) : cut (b ++ F) 0 = (ts, 0, 0) := by
  rw [h F]
  have := cut_gap (G := F) [] b.length hF
  rw [List.append_nil] at this
  rw [this, cut_nil]
  simp [apps]
/-- One more token, blanks ahead of it, something else behind. -/
def Bk (b : List UInt8) (ts : List Tk) : Prop := ∀ F X, IsFill F → cut (b ++ F ++ X) 0 = apps ts (cut X (b ++ F).length)
theorem Bk.nil : Bk [] [] := fun F X hF => by rw [List.nil_append, cut_gap X 0 hF.1, apps_nil]; simp
theorem Bk.step {b F w : List UInt8} {ts : List Tk} (h : Bk b ts) (hF : IsFill F) (hw : Tw w) : Bk (b ++ F ++ w) (ts ++ [tkW w (b ++ F).length]) := fun F2 X hF2 => by
  rw [List.append_assoc, List.append_assoc]
  rw [h F (w ++ (F2 ++ X)) hF, cut_word hw (hF2.off w X), apps_app, cut_gap X _ hF2.1]
  congr 2
  simp; omega
theorem Bk.whole {b F : List UInt8} {ts : List Tk} (h : Bk b ts) (hF : IsFill F) : cut (b ++ F) 0 = (ts, 0, 0) := by
  have := h F [] hF
  rw [List.append_nil, cut_nil] at this
  rw [this]
  simp [apps]
end Go.Proofs.YtbfmoiaedopeiaaDoor

/- Tokens with what stands behind each, as a text; plain. -/
namespace Go.Proofs.YtbfmoiaedopeiaaDoor
open Go.RowKit
set_option linter.unusedVariables false

/-! ### Numbers -/
def decF : Nat → Nat → List UInt8
  | 0, _ => []
  | f + 1, n => if n < 10 then [UInt8.ofNat (48 + n)] else decF f (n / 10) ++ [UInt8.ofNat (48 + n % 10)]
def dec (n : Nat) : List UInt8 := decF 20 n
theorem dig_nat {n : Nat} (h : n < 10) : (UInt8.ofNat (48 + n)).toNat = 48 + n := by
  rw [UInt8.toNat_ofNat']
  omega
theorem decF_ok : ∀ (f n : Nat), n < 10 ^ (f + 1) → decF (f + 1) n ≠ [] ∧ (∀ c ∈ decF (f + 1) n, digit c = true) ∧ num (decF (f + 1) n) = n ∧ (1 < (decF (f + 1) n).length → ∀ c, (decF (f + 1) n).head? = some c → c.toNat ≠ 48) := by
  intro f
  induction f with
  | zero =>
    intro n hn
    have hn' : n < 10 := by simpa using hn
    unfold decF
    rw [if_pos hn']
    refine ⟨by simp, fun c hc => ?_, ?_, fun h => by simp at h⟩
    · obtain rfl := List.mem_singleton.1 hc
      unfold digit
      rw [dig_nat hn']
      exact decide_eq_true (by omega)
    · simp only [num, List.foldl]
      rw [dig_nat hn']
      omega
  | succ f ih =>
    intro n hn
    by_cases h10 : n < 10
    · unfold decF
      rw [if_pos h10]
      refine ⟨by simp, fun c hc => ?_, ?_, fun h => by simp at h⟩
      · obtain rfl := List.mem_singleton.1 hc
        unfold digit
        rw [dig_nat h10]
        exact decide_eq_true (by omega)
      · simp only [num, List.foldl]
        rw [dig_nat h10]
        omega
    · have hd : n / 10 < 10 ^ (f + 1) := by
        rw [Nat.pow_succ] at hn
        exact Nat.div_lt_of_lt_mul (by rw [Nat.mul_comm]; exact hn)
      obtain ⟨h1, h2, h3, h4⟩ := ih (n / 10) hd
      have e : decF (f + 1 + 1) n = decF (f + 1) (n / 10) ++ [UInt8.ofNat (48 + n % 10)] := by
        rw [decF, if_neg h10]
      rw [e]
      have hm : n % 10 < 10 := Nat.mod_lt _ (by decide)
      refine ⟨by simp, fun c hc => ?_, ?_, fun hl c hc => ?_⟩
      · rcases List.mem_append.1 hc with hc | hc
        · exact h2 c hc
        · obtain rfl := List.mem_singleton.1 hc
          unfold digit
          rw [dig_nat hm]
          exact decide_eq_true (by omega)
      · rw [num_snoc, h3, dig_nat hm]
        omega
      · cases hL : decF (f + 1) (n / 10) with
        | nil => exact absurd hL h1
        | cons a L =>
          rw [hL] at hc h3 h4
          simp at hc
          subst hc
          by_cases hl1 : 1 < (a :: L).length
          · exact h4 hl1 a rfl
          · have : L = [] := by cases L with | nil => rfl | cons b L => simp at hl1
            subst this
            intro e2
            simp only [num, List.foldl] at h3
            omega
theorem dec_ok {n : Nat} (h : n ≤ 2147483647) : ∃ c r, dec n = c :: r ∧ digit c = true ∧ (∀ x ∈ r, digit x = true) ∧ num (dec n) = n ∧ erW (dec n) = 0 := by
  obtain ⟨h1, h2, h3, h4⟩ := decF_ok 19 n (Nat.lt_of_le_of_lt h (by decide))
  have e : dec n = decF (19 + 1) n := rfl
  rw [← e] at h1 h2 h3 h4
  cases hD : dec n with
  | nil => exact absurd hD h1
  | cons c r =>
    rw [hD] at h2 h3 h4
    have hc := h2 c (by simp)
    refine ⟨c, r, rfl, hc, fun x hx => h2 x (by simp [hx]), h3, ?_⟩
    have hlet : letter c = false := by
      unfold letter digit at *
      have := of_decide_eq_true hc
      exact decide_eq_false (by omega)
    have hok : numOk (c :: r) = true := by
      unfold numOk
      refine decide_eq_true ⟨fun ⟨h5, y, h6, h7⟩ => h4 h5 y h6 h7, by rw [h3]; exact h⟩
    show (if letter c then (if r.length < 32 then 0 else 52) else if digit c then (if numOk (c :: r) then 0 else 51) else 0) = 0
    rw [hlet, hc, hok]
    rfl
/-! ### A token's bytes -/
def wb (q : Q) : List UInt8 := if q.k = 2 then dec q.n.toNat else q.t.data.toList
def GoodQ (q : Q) : Prop := (q.k = 1 ∧ q.n = 0 ∧ Tw q.t.data.toList ∧ ∀ c r, q.t.data.toList = c :: r → letter c = true) ∨ (q.k = 2 ∧ q.t = ⟨#[]⟩ ∧ 0 ≤ q.n ∧ q.n ≤ 2147483647) ∨ (q.k = 3 ∧ q.n = 0 ∧ ∃ b, q.t = ⟨#[b]⟩ ∧ mark b = true)
theorem mark_not {b : UInt8} (h : mark b = true) : letter b = false ∧ digit b = false ∧ goes b = false := by
  simp [mark, letter, digit, goes] at *
  omega
theorem dig_not {c : UInt8} (h : digit c = true) : letter c = false := by
  simp [letter, digit] at *
  omega
theorem good_tw {q : Q} (h : GoodQ q) : Tw (wb q) ∧ ∀ p, tkW (wb q) p = ⟨q.k, q.t, q.n, p, p + (wb q).length⟩ := by
  obtain ⟨k, t, n⟩ := q
  rcases h with ⟨h1, h2, h3, h4⟩ | ⟨h1, h2, h3, h4⟩ | ⟨h1, h2, b, h3, h4⟩
  · simp only at h1 h2 h3 h4
    subst h1 h2
    have hw : wb ⟨1, t, 0⟩ = t.data.toList := by unfold wb; rw [if_neg (by simp)]
    rw [hw]
    refine ⟨h3, fun p => ?_⟩
    obtain ⟨c, r, hc, _⟩ := h3
    have hl := h4 c r hc
    rw [hc]
    unfold tkW
    simp only
    rw [hl, if_pos rfl]
    have : (⟨(c :: r).toArray⟩ : ByteArray) = t := by rw [← hc]
    rw [this]
  · simp only at h1 h2 h3 h4
    subst h1 h2
    have hw : wb ⟨2, ⟨#[]⟩, n⟩ = dec n.toNat := by unfold wb; rw [if_pos rfl]
    rw [hw]
    obtain ⟨c, r, e, hc, hr, hn, her⟩ := dec_ok (n := n.toNat) (by omega)
    have hl := dig_not hc
    refine ⟨⟨c, r, e, by rw [hc]; simp, fun x hx => by unfold follows; rw [hl, hc]; exact hr x hx, her⟩, fun p => ?_⟩
    rw [e] at hn ⊢
    unfold tkW
    simp only
    rw [hl, hc, hn]
    have : ((n.toNat : Nat) : Int) = n := by omega
    rw [this]
    rfl
  · simp only at h1 h2 h3 h4
    subst h1 h2 h3
    obtain ⟨m1, m2, _⟩ := mark_not h4
    have hw : wb ⟨3, ⟨#[b]⟩, 0⟩ = [b] := by unfold wb; rw [if_neg (by simp)]
    rw [hw]
    refine ⟨⟨b, [], rfl, by rw [h4]; simp, fun x hx => (by cases hx), ?_⟩, fun p => ?_⟩
    · show (if letter b then _ else if digit b then _ else 0) = 0
      rw [m1, m2]; rfl
    · unfold tkW
      simp only
      rw [m1, m2]
      rfl
theorem good_num {n : Int} (h : numB n = true) : GoodQ (qn n) := by
  have := of_decide_eq_true h
  exact .inr (.inl ⟨rfl, rfl, this.1, this.2⟩)
theorem good_mark {b : UInt8} (h : mark b = true) : GoodQ (qm b) := .inr (.inr ⟨rfl, rfl, b, rfl, h⟩)
theorem good_name {s : ByteArray} (h : isName s = true) : GoodQ (qw s) := by
  obtain ⟨h1, h2, h3, h4, _⟩ := of_decide_eq_true h
  refine .inl ⟨rfl, rfl, ?_, ?_⟩
  · show Tw s.data.toList
    have hsz := Lib.size_eq s
    cases hl : s.data.toList with
    | nil => rw [hl] at hsz; simp only [List.length_nil] at hsz; omega
    | cons c r =>
      have e0 : s[0]'h1 = c := by
        have := at_list s 0 h1
        rw [hl] at this
        simpa using this.symm
      have hc := h3 h1
      rw [e0] at hc
      refine ⟨c, r, rfl, by rw [hc]; simp, fun x hx => ?_, ?_⟩
      · unfold follows
        rw [hc, if_pos rfl]
        obtain ⟨i, hi, rfl⟩ := List.getElem_of_mem hx
        have hi2 : i + 1 < s.size := by rw [hsz, hl]; simp; omega
        have := at_list s (i + 1) hi2
        rw [hl] at this
        have e1 : r[i] = s[i + 1]'hi2 := by
          rw [List.getElem?_cons_succ, List.getElem?_eq_getElem hi] at this
          exact Option.some.inj this
        rw [e1]
        exact h4 (i + 1) hi2
      · show (if letter c then (if r.length < 32 then 0 else 52) else _) = 0
        rw [hc, if_pos rfl, if_pos (by rw [hl] at hsz; simp at hsz; omega)]
  · intro c r e
    have e0 : s[0]'h1 = c := by
      have := at_list s 0 h1
      have e' : s.data.toList = c :: r := e
      rw [e'] at this
      simpa using this.symm
    have hc := h3 h1
    rw [e0] at hc
    exact hc
theorem good_key (s : ByteArray) (h : s ∈ [(⟨#[117, 56]⟩ : ByteArray), ⟨#[117, 49, 54]⟩, ⟨#[117, 51, 50]⟩, ⟨#[117, 54, 52]⟩, ⟨#[98, 111, 111, 108]⟩, ⟨#[118, 97, 114, 105, 110, 116]⟩, ⟨#[118, 101, 99, 116, 111, 114]⟩, ⟨#[108, 105, 115, 116]⟩, ⟨#[111, 112, 116, 105, 111, 110]⟩, ⟨#[117, 110, 105, 111, 110]⟩, ⟨#[115, 116, 114, 117, 99, 116]⟩, ⟨#[116, 121, 112, 101]⟩]) : GoodQ (qw s) := by
  simp only [List.mem_cons, List.mem_nil_iff, or_false] at h
  rcases h with rfl | rfl | rfl | rfl | rfl | rfl | rfl | rfl | rfl | rfl | rfl | rfl
  all_goals exact .inl ⟨rfl, rfl, ⟨_, _, rfl, by decide, by decide, by decide⟩, fun c r e => by injection e with e _; subst e; decide⟩
theorem good_word {x : Nd} {of : Int} {dp : Nat} (h : ndE x of dp = 0) : GoodQ (qw (wordT x)) := by
  rcases kinds h with ⟨k9, _, _, hn⟩ | ⟨k9, _, h4⟩
  · have hwt : wordT x = x.name := by unfold wordT; rw [if_neg (by omega), if_neg (by omega), if_neg (by omega), if_neg (by omega), if_neg (by omega), if_neg (by omega), if_neg (by omega), if_neg (by omega)]
    rw [hwt]
    exact good_name hn
  · have hk : x.k = 1 ∨ x.k = 2 ∨ x.k = 3 ∨ x.k = 4 ∨ x.k = 5 ∨ x.k = 6 ∨ x.k = 7 ∨ x.k = 8 := by omega
    apply good_key
    unfold wordT wordN
    rcases hk with e | e | e | e | e | e | e | e <;> rw [e]
    · simp only [if_pos]
      split
      · simp
      · split
        · simp
        · split <;> simp
    all_goals simp
/-! ### Pieces -/
def txtP : List (Q × List UInt8) → List UInt8
  | [] => []
  | p :: P => wb p.1 ++ (p.2 ++ txtP P)
def tksP : List (Q × List UInt8) → Nat → List Tk
  | [], _ => []
  | p :: P, n => ⟨p.1.k, p.1.t, p.1.n, n, n + (wb p.1).length⟩ :: tksP P (n + (wb p.1).length + p.2.length)
def OkS : List (Q × List UInt8) → List UInt8 → Prop
  | [], _ => True
  | p :: P, S => GoodQ p.1 ∧ gp false p.2 false = true ∧ Off (wb p.1) (p.2 ++ (txtP P ++ S)) ∧ OkS P S
theorem txtP_app : ∀ (P R : List (Q × List UInt8)), txtP (P ++ R) = txtP P ++ txtP R
  | [], R => rfl
  | p :: P, R => by simp [txtP, txtP_app P R]
theorem tks_core : ∀ (P : List (Q × List UInt8)) (n : Nat), (tksP P n).map core = P.map Prod.fst
  | [], n => rfl
  | p :: P, n => by simp [tksP, tks_core P, core]
theorem cut_pcs : ∀ (P : List (Q × List UInt8)) (n : Nat), OkS P [] → cut (txtP P) n = (tksP P n, 0, 0)
  | [], n, _ => rfl
  | p :: P, n, h => by
    obtain ⟨h1, h2, h3, h4⟩ := h
    rw [List.append_nil] at h3
    obtain ⟨g1, g2⟩ := good_tw h1
    rw [txtP, cut_word g1 h3, cut_gap _ _ h2, cut_pcs P _ h4, g2]
    rfl
theorem OkS.app : ∀ {P R : List (Q × List UInt8)} {S : List UInt8}, OkS P (txtP R ++ S) → OkS R S → OkS (P ++ R) S
  | [], R, S, _, h => h
  | p :: P, R, S, h, k => by
    obtain ⟨h1, h2, h3, h4⟩ := h
    refine ⟨h1, h2, ?_, OkS.app h4 k⟩
    show Off (wb p.1) (p.2 ++ (txtP (P ++ R) ++ S))
    rw [txtP_app, List.append_assoc]
    exact h3
/-- What follows begins with no letter, digit or underscore. -/
def Stop (S : List UInt8) : Prop := ∀ x y, S = x :: y → goes x = false
theorem Stop.off {S : List UInt8} (h : Stop S) (w : List UInt8) : Off w S := fun c r x y _ e => follows_goes (h x y e)
theorem Stop.app {F S : List UInt8} (h : Stop F) (k : Stop S) : Stop (F ++ S) := by
  cases F with
  | nil => exact k
  | cons a F => intro x y e; injection e with e _; subst e; exact h a F rfl
theorem Stop.nil : Stop [] := fun x y e => by cases e
theorem stop_mark {b : UInt8} (h : mark b = true) (F : List UInt8) (P : List (Q × List UInt8)) (S : List UInt8) : Stop (txtP ((qm b, F) :: P) ++ S) := by
  intro x y e
  have : wb (qm b) = [b] := by unfold wb qm; rw [if_neg (by simp)]
  simp only [txtP, this, List.cons_append, List.nil_append] at e
  injection e with e _
  subst e
  exact (mark_not h).2.2
def FillOk (F : List UInt8) : Prop := gp false F false = true ∧ Stop F
theorem OkS.cons {q : Q} {F : List UInt8} {P : List (Q × List UInt8)} {S : List UInt8} (h : GoodQ q) (hF : FillOk F) (hs : Stop (txtP P ++ S)) (k : OkS P S) : OkS ((q, F) :: P) S := ⟨h, hF.1, (hF.2.app hs).off _, k⟩
theorem OkS.mark {b : UInt8} {F : List UInt8} {P : List (Q × List UInt8)} {S : List UInt8} (h : Go.Proofs.YtbfmoiaedopeiaaDoor.mark b = true) (hF : FillOk F) (k : OkS P S) : OkS ((qm b, F) :: P) S := by
  refine ⟨good_mark h, hF.1, ?_, k⟩
  have hw : wb (qm b) = [b] := by unfold wb qm; rw [if_neg (by simp)]
  rw [hw]
  intro c r x y e _
  injection e with e _
  subst e
  obtain ⟨m1, m2, _⟩ := mark_not h
  unfold follows
  rw [m1, m2]
  rfl
theorem FillOk.nil : FillOk [] := ⟨rfl, Stop.nil⟩
end Go.Proofs.YtbfmoiaedopeiaaDoor

/- A source that Check takes, written as a text in a style, is parsed back; plain. -/
namespace Go.Proofs.YtbfmoiaedopeiaaDoor
open Go.RowKit
set_option linter.unusedVariables false

/-- What stands behind some of the tokens. -/
structure Sty where
  arm : List UInt8
  field : List UInt8
  lst : List UInt8
  strc : List UInt8
  num : List UInt8
  eq1 : List UInt8
  eq2 : List UInt8
  semi : List UInt8
def StyOk (st : Sty) : Prop := FillOk st.arm ∧ FillOk st.field ∧ FillOk st.lst ∧ FillOk st.strc ∧ FillOk st.num ∧ FillOk st.eq1 ∧ FillOk st.eq2 ∧ FillOk st.semi
def hdS (st : Sty) (k : Int) (x : Nd) : List (Q × List UInt8) := if k = 7 then [(qn x.tag, []), (qm 58, st.arm)] else if k = 8 then [(qw x.label, []), (qm 58, st.field)] else []
def opnS (st : Sty) (x : Nd) : List (Q × List UInt8) := if x.k = 4 ∨ x.k = 5 ∨ x.k = 6 then [(qw (wordT x), if x.k = 5 then st.lst else []), (qm 60, [])] else if x.k = 7 ∨ x.k = 8 then [(qw (wordT x), if x.k = 8 then st.strc else []), (qm 123, [])] else [(qw (wordT x), [])]
def clsS (st : Sty) (x : Nd) : List (Q × List UInt8) := if x.k = 4 ∨ x.k = 5 then [(qm 44, st.num), (qn x.n, []), (qm 62, [])] else if x.k = 6 then [(qm 62, [])] else if x.k = 7 ∨ x.k = 8 then [(qm 125, [])] else []
def sepS (k : Int) (n : Nat) : List (Q × List UInt8) := if (k = 7 ∨ k = 8) ∧ 0 < n then [(qm 44, [])] else []
theorem hdS_fst (st : Sty) (k : Int) (x : Nd) : (hdS st k x).map Prod.fst = hdT k x := by
  unfold hdS hdT
  split
  · rfl
  · split <;> rfl
theorem opnS_fst (st : Sty) (x : Nd) : (opnS st x).map Prod.fst = opnT x := by
  unfold opnS opnT
  split
  · rfl
  · split <;> rfl
theorem clsS_fst (st : Sty) (x : Nd) : (clsS st x).map Prod.fst = clsT x := by
  unfold clsS clsT
  split
  · rfl
  · split
    · rfl
    · split <;> rfl
theorem sepS_fst (k : Int) (n : Nat) : (sepS k n).map Prod.fst = sepT k n := by
  unfold sepS sepT
  split <;> rfl
def WS (st : Sty) : Nat → Nat → Int → Nat → List Nd → List (Q × List UInt8) → Prop
  | 0, _, _, n, N, P => n = 0 ∧ N = [] ∧ P = []
  | _ + 1, _, _, 0, N, P => N = [] ∧ P = []
  | fu + 1, d, k, n + 1, N, P => ∃ x A B PA PB, N = x :: (A ++ B) ∧ ndE x k d = 0 ∧ WS st fu (d + 1) x.k x.kids.toNat A PA ∧ WS st fu d k n B PB ∧ P = hdS st k x ++ (opnS st x ++ (PA ++ (clsS st x ++ (sepS k n ++ PB))))
theorem WS.zero {st : Sty} {fu d : Nat} {k : Int} {N : List Nd} {P : List (Q × List UInt8)} (h : WS st fu d k 0 N P) : N = [] ∧ P = [] := by
  cases fu with
  | zero => exact h.2
  | succ f => exact h
theorem ws_of (st : Sty) : ∀ (fu d : Nat) (k : Int) (n : Nat) (N : List Nd), Forest fu d k n N → ∃ P, WS st fu d k n N P
  | 0, d, k, n, N, h => ⟨[], h.1, h.2, rfl⟩
  | fu + 1, d, k, 0, N, h => ⟨[], h, rfl⟩
  | fu + 1, d, k, n + 1, N, h => by
    obtain ⟨x, A, B, h1, h2, h3, h4⟩ := h
    obtain ⟨PA, hA⟩ := ws_of st fu (d + 1) x.k x.kids.toNat A h3
    obtain ⟨PB, hB⟩ := ws_of st fu d k n B h4
    exact ⟨_, x, A, B, PA, PB, h1, h2, hA, hB, rfl⟩
theorem ws_wp {st : Sty} : ∀ (fu d : Nat) (k : Int) (n : Nat) (N : List Nd) (P : List (Q × List UInt8)), WS st fu d k n N P → ∀ b, ∃ N', WP fu d k n N b (P.map Prod.fst) N'
  | 0, d, k, n, N, P, h, b => by obtain ⟨h1, h2, rfl⟩ := h; exact ⟨[], h1, h2, rfl, rfl⟩
  | fu + 1, d, k, 0, N, P, h, b => by obtain ⟨h1, rfl⟩ := h; exact ⟨[], h1, rfl, rfl⟩
  | fu + 1, d, k, n + 1, N, P, h, b => by
    obtain ⟨x, A, B, PA, PB, h1, h2, hA, hB, rfl⟩ := h
    obtain ⟨A', wA⟩ := ws_wp fu _ _ _ _ _ hA (b + (hdT k x).length + (opnT x).length)
    obtain ⟨B', wB⟩ := ws_wp fu _ _ _ _ _ hB (b + (hdT k x).length + (opnT x).length + (PA.map Prod.fst).length + (clsT x).length + (sepT k n).length)
    refine ⟨_, x, A, B, _, _, A', B', h1, h2, wA, wB, ?_, rfl⟩
    simp only [List.map_append, hdS_fst, opnS_fst, clsS_fst, sepS_fst]
theorem nd_tag {x : Nd} {dp : Nat} (h : ndE x 7 dp = 0) : numB x.tag = true := by
  unfold ndE nodeE at h
  by_cases h1 : 16 < dp
  · rw [if_pos h1] at h; cases h
  rw [if_neg h1] at h
  split at h
  · cases h
  · split at h
    · cases h
    · split at h
      · cases h
      · rename_i h4
        by_cases ht : x.tag = 0
        · rw [ht]; rfl
        · cases hb : numB x.tag with
          | true => rfl
          | false => exact absurd ⟨ht, .inr hb⟩ h4
theorem nd_num {x : Nd} {of : Int} {dp : Nat} (h : ndE x of dp = 0) (hk : x.k = 4 ∨ x.k = 5) : numB x.n = true := by
  obtain ⟨_, h1, _⟩ := nd_ok h
  unfold kindOk at h1
  rw [if_neg (by omega), if_neg (by omega), if_pos hk, Bool.and_eq_true] at h1
  exact h1.1
theorem hd_ok {st : Sty} (hst : StyOk st) {k : Int} {x : Nd} {d : Nat} (h : ndE x k d = 0) (S : List UInt8) : OkS (hdS st k x) S := by
  unfold hdS
  by_cases h7 : k = 7
  · subst h7
    rw [if_pos rfl]
    exact OkS.cons (good_num (nd_tag h)) FillOk.nil (stop_mark (by decide) _ _ _) (OkS.mark (by decide) hst.1 trivial)
  · rw [if_neg h7]
    by_cases h8 : k = 8
    · subst h8
      rw [if_pos rfl]
      exact OkS.cons (good_name (nd_ok h).2.2.2.1) FillOk.nil (stop_mark (by decide) _ _ _) (OkS.mark (by decide) hst.2.1 trivial)
    · rw [if_neg h8]; trivial
theorem opn_ok {st : Sty} (hst : StyOk st) {k : Int} {x : Nd} {d : Nat} (h : ndE x k d = 0) (S : List UInt8) (hS : (x.k = 1 ∨ x.k = 2 ∨ x.k = 3 ∨ x.k = 9) → Stop S) : OkS (opnS st x) S := by
  have hw := good_word h
  unfold opnS
  by_cases h4 : x.k = 4 ∨ x.k = 5 ∨ x.k = 6
  · rw [if_pos h4]
    refine OkS.cons hw ?_ (stop_mark (by decide) _ _ _) (OkS.mark (by decide) FillOk.nil trivial)
    split
    · exact hst.2.2.1
    · exact FillOk.nil
  · rw [if_neg h4]
    by_cases h7 : x.k = 7 ∨ x.k = 8
    · rw [if_pos h7]
      refine OkS.cons hw ?_ (stop_mark (by decide) _ _ _) (OkS.mark (by decide) FillOk.nil trivial)
      split
      · exact hst.2.2.2.1
      · exact FillOk.nil
    · rw [if_neg h7]
      refine OkS.cons hw FillOk.nil ?_ trivial
      refine hS ?_
      rcases kinds h with ⟨e, _⟩ | ⟨_, _, ⟨e, _⟩ | ⟨e, _⟩ | ⟨e, _⟩ | ⟨e, _⟩⟩ <;> omega
theorem cls_ok {st : Sty} (hst : StyOk st) {k : Int} {x : Nd} {d : Nat} (h : ndE x k d = 0) (S : List UInt8) : OkS (clsS st x) S := by
  unfold clsS
  by_cases h4 : x.k = 4 ∨ x.k = 5
  · rw [if_pos h4]
    exact OkS.mark (by decide) hst.2.2.2.2.1 (OkS.cons (good_num (nd_num h h4)) FillOk.nil (stop_mark (by decide) _ _ _) (OkS.mark (by decide) FillOk.nil trivial))
  · rw [if_neg h4]
    split
    · exact OkS.mark (by decide) FillOk.nil trivial
    · split
      · exact OkS.mark (by decide) FillOk.nil trivial
      · trivial
theorem ws_ok {st : Sty} (hst : StyOk st) : ∀ (fu d : Nat) (k : Int) (n : Nat) (N : List Nd) (P : List (Q × List UInt8)) (S : List UInt8), WS st fu d k n N P → (n ≤ 1 ∨ k = 7 ∨ k = 8) → Stop S → OkS P S
  | 0, d, k, n, N, P, S, h, hk, hS => by obtain ⟨_, _, rfl⟩ := h; trivial
  | fu + 1, d, k, 0, N, P, S, h, hk, hS => by obtain ⟨_, rfl⟩ := h; trivial
  | fu + 1, d, k, n + 1, N, P, S, h, hk, hS => by
    obtain ⟨x, A, B, PA, PB, h1, h2, hA, hB, rfl⟩ := h
    have hBk := ws_ok hst fu d k n B PB S hB (by omega) hS
    have hsep : OkS (sepS k n) (txtP PB ++ S) := by
      unfold sepS
      split
      · exact OkS.mark (by decide) FillOk.nil trivial
      · trivial
    have htail : Stop (txtP (sepS k n ++ PB) ++ S) := by
      rcases Nat.eq_zero_or_pos n with h0 | h0
      · subst h0
        obtain ⟨_, rfl⟩ := hB.zero
        have : sepS k 0 = [] := by unfold sepS; rw [if_neg (by omega)]
        rw [this]
        exact hS
      · have : sepS k n = [(qm 44, [])] := by unfold sepS; rw [if_pos ⟨by omega, h0⟩]
        rw [this]
        exact stop_mark (by decide) _ _ _
    have h5 := OkS.app hsep hBk
    have h6 := OkS.app (cls_ok hst h2 (txtP (sepS k n ++ PB) ++ S)) h5
    have hcl : (x.k = 4 ∨ x.k = 5 ∨ x.k = 6 ∨ x.k = 7 ∨ x.k = 8) → Stop (txtP (clsS st x ++ (sepS k n ++ PB)) ++ S) := fun hx => by
      unfold clsS
      by_cases e1 : x.k = 4 ∨ x.k = 5
      · rw [if_pos e1]; exact stop_mark (by decide) _ _ _
      · rw [if_neg e1]
        by_cases e2 : x.k = 6
        · rw [if_pos e2]; exact stop_mark (by decide) _ _ _
        · rw [if_neg e2, if_pos (by omega)]; exact stop_mark (by decide) _ _ _
    have hPA : OkS PA (txtP (clsS st x ++ (sepS k n ++ PB)) ++ S) := by
      rcases kinds h2 with ⟨_, _, e, _⟩ | ⟨_, _, ⟨_, e, _⟩ | ⟨e1, e, _⟩ | ⟨e1, e, _⟩ | ⟨e1, _⟩⟩
      · rw [e] at hA; obtain ⟨_, rfl⟩ := hA.zero; trivial
      · rw [e] at hA; obtain ⟨_, rfl⟩ := hA.zero; trivial
      · exact ws_ok hst fu _ _ _ _ _ _ hA (by omega) (hcl (by omega))
      · exact ws_ok hst fu _ _ _ _ _ _ hA (by omega) (hcl (by omega))
      · exact ws_ok hst fu _ _ _ _ _ _ hA (by omega) (hcl (by omega))
    have h7 := OkS.app hPA h6
    have hop : OkS (opnS st x) (txtP (PA ++ (clsS st x ++ (sepS k n ++ PB))) ++ S) := opn_ok hst h2 _ (fun hx => by
      have hkd : x.kids = 0 := by
        rcases kinds h2 with ⟨_, _, e, _⟩ | ⟨_, _, ⟨_, e, _⟩ | ⟨e1, e, _⟩ | ⟨e1, e, _⟩ | ⟨e1, _⟩⟩ <;> omega
      rw [hkd] at hA
      obtain ⟨_, rfl⟩ := hA.zero
      have : clsS st x = [] := by unfold clsS; rw [if_neg (by omega), if_neg (by omega), if_neg (by omega)]
      rw [this]
      exact htail)
    have h8 := OkS.app hop h7
    exact OkS.app (hd_ok hst h2 _) h8
/-! ### Definitions -/
def WDS (st : Sty) : List Df → List (Q × List UInt8) → Prop
  | [], P => P = []
  | d :: D, P => ∃ PN PD, WS st d.ty.length 0 0 1 d.ty PN ∧ WDS st D PD ∧ P = (qw ⟨#[116, 121, 112, 101]⟩, [32]) :: (qw d.name, st.eq1) :: (qm 61, st.eq2) :: (PN ++ ((qm 59, st.semi) :: PD))
theorem wds_of (st : Sty) : ∀ (D : List Df), (∀ d ∈ D, isName d.name = true ∧ Forest d.ty.length 0 0 1 d.ty) → ∃ P, WDS st D P
  | [], _ => ⟨[], rfl⟩
  | d :: D, h => by
    obtain ⟨PN, hN⟩ := ws_of st _ _ _ _ _ (h d (by simp)).2
    obtain ⟨PD, hD⟩ := wds_of st D (fun e he => h e (by simp [he]))
    exact ⟨_, PN, PD, hN, hD, rfl⟩
theorem wds_wd {st : Sty} : ∀ (D : List Df) (P : List (Q × List UInt8)), WDS st D P → ∀ b, ∃ D', WD D b (P.map Prod.fst) D'
  | [], P, h, b => by have h' : P = [] := h; subst h'; exact ⟨[], rfl, rfl⟩
  | d :: D, P, h, b => by
    obtain ⟨PN, PD, hN, hD, rfl⟩ := h
    obtain ⟨N', wN⟩ := ws_wp _ _ _ _ _ _ hN (b + 3)
    obtain ⟨E', wD⟩ := wds_wd D PD hD (b + 3 + (PN.map Prod.fst).length + 1)
    exact ⟨_, _, N', _, E', wN, wD, by simp, rfl⟩
theorem wds_ok {st : Sty} (hst : StyOk st) : ∀ (D : List Df) (P : List (Q × List UInt8)), WDS st D P → (∀ d ∈ D, isName d.name = true) → OkS P []
  | [], P, h, _ => by have h' : P = [] := h; subst h'; trivial
  | d :: D, P, h, hn => by
    obtain ⟨PN, PD, hN, hD, rfl⟩ := h
    have hD' := wds_ok hst D PD hD (fun e he => hn e (by simp [he]))
    have h1 : OkS ((qm 59, st.semi) :: PD) [] := OkS.mark (by decide) hst.2.2.2.2.2.2.2 hD'
    have h2 : OkS PN (txtP ((qm 59, st.semi) :: PD) ++ []) := ws_ok hst _ _ _ _ _ _ _ hN (by omega) (stop_mark (by decide) _ _ _)
    have h3 := OkS.app h2 h1
    have h4 : OkS ((qm 61, st.eq2) :: (PN ++ ((qm 59, st.semi) :: PD))) [] := OkS.mark (by decide) hst.2.2.2.2.2.2.1 h3
    have h5 := OkS.cons (good_name (hn d (by simp))) hst.2.2.2.2.2.1 (stop_mark (by decide) _ _ _) h4
    refine ⟨good_key _ (by simp), by decide, ?_, h5⟩
    exact Stop.off (fun x y e => by injection e with e _; subst e; decide) _
theorem tks_pos : ∀ (P : List (Q × List UInt8)) (n j : Nat), j < P.length → ((tksP P n).getD j tk0).a = n + (txtP (P.take j)).length
  | [], n, j, h => by simp at h
  | p :: P, n, 0, h => by simp [tksP, txtP]
  | p :: P, n, j + 1, h => by
    have ih := tks_pos P (n + (wb p.1).length + p.2.length) j (by simpa using h)
    simp only [tksP, List.getD_cons_succ, List.take_succ_cons, txtP, List.length_append]
    rw [ih]
    omega
theorem tks_len : ∀ (P : List (Q × List UInt8)) (n : Nat), (tksP P n).length = P.length
  | [], n => rfl
  | p :: P, n => by simp [tksP, tks_len P]
/-- The text is parsed back: each node at the place of its token. -/
theorem text_back {st : Sty} (hst : StyOk st) {D : List Df} (h : (ckP D).2.2 = 0) : ∃ P D', WDS st D P ∧ WD D 0 (P.map Prod.fst) D' ∧ D'.map zDf = D.map zDf ∧
    ∀ s : ByteArray, s.data.toList = txtP P → s.size ≤ 65536 → cutT s = (tksP P 0, 0, 0) ∧ prsT s = (D'.map (dfP (tksP P 0) s.size), 0, 0) := by
  obtain ⟨hl, hall⟩ := ckP_all h
  obtain ⟨P, hP⟩ := wds_of st D hall
  obtain ⟨D', hW⟩ := wds_wd D P hP 0
  refine ⟨P, D', hP, hW, (wd_z D 0 _ D' hW).1, fun s hs hz => ?_⟩
  have hc : cutT s = (tksP P 0, 0, 0) := by
    unfold cutT
    rw [if_neg (by omega), hs]
    exact cut_pcs P 0 (wds_ok hst D P hP (fun d hd => (hall d hd).1))
  refine ⟨hc, ?_⟩
  have hr := src_b (qs := P.map Prod.fst) D 0 _ D' 257 [] hW (fun d hd => (hall d hd).1) rfl (by omega)
  rw [List.nil_append] at hr
  have := prs_ok (s := s) (by rw [hc]) (D := D') (by rw [hc]; simp only; rw [tks_core]; exact hr)
  rw [hc] at this
  exact this
end Go.Proofs.YtbfmoiaedopeiaaDoor

/- What SyntaxTokens holds in memory. -/
namespace Go.Proofs.YtbfmoiaedopeiaaDoor
open Go.RowKit
set_option linter.unusedVariables false

def BR (B : Nat) (w : World) (v : Value) (l : List UInt8) : Prop := w.ownsRow B 5 1 v l.length (Lib.byteCells l)
theorem byteCells_app (a b : List UInt8) : Lib.byteCells (a ++ b) = Lib.byteCells a ++ Lib.byteCells b := by simp [Lib.byteCells]
theorem E40 : Elem Tryd.prog 46 5 .u8 1 := ⟨Tryd.underlying46, Tryd.underlying5, by kernel_rfl⟩
section
variable {B : Nat} {w w' : World} {v : Value} {l : List UInt8}
theorem BR.nil (B : Nat) (w : World) : BR B w (.slice none 0 0) [] := World.ownsRow_nil _ _ _ _
theorem BR.form (h : BR B w v l) : ∃ a cap, v = .slice a l.length cap := by
  rcases h.2 with ⟨rfl, h0⟩ | ⟨g, cap, cur, rfl, _⟩
  · exact ⟨none, 0, by rw [h0]⟩
  · exact ⟨_, cap, rfl⟩
theorem BR.app (h : BR B w v l) (s : ByteArray) (hl : l.length ≤ 1000000000) (hs : s.size ≤ 1000000000) (hB : B ≤ w.heap.size) :
    ∃ v' w', (Builtin.append_ #[46, 9] 46 #[v, .string s]).run Tryd.prog w = .ok v' w' ∧ BR B w' v' (l ++ s.data.toList) ∧ Upd (fun k => v.ownBlock = some k) w w' := by
  obtain ⟨i0, hi, hz0, hz1, hz2⟩ := info_parts E40.info
  obtain ⟨v', w', h1, h2, h3, -⟩ := Lib.run_append_own_string (P := Tryd.prog) w B 46 9 46 5 i0 Tryd.underlying46 Tryd.underlying9 hi hz0 hz1 hz2 v l.length _ h s (by unfold maxLen; omega) (by omega) hB
  refine ⟨v', w', h1, ?_, (Upd.refl _ w).grown h3 (fun k hk => .inl hk)⟩
  unfold BR
  rw [byteCells_app, List.length_append, ← Lib.size_eq]
  exact h2
theorem cells_ints (l : List UInt8) : Lib.byteCells l = cellsL .u8 (l.map fun b => (b.toNat : Int)) := by simp [Lib.byteCells, cellsL]
theorem nums_back (l : List UInt8) : strOfNums (l.map fun b => (b.toNat : Int)) = ⟨l.toArray⟩ := by
  unfold strOfNums
  rw [List.map_map]
  have e : ((fun n : Int => UInt8.ofNat n.toNat) ∘ fun b : UInt8 => (b.toNat : Int)) = id := by funext b; simp
  rw [e, List.map_id]
theorem BR.conv (h : BR B w v l) : ∃ a cap, v = .slice a l.length cap ∧ (convert 46 9 (.slice a l.length cap)).run Tryd.prog w = .ok (.string ⟨l.toArray⟩) w := by
  have hr : ∃ a cap, v = .slice a l.length cap ∧ Row .u8 w a (l.map fun b => (b.toNat : Int)) := by
    rcases Nat.eq_zero_or_pos l.length with h0 | h0
    · obtain ⟨a, cap, rfl⟩ := h.form
      have : l = [] := List.eq_nil_of_length_eq_zero h0
      subst this
      refine ⟨a, cap, rfl, ?_⟩
      cases a with
      | none => exact .inl ⟨rfl, rfl⟩
      | some x => exact .inr ⟨x, rfl, fun i hi => by simp at hi⟩
    · obtain ⟨g, cap, ys, rfl, hb, hn, hm, hl, ht, hK⟩ := ownS_blk h h0
      refine ⟨_, cap, rfl, Row.mk fun i hi => ?_⟩
      rw [List.length_map] at hi
      rw [hK.cell, Nat.zero_add]
      have e : ys[i]? = (Lib.byteCells l)[i]? := by rw [← ht, List.getElem?_take, if_pos (by omega)]
      rw [e]
      simp [Lib.byteCells, List.getD, hi]
  obtain ⟨a, cap, rfl, hrow⟩ := hr
  refine ⟨a, cap, rfl, ?_⟩
  have := conv_row E40 Tryd.underlying9 w a l.length cap _ (by simp) hrow
  rw [nums_back] at this
  exact this
end

theorem i64w (n : Int) (h : -9223372036854775808 ≤ n ∧ n ≤ 9223372036854775807) : IntKind.i64.wrap n = n := by rw [IntKind.wrap_i64]; omega
theorem Tw.form {w : List UInt8} (h : Tw w) : ∃ (K : Int) (X : ByteArray) (N : Int), ∀ p, tkW w p = ⟨K, X, N, p, p + w.length⟩ := by
  obtain ⟨c, r, rfl, _⟩ := h
  unfold tkW
  simp only
  cases letter c <;> cases digit c
  · exact ⟨3, _, 0, fun p => rfl⟩
  · exact ⟨2, _, _, fun p => rfl⟩
  · exact ⟨1, _, 0, fun p => rfl⟩
  · exact ⟨1, _, 0, fun p => rfl⟩
/-- One token of a text's places. -/
theorem pl_step {s : ByteArray} {q : Nat} {t : Tk} {ts : List Tk} (hs : s.size ≤ 65536) (hq : q ≤ s.size) (h : PlOk (t :: ts) (s.data.toList.drop q) q) : ∃ (K : Int) (X : ByteArray) (N : Int) (g n : Nat),
    t = ⟨K, X, N, q + g, q + g + n⟩ ∧ 0 < n ∧ q + g + n ≤ s.size ∧ gp false (s.extract q (q + g)).data.toList false = true ∧ cutT (s.extract (q + g) (q + g + n)) = ([⟨K, X, N, 0, n⟩], 0, 0) ∧ Tw (s.extract (q + g) (q + g + n)).data.toList ∧ (s.extract (q + g) (q + g + n)).size = n ∧ tkW (s.extract (q + g) (q + g + n)).data.toList (q + g) = t ∧ PlOk ts (s.data.toList.drop (q + g + n)) (q + g + n) := by
  obtain ⟨G, w, r, h1, h2, h3, h4, h5⟩ := h
  obtain ⟨K, X, N, hf⟩ := h3.form
  have hlen := congrArg List.length h1
  rw [List.length_drop, ← Lib.size_eq, List.length_append, List.length_append] at hlen
  have hpos := h3.pos
  have eG : (s.extract q (q + G.length)).data.toList = G := by
    rw [Lib.extract_data, h1, show q + G.length - q = G.length by omega, List.take_left']
    rfl
  have eD : s.data.toList.drop (q + G.length) = w ++ r := by
    rw [← List.drop_drop, h1, List.drop_left']
    rfl
  have eW : (s.extract (q + G.length) (q + G.length + w.length)).data.toList = w := by
    rw [Lib.extract_data, eD, show q + G.length + w.length - (q + G.length) = w.length by omega, List.take_left']
    rfl
  have eR : s.data.toList.drop (q + G.length + w.length) = r := by
    rw [← List.drop_drop, eD, List.drop_left']
    rfl
  have eS : (s.extract (q + G.length) (q + G.length + w.length)).size = w.length := by rw [Lib.size_eq, eW]
  refine ⟨K, X, N, G.length, w.length, by rw [h4, hf], hpos, by omega, by rw [eG]; exact h2, ?_, by rw [eW]; exact h3, eS, by rw [eW, h4], by rw [eR]; exact h5⟩
  rw [cutT, if_neg (by rw [eS]; omega), eW, cut_alone h3, hf]
  simp
theorem getD_drop {ts : List Tk} {k : Nat} (h : k < ts.length) : ts.drop k = ts.getD k tk0 :: ts.drop (k + 1) := by
  rw [List.drop_eq_getElem_cons h]
  simp [List.getD, h]
/-- Cut's answer, by its parts. -/
theorem cut_is {s : ByteArray} {ts : List Tk} {E A : Nat} (h : cutT s = (ts, E, A)) (w : World) : Calls Tryd.prog 22 #[.string s] w fun e w' => ∃ a cap, e = .returned (.tuple #[.slice a ts.length cap, .agg #[.int .i64 E, .int .i64 A]]) ∧ ts.length ≤ cap ∧ Hid (TRow w' a ts) ∧ Hid (w'.ownsRow w.heap.size 73 5 (.slice a ts.length cap) ts.length (cellsT ts)) ∧ Hid (Below w.heap.size w w') := by
  refine (cut_any s w).mono ?_
  rintro e w' ⟨v, rfl, HV, HB⟩
  rw [h] at HV ⊢
  obtain ⟨a, cap, rfl, hc, hr, _⟩ := own_row HV.out
  exact ⟨a, cap, rfl, hc, hr, HV, HB⟩
end Go.Proofs.YtbfmoiaedopeiaaDoor

/- strconv.Itoa of a number from 0 on; a list of nodes cut by one. -/
namespace Go.Proofs.YtbfmoiaedopeiaaDoor
open Go.RowKit
set_option linter.unusedVariables false

/-- The library's table of powers lies where it lay, below B. -/
structure Tab (B : Nat) (w : World) : Prop where
  is : Lib.TabIs Tryd.prog w "internal/strconv.uint64pow10" .u64 Lib.pow10Tab
  lt : ∀ g, Tryd.prog.globalNamed "internal/strconv.uint64pow10" = some g → g < B
theorem Tab.below {B : Nat} {w w' : World} (h : Tab B w) (hB : Below B w w') : Tab B w' := by
  refine ⟨?_, h.lt⟩
  have h1 := h.is
  unfold Lib.TabIs World.var? at *
  cases hg : Tryd.prog.globalNamed "internal/strconv.uint64pow10" with
  | none => rw [hg] at h1; simp at h1
  | some g =>
    rw [hg] at h1
    simp only [Option.bind_some] at h1 ⊢
    rw [hB.block g (h.lt g hg)]
    exact h1
theorem Tab.mono {B B' : Nat} {w : World} (h : Tab B w) (hB : B ≤ B') : Tab B' w := ⟨h.is, fun g hg => Nat.lt_of_lt_of_le (h.lt g hg) hB⟩
theorem Tab.at {w0 w : World} (h : Tab w0.heap.size w0) (hB : Below w0.heap.size w0 w) : Tab w.heap.size w := (h.below hB).mono hB.size
theorem decF_dec : ∀ (f n : Nat), n < 10 ^ (f + 1) → decF (f + 1) n = Lib.decDigits n
  | 0, n, h => by
    have h1 : n < 10 := by simpa using h
    rw [decF, if_pos h1, Lib.decDigits_one h1]
  | f + 1, n, h => by
    by_cases h10 : n < 10
    · rw [decF, if_pos h10, Lib.decDigits_one h10]
    · have hd : n / 10 < 10 ^ (f + 1) := by
        rw [Nat.pow_succ] at h
        exact Nat.div_lt_of_lt_mul (by rw [Nat.mul_comm]; exact h)
      rw [decF, if_neg h10, decF_dec f (n / 10) hd]
      conv => rhs; rw [Lib.decDigits, dif_neg h10]
theorem dec_is {n : Nat} (h : n ≤ 2147483647) : Lib.decDigits n = dec n := (decF_dec 19 n (Nat.lt_of_le_of_lt h (by decide))).symm
theorem itoa_any (n : Nat) (w : World) (hn : n ≤ 2147483647) (ht : Tab w.heap.size w) : Calls Tryd.prog 28 #[.int .i64 (n : Int)] w fun e w' => e = .returned (.string ⟨(dec n).toArray⟩) ∧ Below w.heap.size w w' := by
  refine (Tryd.strconv_Itoa (n : Int) (by omega) (by omega) w ht.is).mono ?_
  rintro e w' ⟨rfl, k, os, rfl⟩
  refine ⟨?_, Lib.below_grow w.heap.size w (Nat.le_refl _) k os⟩
  have h : Lib.itoa (n : Int) = dec n := by unfold Lib.itoa; rw [if_neg (by omega), Int.toNat_natCast, dec_is hn]
  rw [h]
theorem itoa_c (i : Nat) (hi : i < 100) (s : ByteArray) (hs : (⟨(Lib.decDigits i).toArray⟩ : ByteArray) = s) (w : World) : Calls Tryd.prog 28 #[.int .i64 (i : Int)] w fun e w' => e = .returned (.string s) ∧ w = w' := by
  rw [← hs]
  exact (Tryd.strconv_Itoa_small i hi w).mono fun e w' h => ⟨h.1, h.2.symm⟩
theorem decF_le : ∀ (f n : Nat), (decF f n).length ≤ f
  | 0, n => by simp [decF]
  | f + 1, n => by
    rw [decF]
    split
    · simp
    · have := decF_le f (n / 10)
      simp
      exact this
theorem dec_len (n : Nat) : (dec n).length ≤ 20 := decF_le 20 n
/-! ### A list of nodes, its first cut off -/
theorem elemN : Tryd.prog.underlying 31 = some (.slice (Tryd.prog.elem 31)) := by kernel_rfl
theorem elemNi : Tryd.prog.elem 31 = 35 := by kernel_rfl
theorem sizeOfN (w : World) : (sizeOf (Tryd.prog.elem 31)).run Tryd.prog w = .ok 7 w := by
  rw [elemNi]
  exact Tryd.sizeOf35 w
theorem cut1 (b off L c : Nat) (hL : 1 ≤ L) (hc : L ≤ c) : ∃ off', (1 < L → off' = off + 7) ∧ ∀ w', (Instr.slice 31 (.slice (some ⟨b, off, none⟩) L c) (some (.int .i64 1)) none none).run Tryd.prog w' = .ok (.slice (some ⟨b, off', none⟩) (L - 1) (c - 1)) w' := by
  refine ⟨if c = 1 then off else off + 7, fun h => if_neg (by omega), fun w' => ?_⟩
  rw [run_slice_l (P := Tryd.prog) w' 31 _ L c elemN .i64 1 (by omega) (by omega), sizeOfN]
  by_cases h : c = 1
  · simp [sliced, Result.andThen, h]
  · simp [sliced, Result.andThen, h, add_none]
theorem NRow.cut {w : World} {b off L c : Nat} {x : Nd} {N : List Nd} (h : NRow w (some ⟨b, off, none⟩) (x :: N)) (hL : (x :: N).length = L) (hc : L ≤ c) : ∃ off', (∀ w', (Instr.slice 31 (.slice (some ⟨b, off, none⟩) L c) (some (.int .i64 1)) none none).run Tryd.prog w' = .ok (.slice (some ⟨b, off', none⟩) (L - 1) (c - 1)) w') ∧ NRow w (some ⟨b, off', none⟩) N := by
  obtain ⟨off', h1, h2⟩ := cut1 b off L c (by rw [← hL]; simp) hc
  refine ⟨off', h2, ?_⟩
  obtain ⟨b', o', e, hb, hcell⟩ := h.open (by simp)
  injection e with e
  injection e with e1 e2
  subst e1 e2
  cases hN : N with
  | nil => exact .inl rfl
  | cons y M =>
    rw [← hN]
    refine .inr ⟨_, off', rfl, hb, fun i z hz j hj => ?_⟩
    have := hcell (i + 1) z (by simpa using hz) j hj
    rw [h1 (by rw [← hL, hN]; simp)]
    rw [← this]
    congr 2
    omega
end Go.Proofs.YtbfmoiaedopeiaaDoor

/- A text that is printed, in memory: its box, its bytes, whether it is too long. -/
namespace Go.Proofs.YtbfmoiaedopeiaaDoor
open Go.RowKit
set_option linter.unusedVariables false

/-- The text under way: F is all that was added; nothing is laid behind the bound. -/
def Txw (w : World) (B gT gL : Nat) (F : List UInt8) : Prop := B ≤ gT ∧ B ≤ gL ∧ ∃ (vb : Value) (b : List UInt8) (lg : Bool), Blk w gT 46 [vb] ∧ BR B w vb b ∧ Blk w gL 4 [.bool lg] ∧ b.length ≤ 65536 ∧ ((lg = false ∧ b = F) ∨ (lg = true ∧ 65536 < F.length))
/-- What a call leaves alone. -/
def Kp (B : Nat) (w w' : World) : Prop := Below B w w' ∧ ∀ (k : Nat) (t : TypeId) (ys : List Value), t ≠ 5 → t ≠ 46 → t ≠ 4 → Blk w k t ys → Blk w' k t ys
theorem Kp.refl (B : Nat) (w : World) : Kp B w w := ⟨Below.refl _ _, fun _ _ _ _ _ _ h => h⟩
theorem Kp.trans {B : Nat} {w w' w'' : World} (h : Kp B w w') (k : Kp B w' w'') : Kp B w w'' := ⟨h.1.trans k.1, fun j t ys h1 h2 h3 h4 => k.2 j t ys h1 h2 h3 (h.2 j t ys h1 h2 h3 h4)⟩
theorem Kp.of_below {B : Nat} {w w' : World} (hB : B ≤ w.heap.size) (h : Below w.heap.size w w') : Kp B w w' := ⟨h.mono hB, fun j t ys _ _ _ h4 => h4.later h⟩
theorem Kp.of_upd {B : Nat} {S : Nat → Prop} {w w' : World} (hB : B ≤ w.heap.size) (h : Upd S w w') (hs : ∀ k, S k → B ≤ k) (ht : ∀ k, S k → ∃ t ys, Blk w k t ys ∧ (t = 5 ∨ t = 46 ∨ t = 4)) : Kp B w w' := by
  refine ⟨h.below B hB hs, fun j t ys h1 h2 h3 h4 => h4.upd h (fun hj => ?_)⟩
  obtain ⟨t', ys', k1, k2⟩ := ht j hj
  have := blk_type h4 k1
  subst this
  rcases k2 with k2 | k2 | k2
  · exact h1 k2
  · exact h2 k2
  · exact h3 k2
section
variable {w w' : World} {B gT gL : Nat} {F b : List UInt8} {vb : Value} {lg : Bool}
theorem Txw.later (h : Txw w B gT gL F) (hB : Below w.heap.size w w') : Txw w' B gT gL F := by
  obtain ⟨h1, h2, vb, b, lg, k1, k2, k3, k4⟩ := h
  exact ⟨h1, h2, vb, b, lg, k1.later hB, ownS_upd k2 (Upd.of_below (S := fun _ => False) hB) (fun _ _ h => h), k3.later hB, k4⟩
theorem Txw.size (h : Txw w B gT gL F) : B ≤ w.heap.size := by
  obtain ⟨h1, h2, vb, b, lg, k1, _⟩ := h
  exact Nat.le_trans h1 (Nat.le_of_lt k1.lt)
theorem br_not (k2 : BR B w vb b) {k : Nat} {t : TypeId} {ys : List Value} (hk : Blk w k t ys) (ht : t ≠ 5) : ¬ vb.ownBlock = some k := fun e => by
  obtain ⟨zs, hz⟩ := ownS_type k2 e
  exact ht (blk_type hk hz)
/-- Too long, now or before. -/
theorem txw_long (h1 : B ≤ gT) (h2 : B ≤ gL) (k1 : Blk w gT 46 [vb]) (k2 : BR B w vb b) (k3 : Blk w gL 4 [.bool lg]) (hb : b.length ≤ 65536) (hF : 65536 < F.length) :
    Txw (w.setCell ⟨gL, 0, none⟩ (.bool true)) B gT gL F ∧ Kp B w (w.setCell ⟨gL, 0, none⟩ (.bool true)) := by
  have hU : Upd (fun k => k = gL) w (w.setCell ⟨gL, 0, none⟩ (.bool true)) := (Upd.refl _ w).set _ _ (.inl rfl)
  refine ⟨⟨h1, h2, vb, b, true, k1.upd hU (fun e => ?_), ownS_upd k2 hU (fun k hk e => ?_), by have := k3.set 0 (.bool true); simpa using this, hb, .inr ⟨rfl, hF⟩⟩, Kp.of_upd (Nat.le_trans h1 (Nat.le_of_lt k1.lt)) hU (fun k e => by subst e; exact h2) (fun k e => by subst e; exact ⟨_, _, k3, .inr (.inr rfl)⟩)⟩
  · subst e; exact absurd (blk_type k1 k3) (by decide)
  · subst e; exact br_not k2 k3 (by decide) hk
/-- It fits. -/
theorem txw_fit (h1 : B ≤ gT) (h2 : B ≤ gL) (k1 : Blk w gT 46 [vb]) (k2 : BR B w vb b) (k3 : Blk w gL 4 [.bool lg]) (s : ByteArray) (hs : b.length + s.size ≤ 65536) :
    ∃ v' w2, (∃ a2 n2 c2, v' = .slice a2 n2 c2) ∧ (Builtin.append_ #[46, 9] 46 #[vb, .string s]).run Tryd.prog (w.setCell ⟨gL, 0, none⟩ (.bool false)) = .ok v' w2 ∧ (w2.cell? ⟨gT, 0, none⟩ = some vb ∧ w2.frozen? ⟨gT, 0, none⟩ = false) ∧
      Txw (w2.setCell ⟨gT, 0, none⟩ v') B gT gL (b ++ s.data.toList) ∧ Kp B w (w2.setCell ⟨gT, 0, none⟩ v') := by
  have hBw : B ≤ w.heap.size := Nat.le_trans h1 (Nat.le_of_lt k1.lt)
  obtain ⟨w1, hw1⟩ : ∃ w1, w1 = w.setCell ⟨gL, 0, none⟩ (.bool false) := ⟨_, rfl⟩
  have hU : Upd (fun k => k = gL) w w1 := by rw [hw1]; exact (Upd.refl _ w).set _ _ (.inl rfl)
  have j1 : Blk w1 gT 46 [vb] := k1.upd hU (fun e => by subst e; exact absurd (blk_type k1 k3) (by decide))
  have j2 : BR B w1 vb b := ownS_upd k2 hU (fun k hk e => by subst e; exact br_not k2 k3 (by decide) hk)
  have j3 : Blk w1 gL 4 [.bool false] := by rw [hw1]; have := k3.set 0 (.bool false); simpa using this
  rw [← hw1]
  obtain ⟨v', w2, r1, r2, r3⟩ := j2.app s (by omega) (by omega) (Nat.le_trans hBw hU.size)
  have i1 := j1.upd r3 (br_not j2 j1 (by decide))
  have i3 := j3.upd r3 (br_not j2 j3 (by decide))
  have hU3 : Upd (fun k => k = gT) w2 (w2.setCell ⟨gT, 0, none⟩ v') := (Upd.refl _ w2).set _ _ (.inl rfl)
  refine ⟨v', w2, (by obtain ⟨a2, c2, e⟩ := r2.form; exact ⟨a2, _, c2, e⟩), r1, ⟨by have := i1.cell 0; simpa using this, i1.frozen 0⟩, ⟨h1, h2, v', b ++ s.data.toList, false, by have := i1.set 0 v'; simpa using this, ownS_upd r2 hU3 (fun k hk e => by subst e; exact br_not r2 i1 (by decide) hk), i3.upd hU3 (fun e => by subst e; exact absurd (blk_type i1 i3) (by decide)), by rw [List.length_append, ← Lib.size_eq]; exact hs, .inl ⟨rfl, rfl⟩⟩, ?_⟩
  have q1 : Kp B w w1 := Kp.of_upd hBw hU (fun k e => by subst e; exact h2) (fun k e => by subst e; exact ⟨_, _, k3, .inr (.inr rfl)⟩)
  have q2 : Kp B w1 w2 := Kp.of_upd (Nat.le_trans hBw hU.size) r3 (fun k e => by
    rcases j2.2 with ⟨e2, _⟩ | ⟨g, cap, cur, e2, hb, _⟩
    · subst e2; simp [Value.ownBlock] at e
    · subst e2; obtain rfl := own_is e; exact hb) (fun k e => by obtain ⟨zs, hz⟩ := ownS_type j2 e; exact ⟨_, _, hz, .inl rfl⟩)
  have q3 : Kp B w2 (w2.setCell ⟨gT, 0, none⟩ v') := Kp.of_upd (Nat.le_trans (Nat.le_trans hBw hU.size) r3.size) hU3 (fun k e => by subst e; exact h1) (fun k e => by subst e; exact ⟨_, _, i1, .inr (.inl rfl)⟩)
  exact (q1.trans q2).trans q3
end
def catP : List ByteArray → List UInt8
  | [] => []
  | p :: ps => p.data.toList ++ catP ps
theorem catP_app : ∀ (a b : List ByteArray), catP (a ++ b) = catP a ++ catP b
  | [], b => rfl
  | p :: a, b => by simp [catP, catP_app a b]
theorem catP_take {ps : List ByteArray} {k : Nat} {p : ByteArray} (h : ps[k]? = some p) : catP (ps.take (k + 1)) = catP (ps.take k) ++ p.data.toList := by
  obtain ⟨hk, rfl⟩ := List.getElem?_eq_some_iff.1 h
  rw [List.take_succ_eq_append_getElem hk, catP_app]
  simp [catP]
end Go.Proofs.YtbfmoiaedopeiaaDoor

/- Print's add. -/
namespace Go.Proofs.YtbfmoiaedopeiaaDoor
open Go.RowKit
set_option linter.unusedVariables false

set_option maxRecDepth 100000 in
set_option maxHeartbeats 4000000 in
theorem add_any (B gT gL bp : Nat) (F : List UInt8) (ps : List ByteArray) (n : Nat) (w : World) (hn : ps.length = n) (hn10 : n ≤ 10) (HT : Hid (Txw w B gT gL F)) (HP : Hid (Blk w bp 9 (ps.map Value.string))) (hps : ∀ p ∈ ps, p.size ≤ 100000000) :
    Calls Tryd.prog 16 #[.slice (some ⟨bp, 0, none⟩) n n, .pointer (some ⟨gL, 0, none⟩), .pointer (some ⟨gT, 0, none⟩)] w fun e w' => e = .returned (.tuple #[]) ∧ Hid (Txw w' B gT gL (F ++ catP ps)) ∧ Hid (Kp B w w') := by
  have HT0 : Hid (Txw w B gT gL (F ++ catP (ps.take 0))) := hide_ (by have := HT.out; simpa [catP] using this)
  have Hn := hide_ hn
  have Hps := hide_ hps
  clear hn hps HT
  go_enter Tryd.func16, Tryd.ntmps16
  go_wp2_with fail
  go_loopw [8] (fun x8 wr => ∃ k : Nat, k ≤ n ∧ x8 = .int .i64 (k : Int) ∧ Hid (Txw wr B gT gL (F ++ catP (ps.take k))) ∧ Hid (Kp B w wr)) (fun x8 _ => n - (intOf x8).toNat)
  case atStart => exact ⟨0, Nat.zero_le _, rfl, HT0, hide_ (Kp.refl _ _)⟩
  case round =>
    clear HT0
    obtain ⟨k, hk, rfl, HTr, HKr⟩ := hrel
    generalize wr = wq at *
    by_cases hlt : k < n
    · have hlt' : (k : Int) < n := by omega
      have hkp : ps[k]? = some (ps[k]'(by rw [Hn.out]; exact hlt)) := List.getElem?_eq_getElem _
      have hsz := Hps.out _ (List.getElem_mem (by rw [Hn.out]; exact hlt))
      generalize ps[k]'(by rw [Hn.out]; exact hlt) = p at *
      have HC := hide_ (catP_take hkp)
      have KP := HKr.out.2 bp 9 _ (by decide) (by decide) (by decide) HP.out
      have p0 : wq.cell? ⟨bp, k, none⟩ = some (.string p) := by rw [KP.cell, List.getElem?_map, hkp]; rfl
      clear KP hkp
      obtain ⟨h1, h2, vb, b, lg, k1, k2, k3, hb, hor⟩ := HTr.out
      have c1 := k1.cell 0
      have c3 := k3.cell 0
      have z1 := k1.frozen 0
      have z3 := k3.frozen 0
      simp at c1 c3
      obtain ⟨a, cap, hv⟩ := k2.form
      subst hv
      have hne : gT ≠ gL := fun e => by subst e; exact absurd (blk_type k1 k3) (by decide)
      have hne2 : gL ≠ gT := fun e => hne e.symm
      rcases hor with ⟨rfl, hbF⟩ | ⟨rfl, hF⟩
      · by_cases hfit : b.length + p.size ≤ 65536
        · obtain ⟨v', w2, ⟨a2, n2, cap2, hv2⟩, r1, ⟨r2, r3⟩, r4, r5⟩ := txw_fit h1 h2 k1 k2 k3 p hfit
          subst hv2
          have HR := hide_ r1
          have HT2 : Hid (Txw (w2.setCell ⟨gT, 0, none⟩ (.slice a2 n2 cap2)) B gT gL (F ++ catP (ps.take (k + 1)))) := hide_ (by rw [HC.out, ← List.append_assoc, ← hbF]; exact r4)
          have HK2 := hide_ (HKr.out.trans r5)
          have d1 : (wq.setCell ⟨gL, 0, none⟩ (.bool false)).cell? ⟨gT, 0, none⟩ = some (.slice a b.length cap) := by
            have := (k1.other ⟨gL, 0, none⟩ (.bool false) hne).cell 0
            simpa using this
          have hcmp : ¬ ((p.size : Int) > 65536 - (b.length : Int)) := by omega
          have hcmp2 : ¬ (65536 - (b.length : Int) < (p.size : Int)) := by omega
          clear r1 r4 r5 k1 k2 k3 hbF HTr HKr HC
          go_wp2_with (at_builtin; have _t := HR; refine wpList_append_run rfl (.tmp 23) (.tmp 24) 46 9 rfl rfl rfl HR.out ?_; clear HR)
          go_roundw
          case rel => exact ⟨k + 1, by omega, by go_num, HT2, HK2⟩
          case measure => simp [intOf]; omega
        · obtain ⟨r4, r5⟩ := txw_long (F := F ++ catP (ps.take (k + 1))) h1 h2 k1 k2 k3 hb (by rw [HC.out, ← List.append_assoc, ← hbF, List.length_append, ← Lib.size_eq]; omega)
          have HT2 := hide_ r4
          have HK2 := hide_ (HKr.out.trans r5)
          have hcmp : ((p.size : Int) > 65536 - (b.length : Int)) := by omega
          have hcmp2 : (65536 - (b.length : Int) < (p.size : Int)) := by omega
          clear r4 r5 k1 k2 k3 hbF HTr HKr HC
          go_wp2
          go_roundw
          case rel => exact ⟨k + 1, by omega, by go_num, HT2, HK2⟩
          case measure => simp [intOf]; omega
      · obtain ⟨r4, r5⟩ := txw_long (F := F ++ catP (ps.take (k + 1))) h1 h2 k1 k2 k3 hb (by rw [HC.out, ← List.append_assoc, List.length_append]; omega)
        have HT2 := hide_ r4
        have HK2 := hide_ (HKr.out.trans r5)
        clear r4 r5 k1 k2 k3 hF HTr HKr HC
        go_wp2
        go_roundw
        case rel => exact ⟨k + 1, by omega, by go_num, HT2, HK2⟩
        case measure => simp [intOf]; omega
    · obtain rfl : k = n := by omega
      have HT2 : Hid (Txw wq B gT gL (F ++ catP ps)) := hide_ (by have := HTr.out; rwa [← Hn.out, List.take_length] at this)
      clear HTr
      go_wp2
      exact bodyPost_end (v := .tuple #[]) (by simp [results, Tryd.results16]) rfl ⟨rfl, HT2, HKr⟩
/-- add, called with one piece, or with three. -/
theorem add1 {B gT gL : Nat} {F : List UInt8} {w : World} (HT : Hid (Txw w B gT gL F)) (s : ByteArray) (hs : s.size ≤ 1000000) :
    Calls Tryd.prog 16 #[.slice (some ⟨w.heap.size, 0, none⟩) 1 1, .pointer (some ⟨gL, 0, none⟩), .pointer (some ⟨gT, 0, none⟩)] (w.alloc (.cells #[.string s] 9)) fun e w' => e = .returned (.tuple #[]) ∧ Hid (Txw w' B gT gL (F ++ s.data.toList)) ∧ Hid (Kp B w w') := by
  have hB : Below w.heap.size w (w.alloc (.cells #[.string s] 9)) := (Below.refl _ _).alloc (Nat.le_refl _) _
  refine (add_any B gT gL w.heap.size F [s] 1 _ rfl (by decide) (hide_ (HT.out.later hB)) (hide_ (Blk.newA w #[.string s] 9)) (fun p hp => by obtain rfl := List.mem_singleton.1 hp; omega)).mono ?_
  rintro e w' ⟨rfl, h1, h2⟩
  exact ⟨rfl, by have := h1; simpa [catP] using this, hide_ ((Kp.of_below HT.out.size hB).trans h2.out)⟩
theorem add3 {B gT gL : Nat} {F : List UInt8} {w : World} (HT : Hid (Txw w B gT gL F)) (s t u : ByteArray) (hs : s.size ≤ 1000000) (ht : t.size ≤ 1000000) (hu : u.size ≤ 1000000) :
    Calls Tryd.prog 16 #[.slice (some ⟨w.heap.size, 0, none⟩) 3 3, .pointer (some ⟨gL, 0, none⟩), .pointer (some ⟨gT, 0, none⟩)] (w.alloc (.cells #[.string s, .string t, .string u] 9)) fun e w' => e = .returned (.tuple #[]) ∧ Hid (Txw w' B gT gL (F ++ (s.data.toList ++ (t.data.toList ++ u.data.toList)))) ∧ Hid (Kp B w w') := by
  have hB : Below w.heap.size w (w.alloc (.cells #[.string s, .string t, .string u] 9)) := (Below.refl _ _).alloc (Nat.le_refl _) _
  refine (add_any B gT gL w.heap.size F [s, t, u] 3 _ rfl (by decide) (hide_ (HT.out.later hB)) (hide_ (Blk.newA w #[.string s, .string t, .string u] 9)) (fun p hp => by
    simp only [List.mem_cons, List.mem_nil_iff, or_false] at hp
    rcases hp with rfl | rfl | rfl <;> omega)).mono ?_
  rintro e w' ⟨rfl, h1, h2⟩
  exact ⟨rfl, by have := h1; simpa [catP] using this, hide_ ((Kp.of_below HT.out.size hB).trans h2.out)⟩
end Go.Proofs.YtbfmoiaedopeiaaDoor
