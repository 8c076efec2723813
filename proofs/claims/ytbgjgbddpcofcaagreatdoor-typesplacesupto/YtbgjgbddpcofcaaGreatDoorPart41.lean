import Derived.Test.YtbgjgbddpcofcaaGreatDoorPart26
import Derived.Test.YtbgjgbddpcofcaaGreatDoorPart40
import Derived.Test.YtbgjgbddpcofcaaGreatDoorPart21

/- What is built is a schema, plain: depths, definitions. -/
namespace Go.Proofs.YtbgjgbddpcofcaaGreatDoor
open Go.RowKit
set_option linter.unusedVariables false

/-- How deep n trees are. -/
def hF (f : ByteArray → Int) : Nat → Nat → List Nd → Int × List Nd
  | 0, _, N => (0, N)
  | _ + 1, 0, N => (0, N)
  | _ + 1, _ + 1, [] => (0, [])
  | fu + 1, n + 1, x :: N =>
    let a := hF f fu x.kids.toNat N
    let b := hF f fu n a.2
    (max (if x.k = 9 then max (f x.name) 1 else a.1 + 1) b.1, b.2)
theorem hF_zero (f : ByteArray → Int) (fu : Nat) (N : List Nd) : hF f fu 0 N = (0, N) := by cases fu <;> rfl
theorem hF_nn (f : ByteArray → Int) : ∀ (fu n : Nat) (N : List Nd), 0 ≤ (hF f fu n N).1
  | 0, n, N => Int.le_refl _
  | fu + 1, 0, N => Int.le_refl _
  | fu + 1, n + 1, [] => Int.le_refl _
  | fu + 1, n + 1, x :: N => by
    simp only [hF]
    have := hF_nn f fu n (hF f fu x.kids.toNat N).2
    omega
theorem hF_rest (f : ByteArray → Int) : ∀ (fu d : Nat) (k : Int) (n : Nat) (N : List Nd), Forest fu d k n N → ∀ (M : List Nd), (hF f fu n (N ++ M)).2 = M
  | 0, d, k, n, N, h, M => by
    obtain ⟨rfl, rfl⟩ := h
    rfl
  | fu + 1, d, k, 0, N, h, M => by
    have h : N = [] := h
    subst h
    rfl
  | fu + 1, d, k, n + 1, N, h, M => by
    obtain ⟨x, A, B, rfl, h1, h2, h3⟩ := h
    have e1 := hF_rest f fu (d + 1) x.k x.kids.toNat A h2 (B ++ M)
    have e : x :: (A ++ B) ++ M = x :: (A ++ (B ++ M)) := by simp
    rw [e]
    simp only [hF, e1]
    exact hF_rest f fu d k n B h3 M
theorem kidD_le {l : List Int} {B : Int} : ∀ (ps : List Ptz) (d : Int), d ≤ B → (∀ p ∈ ps, l.getD p.ty.toNat 0 ≤ B) → kidD l ps d ≤ B
  | [], d, h, _ => h
  | p :: ps, d, h, hp => by
    have := hp p (by simp)
    exact kidD_le ps (max d (l.getD p.ty.toNat 0)) (by omega) (fun q hq => hp q (by simp [hq]))
theorem dep1_le {l : List Int} {B : Int} {x : Nd} {of : Int} {dp : Nat} {ps : List Ptz} (hx : ndE x of dp = 0) (hl : ps.length = x.kids.toNat) (h0 : 0 ≤ B) (hp : ∀ p ∈ ps, l.getD p.ty.toNat 0 ≤ B) : dep1 l (mdT x ps) ≤ B + 1 := by
  have hc := kind_cases (nd_fine hx).1
  unfold dep1
  have h1 : kidD l (mdT x ps).ps (if hasE (mdT x ps).k = true then l.getD (mdT x ps).e.toNat 0 else 0) ≤ B := by
    refine kidD_le _ _ ?_ (fun p hpp => ?_)
    · have k1 : (mdT x ps).k = x.k := rfl
      rw [k1]
      by_cases h4 : x.k = 4 ∨ x.k = 5 ∨ x.k = 6
      · have h5 : hasE x.k = true := by unfold hasE; exact decide_eq_true h4
        rw [if_pos h5]
        have hk1 : x.kids = 1 := by omega
        rw [hk1] at hl
        obtain ⟨q, rfl⟩ : ∃ q, ps = [q] := List.length_eq_one_iff.1 hl
        have e : (mdT x [q]).e = q.ty := by unfold mdT; simp [h4]
        rw [e]
        exact hp q (by simp)
      · have h5 : ¬ hasE x.k = true := by unfold hasE; simpa using h4
        rw [if_neg h5]
        exact h0
    · by_cases h7 : x.k = 7 ∨ x.k = 8
      · have e : (mdT x ps).ps = ps := by unfold mdT; simp [h7]
        rw [e] at hpp
        exact hp p hpp
      · have e : (mdT x ps).ps = [] := by unfold mdT; simp [h7]
        rw [e] at hpp
        cases hpp
  omega
theorem depL_last (T : List Ty) (t : Ty) : (depL (T ++ [t])).getD T.length 0 = dep1 (depL T) t := by
  rw [depL_snoc]
  simp [List.getD, depL_len]
theorem bF_dep (kn : ByteArray → Option Nat) (f : ByteArray → Int) : ∀ (fu d : Nat) (k : Int) (n : Nat) (A : List Nd), Forest fu d k n A → ∀ (M : List Nd) (T : List Ty), (∀ x ∈ A, x.k = 9 → ∃ t, kn x.name = some t ∧ t < T.length ∧ (depL T).getD t 0 ≤ f x.name) →
    (∀ q ∈ (bF kn fu n (A ++ M) T).1, (depL (bF kn fu n (A ++ M) T).2.2).getD q.ty.toNat 0 ≤ (hF f fu n (A ++ M)).1) ∧ ∀ j, T.length ≤ j → j < (bF kn fu n (A ++ M) T).2.2.length → (depL (bF kn fu n (A ++ M) T).2.2).getD j 0 ≤ (hF f fu n (A ++ M)).1
  | 0, d, k, n, A, h, M, T, hk => ⟨fun q hq => by simp [bF] at hq, fun j h1 h2 => by simp [bF] at h2; omega⟩
  | fu + 1, d, k, 0, A, h, M, T, hk => ⟨fun q hq => by simp [bF] at hq, fun j h1 h2 => by simp [bF] at h2; omega⟩
  | fu + 1, d, k, n + 1, A, h, M, T, hk => by
    obtain ⟨x, A1, B1, rfl, h1, h2, h3⟩ := h
    have r1 := bF_rest kn fu (d + 1) x.k x.kids.toNat A1 h2 (B1 ++ M) T
    have s1 := hF_rest f fu (d + 1) x.k x.kids.toNat A1 h2 (B1 ++ M)
    obtain ⟨m1, -, m3⟩ := bF_len kn fu (d + 1) x.k x.kids.toNat A1 h2 (B1 ++ M) T
    obtain ⟨i1, i2⟩ := bF_dep kn f fu (d + 1) x.k x.kids.toNat A1 h2 (B1 ++ M) T (fun y hy => hk y (by simp [hy]))
    obtain ⟨X1, hX1⟩ := bF_pre kn fu x.kids.toNat (A1 ++ (B1 ++ M)) T
    have e : x :: (A1 ++ B1) ++ M = x :: (A1 ++ (B1 ++ M)) := by simp
    rw [e]
    simp only [bF, hF, r1, s1]
    have hn1 := hF_nn f fu x.kids.toNat (A1 ++ (B1 ++ M))
    generalize hX : bF kn fu x.kids.toNat (A1 ++ (B1 ++ M)) T = X at *
    generalize (hF f fu x.kids.toNat (A1 ++ (B1 ++ M))).1 = ha at *
    have hpre : ∀ t, t < T.length → (depL X.2.2).getD t 0 = (depL T).getD t 0 := fun t ht => by rw [hX1]; exact depL_pre T X1 ht
    by_cases h9 : x.k = 9
    · simp only [h9, if_true]
      obtain ⟨t, ht1, ht2, ht3⟩ := hk x (by simp) h9
      have hA : A1 = [] := by
        have hc := kind_cases (nd_fine h1).1
        have : x.kids.toNat = 0 := by omega
        rw [this] at h2
        cases fu with
        | zero => exact h2.2
        | succ f => exact h2
      have hl : X.2.2.length = T.length := by
        have := bF_cnt kn fu (d + 1) x.k x.kids.toNat A1 h2 (B1 ++ M) T
        rw [hX, hA] at this
        exact this
      obtain ⟨j1, j2⟩ := bF_dep kn f fu d k n B1 h3 M X.2.2 (fun y hy y9 => by obtain ⟨u, q1, q2, q3⟩ := hk y (by simp [hy]) y9; exact ⟨u, q1, by omega, by rw [hpre u q2]; exact q3⟩)
      obtain ⟨Y, hY⟩ := bF_pre kn fu n (B1 ++ M) X.2.2
      generalize (hF f fu n (B1 ++ M)).1 = hb at *
      refine ⟨fun q hq => ?_, fun j h4 h5 => ?_⟩
      · rcases List.mem_cons.1 hq with rfl | hq
        · rw [ht1]
          simp only [Option.getD_some, Int.toNat_natCast]
          rw [hY, depL_pre X.2.2 Y (by omega), hpre t ht2]
          omega
        · have := j1 q hq; omega
      · have := j2 j (by omega) h5; omega
    · simp only [h9, if_false]
      have hd1 : dep1 (depL X.2.2) (mdT x X.1) ≤ ha + 1 := dep1_le h1 m3 hn1 i1
      obtain ⟨j1, j2⟩ := bF_dep kn f fu d k n B1 h3 M (X.2.2 ++ [mdT x X.1]) (fun y hy y9 => by obtain ⟨u, q1, q2, q3⟩ := hk y (by simp [hy]) y9; exact ⟨u, q1, by rw [List.length_append]; omega, by rw [depL_pre X.2.2 _ (by omega), hpre u q2]; exact q3⟩)
      obtain ⟨Y, hY⟩ := bF_pre kn fu n (B1 ++ M) (X.2.2 ++ [mdT x X.1])
      generalize (hF f fu n (B1 ++ M)).1 = hb at *
      refine ⟨fun q hq => ?_, fun j h4 h5 => ?_⟩
      · rcases List.mem_cons.1 hq with rfl | hq
        · simp only [Int.toNat_natCast]
          rw [hY, depL_pre _ Y (by simp), depL_last]
          omega
        · have := j1 q hq; omega
      · rcases Nat.lt_or_ge j X.2.2.length with hlt | hge
        · rw [hY, depL_pre _ Y (by simp; omega), depL_pre _ _ hlt]
          have := i2 j h4 hlt
          omega
        · by_cases he : j = X.2.2.length
          · subst he
            rw [hY, depL_pre _ Y (by simp), depL_last]
            omega
          · have := j2 j (by simp; omega) h5
            omega
/-! ### The program's depths are no less -/
theorem hg_hF (f : ByteArray → Int) : ∀ (fu d : Nat) (k : Int) (n : Nat) (A : List Nd), Forest fu d k n A → ∀ (pre M : List Nd) (Pp : List Int) (p : Int) (st : List Int) (ds : List Int), Pp.length = pre.length → 0 ≤ p → p < pre.length → ds.length = (pre ++ (A ++ M)).length →
    ∃ ds', hgL f (pre ++ (A ++ M)) (Pp ++ par (A ++ M) pre.length (List.replicate n p ++ st)) (pre.length + A.length) ds = hgL f (pre ++ (A ++ M)) (Pp ++ par (A ++ M) pre.length (List.replicate n p ++ st)) pre.length ds' ∧ ds'.length = ds.length ∧ (∀ q, q < pre.length → ds.getD q 0 ≤ ds'.getD q 0) ∧ (0 < n → (hF f fu n (A ++ M)).1 + 1 ≤ ds'.getD p.toNat 0)
  | 0, d, k, n, A, h, pre, M, Pp, p, st, ds, hl, hp, hp2, hd => by
    obtain ⟨rfl, rfl⟩ := h
    exact ⟨ds, by simp, rfl, fun q hq => Int.le_refl _, fun h => by omega⟩
  | fu + 1, d, k, 0, A, h, pre, M, Pp, p, st, ds, hl, hp, hp2, hd => by
    have h : A = [] := h
    subst h
    exact ⟨ds, by simp, rfl, fun q hq => Int.le_refl _, fun h => by omega⟩
  | fu + 1, d, k, n + 1, A, h, pre, M, Pp, p, st, ds, hl, hp, hp2, hd => by
    obtain ⟨x, A1, B1, rfl, h1, h2, h3⟩ := h
    have s1 := hF_rest f fu (d + 1) x.k x.kids.toNat A1 h2 (B1 ++ M)
    obtain ⟨Q1, l1, e1⟩ := par_app fu (d + 1) x.k x.kids.toNat A1 h2 (B1 ++ M) (pre.length + 1) (pre.length : Int) (List.replicate n p ++ st)
    have eN : pre ++ (x :: (A1 ++ B1) ++ M) = (pre ++ [x]) ++ (A1 ++ (B1 ++ M)) := by simp
    have eN2 : pre ++ (x :: (A1 ++ B1) ++ M) = (pre ++ x :: A1) ++ (B1 ++ M) := by simp
    have e : x :: (A1 ++ B1) ++ M = x :: (A1 ++ (B1 ++ M)) := by simp
    have eP : Pp ++ par (x :: (A1 ++ B1) ++ M) pre.length (List.replicate (n + 1) p ++ st) = (Pp ++ [p]) ++ par (A1 ++ (B1 ++ M)) (pre.length + 1) (List.replicate x.kids.toNat (pre.length : Int) ++ (List.replicate n p ++ st)) := by
      rw [e, par, List.replicate_succ]
      simp
    have eP2 : Pp ++ par (x :: (A1 ++ B1) ++ M) pre.length (List.replicate (n + 1) p ++ st) = (Pp ++ p :: Q1) ++ par (B1 ++ M) (pre.length + 1 + A1.length) (List.replicate n p ++ st) := by
      rw [eP, e1]
      simp
    have i2 := hg_hF f fu d k n B1 h3 (pre ++ x :: A1) M (Pp ++ p :: Q1) p st ds (by simp [hl, l1]) hp (by simp; omega) (by rw [← eN2]; exact hd)
    rw [← eN2, show (pre ++ x :: A1).length = pre.length + 1 + A1.length by simp; omega, ← eP2] at i2
    obtain ⟨d1, a1, a2, a3, a4⟩ := i2
    have i1 := hg_hF f fu (d + 1) x.k x.kids.toNat A1 h2 (pre ++ [x]) (B1 ++ M) (Pp ++ [p]) (pre.length : Int) (List.replicate n p ++ st) d1 (by simp [hl]) (by omega) (by simp; omega) (by rw [← eN, a2]; exact hd)
    rw [← eN, show (pre ++ [x]).length = pre.length + 1 by simp, ← eP] at i1
    obtain ⟨d2, b1, b2, b3, b4⟩ := i1
    have hgx : (pre ++ (x :: (A1 ++ B1) ++ M)).getD pre.length nd0 = x := by simp [List.getD]
    have hgp : (Pp ++ par (x :: (A1 ++ B1) ++ M) pre.length (List.replicate (n + 1) p ++ st)).getD pre.length 0 = p := by
      rw [eP2, ← hl]
      simp [List.getD]
    have hdl : pre.length < d2.length := by rw [b2, a2, hd]; simp
    refine ⟨hgS f x p pre.length d2, ?_, by rw [hgS_len, b2, a2], fun q hq => ?_, fun _ => ?_⟩
    · rw [show pre.length + (x :: (A1 ++ B1)).length = pre.length + 1 + A1.length + B1.length by simp; omega, a1, b1, hgL, hgx, hgp]
    · have k1 := a3 q (by omega)
      have k2 := b3 q (by omega)
      by_cases hqp : (q : Int) = p
      · have := hgS_par (f := f) x p pre.length d2 hdl hp2 hp
        rw [show p.toNat = q by omega] at this
        rw [this]
        omega
      · rw [hgS_other x p pre.length q d2 (by omega) hqp]
        omega
    · rw [hgS_par x p pre.length d2 hdl hp2 hp]
      rw [e]
      simp only [hF, s1]
      have hv1 : 1 ≤ hgV f x pre.length d2 := by unfold hgV; omega
      have hv : (if x.k = 9 then max (f x.name) 1 else (hF f fu x.kids.toNat (A1 ++ (B1 ++ M))).1 + 1) ≤ hgV f x pre.length d2 := by
        by_cases h9 : x.k = 9
        · rw [if_pos h9]
          unfold hgV
          rw [if_pos h9]
          omega
        · rw [if_neg h9]
          by_cases h0 : 0 < x.kids.toNat
          · have := b4 h0
            rw [Int.toNat_natCast] at this
            unfold hgV
            rw [if_neg h9]
            omega
          · rw [show x.kids.toNat = 0 by omega, hF_zero]
            exact hv1
      have hb : (hF f fu n (B1 ++ M)).1 + 1 ≤ max (d2.getD p.toNat 0) (hgV f x pre.length d2 + 1) := by
        by_cases h0 : 0 < n
        · have k1 := a4 h0
          have k2 := b3 p.toNat (by omega)
          omega
        · rw [show n = 0 by omega, hF_zero]
          simp only
          omega
      omega
theorem hgt_hF {f : ByteArray → Int} {N : List Nd} (h : Forest N.length 0 0 1 N) : (hF f N.length 1 N).1 ≤ hgt f N := by
  obtain ⟨fu, hfu⟩ : ∃ fu, N.length = fu := ⟨_, rfl⟩
  rw [hfu] at h ⊢
  cases fu with
  | zero => exact absurd h.1 (by decide)
  | succ fu =>
    obtain ⟨x, A, B, rfl, h1, h2, h3⟩ := h
    have hB : B = [] := by cases fu with
      | zero => exact h3.2
      | succ f => exact h3
    subst hB
    rw [List.append_nil] at hfu ⊢
    have i := hg_hF f fu 1 x.k x.kids.toNat A h2 [x] [] [-1] 0 [] (List.replicate (fu + 1) 0) rfl (by omega) (by simp) (by simpa using hfu.symm)
    simp only [List.append_nil] at i
    obtain ⟨d1, a1, a2, a3, a4⟩ := i
    have hP : parP (x :: A) = [-1] ++ par A [x].length (List.replicate x.kids.toNat 0) := by
      unfold parP
      rw [par]
      simp
    unfold hgt
    rw [hP, hfu]
    have e2 : fu + 1 = [x].length + A.length := by simp at hfu ⊢; omega
    rw [List.singleton_append] at a1
    rw [show List.replicate (fu + 1) (0 : Int) = List.replicate (fu + 1) 0 from rfl]
    have e3 : hgL f (x :: A) ([-1] ++ par A [x].length (List.replicate x.kids.toNat 0)) (fu + 1) (List.replicate (fu + 1) 0) = hgL f (x :: A) ([-1] ++ par A [x].length (List.replicate x.kids.toNat 0)) [x].length d1 := by
      rw [← a1, ← e2]
    rw [e3]
    have hl1 : 0 < d1.length := by rw [a2]; simp
    have e4 : hgL f (x :: A) ([-1] ++ par A [x].length (List.replicate x.kids.toNat 0)) [x].length d1 = hgS f x (-1) 0 d1 := rfl
    rw [e4, hgS_at x (-1) 0 d1 hl1 (by omega)]
    have s1 := hF_rest f fu 1 x.k x.kids.toNat A h2 []
    rw [List.append_nil] at s1
    simp only [hF, s1, hF_zero]
    have hv1 : 1 ≤ hgV f x 0 d1 := by unfold hgV; omega
    by_cases h9 : x.k = 9
    · rw [if_pos h9]
      unfold hgV
      rw [if_pos h9]
      omega
    · rw [if_neg h9]
      by_cases h0 : 0 < x.kids.toNat
      · have := a4 h0
        unfold hgV
        rw [if_neg h9]
        simp only [Int.toNat_zero] at this
        omega
      · rw [show x.kids.toNat = 0 by omega, hF_zero]
        simp only
        omega
/-! ### Definitions, one by one -/
theorem lkN_nodup {D : List Df} : ∀ (N : List Nd) (P : List Int) (met : List Pt), P.length = N.length → (lkN D N P met).1 = 0 → (trp N P).Nodup ∧ ∀ q ∈ trp N P, hasP met q = false
  | [], P, met, _, _ => by simp [trp]
  | y :: N, [], met, h, _ => by simp at h
  | y :: N, p :: P, met, hl, h => by
    rw [lkN] at h
    by_cases h1 : hasP met (p, y.label, y.tag) = true
    · rw [if_pos h1] at h; simp at h
    rw [if_neg h1] at h
    by_cases h2 : y.k = 9 ∧ numN D y.name = none
    · rw [if_pos h2] at h; simp at h
    rw [if_neg h2] at h
    obtain ⟨i1, i2⟩ := lkN_nodup N P _ (by simpa using hl) h
    have e : trp (y :: N) (p :: P) = (p, y.label, y.tag) :: trp N P := rfl
    rw [e]
    refine ⟨List.nodup_cons.2 ⟨fun hm => ?_, i1⟩, fun q hq => ?_⟩
    · have := i2 _ hm
      rw [hasP_snoc] at this
      simp at this
    · rcases List.mem_cons.1 hq with rfl | hq
      · simpa using h1
      · have := i2 q hq
        rw [hasP_snoc, Bool.or_eq_false_iff] at this
        exact this.1
def df0 : Df := ⟨⟨#[]⟩, 0, []⟩
/-- What is made of the definitions S. -/
structure BoI (D : List Df) (ds : List Int) (S : List Nat) (kn : ByteArray → Option Nat) (T : List Ty) : Prop where
  ok : AllOk T
  dep : ∀ j, j < T.length → (depL T).getD j 0 ≤ 64
  made : ∀ m ∈ S, ∀ d, D[m]? = some d → ∃ t, kn d.name = some t ∧ t < T.length ∧ (depL T).getD t 0 ≤ ds.getD m 0
  used : ∀ j, j < T.length → UsedIn T j ∨ ∃ m ∈ S, ∃ d, D[m]? = some d ∧ kn d.name = some j
  cnt : T.length = (S.map (fun m => cntX (D.getD m df0).ty)).sum
theorem BoI.nil (D : List Df) (ds : List Int) (kn : ByteArray → Option Nat) : BoI D ds [] kn [] := ⟨fun j hj => by simp at hj, fun j hj => by simp at hj, fun m hm => (by cases hm), fun j hj => by simp at hj, rfl⟩
theorem BoI.step {D : List Df} {o : List Nat} {ds : List Int} (hg : Good D o ds) (hlb : (lbD D).1 = 0) {S : List Nat} {kn : ByteArray → Option Nat} {T : List Ty} (h : BoI D ds S kn T) {m : Nat} {d : Df} (hd : D[m]? = some d) (hr : Rdy (usD D) S m) (hS : ∀ u ∈ S, u < D.length) :
    BoI D ds (S ++ [m]) (bD kn T d).1 (bD kn T d).2 := by
  obtain ⟨-, hck⟩ := ckP_all hg.ck
  have hmem := List.mem_of_getElem? hd
  have hF := (hck d hmem).2
  obtain ⟨hnum, hlk⟩ := lkD_ok D 0 hg.lk m d hd
  rw [Nat.zero_add] at hnum
  have hkn : ∀ x ∈ d.ty, x.k = 9 → ∃ t, kn x.name = some t ∧ t < T.length ∧ (depL T).getD t 0 ≤ depF D ds x.name := fun x hx h9 => by
    obtain ⟨u, hu⟩ := known hg.lk hd hx h9
    obtain ⟨d', hd', hn'⟩ := numN_some hu
    have hz : numZ D x.name = u := by unfold numZ; rw [hu]; rfl
    have h1 : u ∈ us (usD D) m := by rw [us_usD hd, mem_usT]; exact ⟨x, hx, h9, hz.symm⟩
    obtain ⟨t, t1, t2, t3⟩ := h.made u (hr.2 u h1) d' hd'
    refine ⟨t, by rw [← hn']; exact t1, t2, ?_⟩
    unfold depF
    rw [hz]
    exact t3
  have hnd : (trp d.ty (parP d.ty)).Nodup := (lkN_nodup d.ty (parP d.ty) [] (parP_len _) hlk).1
  have hpar : parP d.ty = par (d.ty ++ []) 0 (List.replicate 1 (-1) ++ []) := by simp [parP]
  have hlbd := lbN_all d.ty (lbD_all D hlb d hmem)
  have ok := bF_ok kn d.ty.length 0 0 1 d.ty hF [] 0 (-1) [] T hlbd (by rw [← hpar]; simpa using hnd) h.ok (fun x hx h9 => by obtain ⟨t, t1, t2, -⟩ := hkn x hx h9; exact ⟨t, t1, t2⟩)
  have dep := bF_dep kn (depF D ds) d.ty.length 0 0 1 d.ty hF [] T hkn
  have cnt := bF_cnt kn d.ty.length 0 0 1 d.ty hF [] T
  have use := bF_used kn d.ty.length 0 0 1 d.ty hF [] T
  obtain ⟨X, hX⟩ := bF_pre kn d.ty.length 1 d.ty T
  obtain ⟨-, -, hl1⟩ := bF_len kn d.ty.length 0 0 1 d.ty hF [] T
  have hh := hgt_hF (f := depF D ds) hF
  have hdm := hg.dep.2 m d hd
  have hdeep := hg.deep m
  rw [List.append_nil] at ok dep cnt use hl1
  have eB : bD kn T d = (fun t => if t = d.name then some (((bF kn d.ty.length 1 d.ty T).1.headD pt0).ty.toNat) else kn t, (bF kn d.ty.length 1 d.ty T).2.2) := rfl
  rw [eB]
  generalize bF kn d.ty.length 1 d.ty T = r at *
  generalize (Go.Proofs.YtbgjgbddpcofcaaGreatDoor.hF (depF D ds) d.ty.length 1 d.ty).1 = hv at *
  obtain ⟨q, hq⟩ := List.length_eq_one_iff.1 hl1
  have hq1 := ok.2 q (by rw [hq]; simp)
  have hq2 := dep.1 q (by rw [hq]; simp)
  have ehd : (r.1.headD pt0) = q := by rw [hq]; rfl
  simp only [ehd]
  have hTl : T.length ≤ r.2.2.length := by rw [hX]; simp
  have hpre : ∀ t, t < T.length → (depL r.2.2).getD t 0 = (depL T).getD t 0 := fun t ht => by rw [hX]; exact depL_pre T X ht
  have hother : ∀ m' ∈ S, ∀ d', D[m']? = some d' → d'.name ≠ d.name := fun m' hm' d' hd' e => by
    obtain ⟨hnum', -⟩ := lkD_ok D 0 hg.lk m' d' hd'
    rw [e, hnum, Nat.zero_add] at hnum'
    injection hnum' with hnum'
    subst hnum'
    exact hr.1 hm'
  refine ⟨ok.1, fun j hj => ?_, fun m' hm' d' hd' => ?_, fun j hj => ?_, ?_⟩
  · rcases Nat.lt_or_ge j T.length with hlt | hge
    · rw [hpre j hlt]; exact h.dep j hlt
    · have := dep.2 j hge hj
      omega
  · rcases List.mem_append.1 hm' with hm' | hm'
    · obtain ⟨t, t1, t2, t3⟩ := h.made m' hm' d' hd'
      exact ⟨t, by rw [if_neg (hother m' hm' d' hd')]; exact t1, by omega, by rw [hpre t t2]; exact t3⟩
    · simp at hm'
      subst hm'
      rw [hd] at hd'
      injection hd' with hd'
      subst hd'
      exact ⟨q.ty.toNat, by rw [if_pos rfl], by omega, by omega⟩
  · rcases Nat.lt_or_ge j T.length with hlt | hge
    · rcases h.used j hlt with hu | ⟨m', hm', d', hd', e⟩
      · left; rw [hX]; exact hu.app
      · right
        exact ⟨m', List.mem_append_left _ hm', d', hd', by rw [if_neg (hother m' hm' d' hd')]; exact e⟩
    · rcases use j hge hj with ⟨q', hq', e⟩ | hu
      · right
        rw [hq] at hq'
        simp at hq'
        subst hq'
        exact ⟨m, by simp, d, hd, by rw [if_pos rfl, e]; rfl⟩
      · exact .inl hu
  · rw [List.map_append, List.sum_append, ← h.cnt, cnt]
    have e9 : D.getD m df0 = d := by simp [List.getD, hd]
    simp only [List.map_cons, List.map_nil, List.sum_cons, List.sum_nil, e9, Nat.add_zero]
theorem bO_all {D : List Df} {o : List Nat} {ds : List Int} (hg : Good D o ds) (hlb : (lbD D).1 = 0) : ∀ i, i ≤ o.length → BoI D ds (o.take i) (bO D (o.take i) (fun _ => none) []).1 (bO D (o.take i) (fun _ => none) []).2
  | 0, _ => by rw [List.take_zero]; exact BoI.nil D ds _
  | i + 1, hi => by
    have ih := bO_all hg hlb i (by omega)
    have hio : o[i]? = some (o[i]'(by omega)) := List.getElem?_eq_getElem _
    have ht : o.take (i + 1) = o.take i ++ [o[i]'(by omega)] := by rw [List.take_add_one, hio]; rfl
    obtain ⟨k1, k2, k3⟩ := hg.ord i _ hio
    rw [usD_len] at k1
    generalize o[i]'(by omega) = m at *
    have hd : D[m]? = some (D[m]'k1) := List.getElem?_eq_getElem k1
    rw [ht, bO_snoc]
    have e9 : D.getD m ⟨⟨#[]⟩, 0, []⟩ = D[m]'k1 := by simp [List.getD, hd]
    rw [e9]
    exact ih.step hg hlb hd k2 (fun u hu => by
      have := hg.ord.lt (List.mem_of_mem_take hu)
      rw [usD_len] at this
      exact this)
theorem sum_perm {l l' : List Nat} (h : l.Perm l') : l.sum = l'.sum := h.sum_nat
theorem getD_range {D : List Df} (g : Df → Nat) : ((List.range D.length).map (fun m => g (D.getD m df0))).sum = (D.map g).sum := by
  congr 1
  refine List.ext_getElem? (fun i => ?_)
  rw [List.getElem?_map, List.getElem?_map]
  rcases Nat.lt_or_ge i D.length with h | h
  · simp [List.getD, h]
  · rw [List.getElem?_eq_none (by simpa using h), List.getElem?_eq_none h]
    rfl
/-- All that TypesRight asks of what is built. -/
structure RtOk (D : List Df) (T : List Ty) (R : List Rt) : Prop where
  chk : chk T R = (0, 0)
  cnt : T.length = (D.map (fun d => cntX d.ty)).sum
  len : R.length = D.length
  nm : ∀ (i : Nat) (d : Df), D[i]? = some d → ∃ t : Nat, R[i]? = some ⟨d.name, (t : Int)⟩ ∧ t < T.length ∧ findR R d.name = i
  used : ∀ j : Nat, j < T.length → UsedIn T j ∨ ∃ r ∈ R, r.ty = j
  ok : AllOk T
theorem BlTo.right {D : List Df} {T : List Ty} {R : List Rt} {o : List Nat} {ds : List Int} (hg : Good D o ds) (hlb : (lbD D).1 = 0) (hT : T = (bO D o (fun _ => none) []).2) (hR : R = rtsP D (bO D o (fun _ => none) []).1) : RtOk D T R := by
  have h := bO_all hg hlb o.length (Nat.le_refl _)
  rw [List.take_length, ← hT] at h
  generalize (bO D o (fun _ => none) []).1 = kn at *
  obtain ⟨h256, hck⟩ := ckP_all hg.ck
  have hall : ∀ i, i < D.length → i ∈ o := fun i hi => hg.ord.all (by rw [usD_len]; exact hg.len) (by rw [usD_len]; exact hi)
  have hlen : R.length = D.length := by rw [hR]; simp [rtsP]
  have hRi : ∀ (i : Nat) (d : Df), D[i]? = some d → R[i]? = some ⟨d.name, (((kn d.name).getD 0 : Nat) : Int)⟩ := fun i d hd => by rw [hR]; simp [rtsP, hd]
  have hfi : ∀ (i : Nat) (d : Df), D[i]? = some d → findR R d.name = i := fun i d hd => by
    obtain ⟨hnum, -⟩ := lkD_ok D 0 hg.lk i d hd
    rw [Nat.zero_add] at hnum
    unfold numN at hnum
    unfold findR
    rw [hR]
    unfold rtsP
    rw [List.findIdx_map]
    exact (List.findIdx?_eq_some_iff_findIdx_eq.1 hnum).2
  have hnm : ∀ (i : Nat) (d : Df), D[i]? = some d → ∃ t : Nat, R[i]? = some ⟨d.name, (t : Int)⟩ ∧ t < T.length ∧ findR R d.name = i := fun i d hd => by
    obtain ⟨t, t1, t2, t3⟩ := h.made i (hall i (List.getElem?_eq_some_iff.1 hd).1) d hd
    exact ⟨t, by rw [hRi i d hd, t1]; rfl, t2, hfi i d hd⟩
  have hOk : OkSz T R := ⟨h.ok, h.dep, fun i hi => by
    rw [hlen] at hi
    have hd : D[i]? = some (D[i]'hi) := List.getElem?_eq_getElem hi
    obtain ⟨t, t1, t2, t3⟩ := hnm i _ hd
    have hn := (hck _ (List.getElem_mem hi)).1
    have e : R.getD i rt0 = ⟨(D[i]'hi).name, (t : Int)⟩ := by simp [List.getD, t1]
    unfold rootOk
    rw [e]
    simp only
    rw [hn, t3]
    unfold inB
    rw [decide_eq_true (show i < 256 by omega), decide_eq_true (show (0 : Int) ≤ (t : Int) ∧ (t : Int) < (T.length : Int) by omega), decide_eq_true rfl]
    rfl⟩
  refine ⟨hOk.chk, ?_, hlen, hnm, fun j hj => ?_, h.ok⟩
  · rw [h.cnt, ← getD_range (fun d => cntX d.ty)]
    refine sum_perm (List.Perm.map _ ?_)
    refine (List.perm_ext_iff_of_nodup hg.ord.nodup List.nodup_range).2 (fun i => ?_)
    rw [List.mem_range]
    refine ⟨fun hi => ?_, fun hi => hall i hi⟩
    have := hg.ord.lt hi
    rw [usD_len] at this
    exact this
  · rcases h.used j hj with hu | ⟨m, hm, d, hd, e⟩
    · exact .inl hu
    · refine .inr ⟨_, List.mem_of_getElem? (hRi m d hd), ?_⟩
      rw [e]
      rfl
end Go.Proofs.YtbgjgbddpcofcaaGreatDoor

/- Types of a source, plain: places are nothing. -/
namespace Go.Proofs.YtbgjgbddpcofcaaGreatDoor
open Go.RowKit
set_option linter.unusedVariables false

theorem ct_z : ∀ (N : List Nd) (i : Nat) (L : List (Int × Int)), ct (N.map zNd) i L = ct N i L
  | [], i, L => rfl
  | x :: N, i, L => by
    have h1 : ctE L (zNd x) = ctE L x := rfl
    have h2 : ctS L (zNd x) = ctS L x := rfl
    rw [List.map_cons]
    unfold ct
    rw [h1, h2, ct_z N]
theorem ckL_z : ∀ (D : List Df) (i : Nat), ckL (D.map zDf) i = ckL D i
  | [], i => rfl
  | d :: D, i => by
    have h1 : (zDf d).name = d.name := rfl
    have h2 : ct (zDf d).ty 0 [(0, 1)] = ct d.ty 0 [(0, 1)] := ct_z d.ty 0 _
    rw [List.map_cons]
    unfold ckL
    rw [h1, h2, ckL_z D]
theorem ckP_z (D : List Df) : ckP (D.map zDf) = ckP D := by
  unfold ckP
  rw [List.length_map, ckL_z]
theorem numN_z (D : List Df) (s : ByteArray) : numN (D.map zDf) s = numN D s := by
  unfold numN
  rw [List.findIdx?_map]
  rfl
theorem numZ_z (D : List Df) (s : ByteArray) : numZ (D.map zDf) s = numZ D s := by unfold numZ; rw [numN_z]
theorem par_z : ∀ (N : List Nd) (i : Nat) (st : List Int), par (N.map zNd) i st = par N i st
  | [], i, st => rfl
  | x :: N, i, st => by
    rw [List.map_cons, par, par, par_z N]
    rfl
theorem parP_z (N : List Nd) : parP (N.map zNd) = parP N := par_z N 0 _
theorem lkN_z (D D' : List Df) (h : ∀ s, numN D' s = numN D s) : ∀ (N : List Nd) (P : List Int) (met : List Pt), (lkN D' (N.map zNd) P met).1 = (lkN D N P met).1
  | [], P, met => by cases P <;> rfl
  | x :: N, [], met => rfl
  | x :: N, p :: P, met => by
    rw [List.map_cons, lkN, lkN]
    have h1 : (zNd x).label = x.label := rfl
    have h2 : (zNd x).tag = x.tag := rfl
    have h3 : (zNd x).k = x.k := rfl
    have h4 : (zNd x).name = x.name := rfl
    rw [h1, h2, h3, h4, h]
    split
    · rfl
    · split
      · rfl
      · exact lkN_z D D' h N P _
theorem lkT_z (D D' : List Df) (h : ∀ s, numN D' s = numN D s) (N : List Nd) : (lkT D' (N.map zNd)).1 = (lkT D N).1 := by
  unfold lkT
  rw [parP_z]
  exact lkN_z D D' h N _ _
theorem lkD_z (D0 D0' : List Df) (h : ∀ s, numN D0' s = numN D0 s) : ∀ (D : List Df) (i : Nat), (lkD D0' (D.map zDf) i).1 = (lkD D0 D i).1
  | [], i => rfl
  | d :: D, i => by
    have h1 : (zDf d).name = d.name := rfl
    have h2 : (lkT D0' (zDf d).ty).1 = (lkT D0 d.ty).1 := lkT_z D0 D0' h d.ty
    rw [List.map_cons, lkD, lkD, h1, h, h2]
    split
    · split
      · exact lkD_z D0 D0' h D _
      · exact h2
    · rfl
theorem usT_z (D D' : List Df) (h : ∀ s, numZ D' s = numZ D s) (N : List Nd) : usT D' (N.map zNd) = usT D N := by
  unfold usT
  rw [List.foldl_map]
  congr 1
  funext acc x
  unfold usAdd
  have h3 : (zNd x).k = x.k := rfl
  have h4 : (zNd x).name = x.name := rfl
  rw [h3, h4, h]
theorem usD_z (D : List Df) : usD (D.map zDf) = usD D := by
  unfold usD
  rw [List.map_map]
  refine List.map_congr_left (fun d _ => ?_)
  exact usT_z D (D.map zDf) (numZ_z D) d.ty
theorem hgL_z (f : ByteArray → Int) (N : List Nd) (P : List Int) : ∀ (i : Nat) (ds : List Int), hgL f (N.map zNd) P i ds = hgL f N P i ds
  | 0, ds => rfl
  | i + 1, ds => by
    rw [hgL, hgL]
    have e : (N.map zNd).getD i nd0 = zNd (N.getD i nd0) := by
      simp only [List.getD, List.getElem?_map]
      cases N[i]? <;> rfl
    have e2 : hgS f (zNd (N.getD i nd0)) (P.getD i 0) i ds = hgS f (N.getD i nd0) (P.getD i 0) i ds := rfl
    rw [e, e2]
    exact hgL_z f N P i _
theorem hgt_z (f : ByteArray → Int) (N : List Nd) : hgt f (N.map zNd) = hgt f N := by
  unfold hgt
  rw [parP_z, List.length_map, hgL_z]
theorem depF_z (D : List Df) (ds : List Int) : depF (D.map zDf) ds = depF D ds := by
  funext s
  unfold depF
  rw [numZ_z]
theorem depR_z {D : List Df} {ds : List Int} : DepR (D.map zDf) ds ↔ DepR D ds := by
  unfold DepR
  rw [List.length_map, depF_z]
  refine and_congr_right (fun _ => ⟨fun h i d hd => ?_, fun h i d hd => ?_⟩)
  · have := h i (zDf d) (by rw [List.getElem?_map, hd]; rfl)
    rw [this]
    exact hgt_z _ _
  · rw [List.getElem?_map, Option.map_eq_some_iff] at hd
    obtain ⟨d0, h0, rfl⟩ := hd
    rw [h i d0 h0]
    exact (hgt_z _ _).symm
theorem good_z {D : List Df} {o : List Nat} {ds : List Int} : Good (D.map zDf) o ds ↔ Good D o ds := by
  have h1 : (ckP (D.map zDf)).2.2 = (ckP D).2.2 := by rw [ckP_z]
  have h2 : (lkD (D.map zDf) (D.map zDf) 0).1 = (lkD D D 0).1 := lkD_z D _ (numN_z D) D 0
  have h3 := usD_z D
  constructor
  · intro h
    exact ⟨by rw [← h1]; exact h.ck, by rw [← h2]; exact h.lk, by rw [← h3]; exact h.acy, by rw [← h3]; exact h.ord, by have := h.len; rwa [List.length_map] at this, depR_z.1 h.dep, h.deep⟩
  · intro h
    exact ⟨by rw [h1]; exact h.ck, by rw [h2]; exact h.lk, by rw [h3]; exact h.acy, by rw [h3]; exact h.ord, by rw [List.length_map]; exact h.len, depR_z.2 h.dep, h.deep⟩
theorem lbN_z : ∀ N : List Nd, (lbN (N.map zNd)).1 = (lbN N).1
  | [] => rfl
  | x :: N => by
    rw [List.map_cons, lbN, lbN]
    have h1 : (zNd x).k = x.k := rfl
    have h2 : (zNd x).n = x.n := rfl
    have h3 : (zNd x).tag = x.tag := rfl
    rw [h1, h2, h3]
    split
    · rfl
    · exact lbN_z N
theorem lbD_z : ∀ D : List Df, (lbD (D.map zDf)).1 = (lbD D).1
  | [] => rfl
  | d :: D => by
    have h : (lbN (zDf d).ty).1 = (lbN d.ty).1 := lbN_z d.ty
    rw [List.map_cons, lbD, lbD, h]
    split
    · exact lbD_z D
    · exact h
theorem bF_z (kn : ByteArray → Option Nat) : ∀ (fu n : Nat) (N : List Nd) (T : List Ty), bF kn fu n (N.map zNd) T = ((bF kn fu n N T).1, (bF kn fu n N T).2.1.map zNd, (bF kn fu n N T).2.2)
  | 0, n, N, T => rfl
  | fu + 1, 0, N, T => rfl
  | fu + 1, n + 1, [], T => rfl
  | fu + 1, n + 1, x :: N, T => by
    have h1 : (zNd x).kids = x.kids := rfl
    have h2 : (zNd x).k = x.k := rfl
    have h3 : (zNd x).label = x.label := rfl
    have h4 : (zNd x).tag = x.tag := rfl
    have h5 : (zNd x).name = x.name := rfl
    have h6 : ∀ ps, mdT (zNd x) ps = mdT x ps := fun _ => rfl
    rw [List.map_cons]
    simp only [bF, h1, h2, h3, h4, h5, h6, bF_z kn fu]
theorem bD_z (kn : ByteArray → Option Nat) (T : List Ty) (d : Df) : bD kn T (zDf d) = bD kn T d := by
  unfold bD
  have h1 : (zDf d).name = d.name := rfl
  have h2 : (zDf d).ty = d.ty.map zNd := rfl
  rw [h1, h2, List.length_map, bF_z]
theorem bO_z (D : List Df) : ∀ (o : List Nat) (kn : ByteArray → Option Nat) (T : List Ty), bO (D.map zDf) o kn T = bO D o kn T
  | [], kn, T => rfl
  | i :: o, kn, T => by
    have e : (D.map zDf).getD i ⟨⟨#[]⟩, 0, []⟩ = zDf (D.getD i ⟨⟨#[]⟩, 0, []⟩) := by
      simp only [List.getD, List.getElem?_map]
      cases D[i]? <;> rfl
    rw [bO, bO, e, bD_z]
    exact bO_z D o _ _
theorem rtsP_z (D : List Df) (kn : ByteArray → Option Nat) : rtsP (D.map zDf) kn = rtsP D kn := by
  unfold rtsP
  rw [List.map_map]
  rfl
theorem BlTo.ok {D : List Df} {T : List Ty} {R : List Rt} {A : Int} (h : BlTo D T R 0 A) : ∃ o ds, Good D o ds ∧ (lbD D).1 = 0 ∧ T = (bO D o (fun _ => none) []).2 ∧ R = rtsP D (bO D o (fun _ => none) []).1 ∧ A = 0 := by
  unfold BlTo at h
  by_cases hc : (ckP D).2.2 = 0
  · rw [if_pos hc] at h
    obtain ⟨E1, A1, o, ds, hL, h⟩ := h
    by_cases hE : E1 = 0 ∧ A1 = 0
    · obtain ⟨rfl, rfl⟩ := hE
      rw [if_pos ⟨rfl, rfl⟩] at h
      by_cases hl : (lbD D).1 = 0
      · rw [if_pos hl] at h
        exact ⟨o, ds, (LookTo.zero hL).1, hl, h.1, h.2.1, h.2.2.2⟩
      · rw [if_neg hl] at h
        exact absurd h.2.2.1.symm hl
    · rw [if_neg hE] at h
      have e := h.2.2.1
      subst e
      exact absurd ⟨rfl, (LookTo.zero hL).2⟩ hE
  · rw [if_neg hc] at h
    exact absurd h.2.2.1.symm hc
theorem BlTo.of {D : List Df} {o : List Nat} {ds : List Int} (h : Good D o ds) (hl : (lbD D).1 = 0) : BlTo D (bO D o (fun _ => none) []).2 (rtsP D (bO D o (fun _ => none) []).1) 0 0 := by
  unfold BlTo
  rw [if_pos h.ck]
  refine ⟨0, 0, o, ds, h.look, ?_⟩
  rw [if_pos ⟨rfl, rfl⟩, if_pos hl]
  exact ⟨rfl, rfl, rfl, rfl⟩
/-- Places are nothing. -/
theorem BlTo.places {D D' : List Df} {T : List Ty} {R : List Rt} {A : Int} (h : BlTo D T R 0 A) (hz : D'.map zDf = D.map zDf) : BlTo D' T R 0 0 := by
  obtain ⟨o, ds, hg, hl, rfl, rfl, -⟩ := h.ok
  have hg' : Good D' o ds := good_z.1 (by rw [hz]; exact good_z.2 hg)
  have hl' : (lbD D').1 = 0 := by rw [← lbD_z, hz, lbD_z]; exact hl
  have e1 : bO D' o (fun _ => none) [] = bO D o (fun _ => none) [] := by rw [← bO_z D', hz, bO_z]
  have h9 := BlTo.of hg' hl'
  rw [e1, ← rtsP_z D', hz, rtsP_z] at h9
  exact h9
theorem blTo_ex (D : List Df) : ∃ T R E A, BlTo D T R E A := by
  unfold BlTo
  by_cases hc : (ckP D).2.2 = 0
  · simp only [if_pos hc]
    obtain ⟨E1, A1, o, ds, hL⟩ := lookTo_ex D
    by_cases hE : E1 = 0 ∧ A1 = 0
    · by_cases hl : (lbD D).1 = 0
      · exact ⟨_, _, _, _, E1, A1, o, ds, hL, by rw [if_pos hE, if_pos hl]; exact ⟨rfl, rfl, rfl, rfl⟩⟩
      · exact ⟨_, _, _, _, E1, A1, o, ds, hL, by rw [if_pos hE, if_neg hl]; exact ⟨rfl, rfl, rfl, rfl⟩⟩
    · exact ⟨_, _, _, _, E1, A1, o, ds, hL, by rw [if_neg hE]; exact ⟨rfl, rfl, rfl, rfl⟩⟩
  · simp only [if_neg hc]
    exact ⟨_, _, _, _, rfl, rfl, rfl, rfl⟩
end Go.Proofs.YtbgjgbddpcofcaaGreatDoor

/- What is built is a schema: what the walks ask. -/
namespace Go.Proofs.YtbgjgbddpcofcaaGreatDoor
open Go.RowKit
set_option linter.unusedVariables false

theorem BlTo.rt {D : List Df} {T : List Ty} {R : List Rt} {A : Int} (h : BlTo D T R 0 A) : RtOk D T R := by
  obtain ⟨o, ds, hg, hl, h1, h2, -⟩ := h.ok
  exact BlTo.right hg hl h1 h2
theorem BlTo.d256 {D : List Df} {T : List Ty} {R : List Rt} {A : Int} (h : BlTo D T R 0 A) : D.length ≤ 256 := by
  obtain ⟨o, ds, hg, hl, h1, h2, -⟩ := h.ok
  exact (ckP_all hg.ck).1
theorem cnt_sum {c : Nat} : ∀ {D : List Df}, (∀ d ∈ D, d.ty.length ≤ c) → (D.map (fun d => cntX d.ty)).sum ≤ D.length * c
  | [], _ => by simp
  | d :: D, h => by
    have h1 := cnt_sum (D := D) (fun e he => h e (by simp [he]))
    have h2 := h d (by simp)
    have h3 := List.countP_le_length (p := fun x : Nd => decide (x.k ≠ 9)) (l := d.ty)
    have h4 : cntX d.ty ≤ d.ty.length := h3
    simp only [List.map_cons, List.sum_cons, List.length_cons]
    have e : (D.length + 1) * c = D.length * c + c := by rw [Nat.add_mul, Nat.one_mul]
    omega
theorem RtOk.lensT {D : List Df} {T : List Ty} {R : List Rt} (h : RtOk D T R) (hl : T.length ≤ 1000000000) : LensT T :=
  ⟨by omega, fun t ht => by
    obtain ⟨i, hi, e⟩ := List.getElem_of_mem ht
    have h1 := h.ok i hi
    have e2 : T.getD i ty0 = t := by simp [List.getD, hi, e]
    rw [e2] at h1
    have := tyOk_len h1
    omega⟩
theorem BlTo.lens {D : List Df} {T : List Ty} {R : List Rt} {A : Int} (h : BlTo D T R 0 A) (hk : ∀ d ∈ D, d.ty.length ≤ 3900000) : T.length ≤ 1000000000 ∧ R.length ≤ 256 ∧ LensT T := by
  have h1 := h.rt
  have h2 := h.d256
  have h3 := cnt_sum hk
  have h4 : T.length ≤ 1000000000 := by
    rw [h1.cnt]
    have : D.length * 3900000 ≤ 256 * 3900000 := Nat.mul_le_mul_right _ h2
    omega
  exact ⟨h4, by rw [h1.len]; exact h2, h1.lensT h4⟩
theorem BlTo.err {D : List Df} {T : List Ty} {R : List Rt} {E A : Int} (h : BlTo D T R E A) (hE : E ≠ 0) : T = [] ∧ R = [] := by
  unfold BlTo at h
  by_cases hc : (ckP D).2.2 = 0
  · rw [if_pos hc] at h
    obtain ⟨E1, A1, o, ds, hL, h⟩ := h
    by_cases hE1 : E1 = 0 ∧ A1 = 0
    · rw [if_pos hE1] at h
      by_cases hl : (lbD D).1 = 0
      · rw [if_pos hl] at h
        exact absurd h.2.2.1 hE
      · rw [if_neg hl] at h
        exact ⟨h.1, h.2.1⟩
    · rw [if_neg hE1] at h
      exact ⟨h.1, h.2.1⟩
  · rw [if_neg hc] at h
    exact ⟨h.1, h.2.1⟩
theorem cnt_take {N : List Nd} {k : Nat} {x : Nd} (h : N[k]? = some x) : cntX (N.take (k + 1)) = cntX (N.take k) + if x.k = 9 then 0 else 1 := by
  unfold cntX
  rw [List.take_add_one, h, List.countP_append]
  by_cases h9 : x.k = 9 <;> simp [h9]
theorem sum_take {D : List Df} {i : Nat} {d : Df} (h : D[i]? = some d) : ((D.take (i + 1)).map (fun d => cntX d.ty)).sum = ((D.take i).map (fun d => cntX d.ty)).sum + cntX d.ty := by
  rw [List.take_add_one, h, List.map_append, List.sum_append]
  simp
theorem cnt_le (N : List Nd) (k : Nat) : cntX (N.take k) ≤ N.length := by
  unfold cntX
  have := List.countP_le_length (p := fun x : Nd => decide (x.k ≠ 9)) (l := N.take k)
  rw [List.length_take] at this
  omega
theorem sum_le {D : List Df} (h : ∀ d ∈ D, d.ty.length ≤ 1000000) (i : Nat) : ((D.take i).map (fun d => cntX d.ty)).sum ≤ D.length * 1000000 := by
  have h1 := cnt_sum (D := D.take i) (c := 1000000) (fun d hd => h d (List.mem_of_mem_take hd))
  rw [List.length_take] at h1
  exact Nat.le_trans h1 (Nat.mul_le_mul_right _ (Nat.min_le_right _ _))
/-- What is marked when the first i roots are gone through. -/
def mkRt (R : List Rt) (i : Nat) (S : List Nat) : Prop := ∀ r ∈ R.take i, r.ty.toNat ∈ S
/-- What is marked when the first i types are gone through. -/
def mkTy (T : List Ty) (i : Nat) (S : List Nat) : Prop := ∀ t ∈ T.take i, (hasE t.k = true → t.e.toNat ∈ S) ∧ ∀ q ∈ t.ps, q.ty.toNat ∈ S
theorem take_in {α : Type} {l : List α} {j : Nat} {x u : α} (h : l[j]? = some x) (hu : u ∈ l.take (j + 1)) : u ∈ l.take j ∨ u = x := by
  rw [List.take_add_one, h] at hu
  rcases List.mem_append.1 hu with h | h
  · exact .inl h
  · exact .inr (by simpa using h)
theorem RtOk.all {D : List Df} {T : List Ty} {R : List Rt} (h : RtOk D T R) {S : List Nat} (h1 : mkRt R R.length S) (h2 : mkTy T T.length S) {j : Nat} (hj : j < T.length) : j ∈ S := by
  unfold mkRt at h1
  unfold mkTy at h2
  rw [List.take_length] at h1 h2
  rcases h.used j hj with ⟨t, ht, ⟨k1, k2⟩ | ⟨q, hq, k2⟩⟩ | ⟨r, hr, k2⟩
  · have := (h2 t ht).1 k1
    rw [k2] at this
    exact this
  · have := (h2 t ht).2 q hq
    rw [k2] at this
    exact this
  · have := h1 r hr
    rw [k2] at this
    exact this
end Go.Proofs.YtbgjgbddpcofcaaGreatDoor
