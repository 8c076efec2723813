/- LayoutFixed, plain: slots follow one another; a fixed struct or vector has its one size. -/
import Derived.Test.YtnpkpmbpapekbaaEe
namespace Go.Proofs.Ytnpkpmbpapekbaa
set_option linter.unusedVariables false

def preS (S : List Sl) (k : Nat) : Int := (S.take k).foldl (fun a s => plus2 a s.sz) 0
def varS (S : List Sl) (k : Nat) : Bool := (S.take k).any (fun s => s.v)
theorem preS_succ {S : List Sl} {k : Nat} {s : Sl} (h : S[k]? = some s) : preS S (k + 1) = plus2 (preS S k) s.sz := by
  have hk := (List.getElem?_eq_some_iff.1 h).1
  unfold preS
  rw [List.take_succ_eq_append_getElem hk, (List.getElem?_eq_some_iff.1 h).2]
  simp
theorem varS_succ {S : List Sl} {k : Nat} {s : Sl} (h : S[k]? = some s) : varS S (k + 1) = (varS S k || s.v) := by
  have hk := (List.getElem?_eq_some_iff.1 h).1
  unfold varS
  rw [List.take_succ_eq_append_getElem hk, (List.getElem?_eq_some_iff.1 h).2]
  simp
theorem preS_app (S : List Sl) (s : Sl) {k : Nat} (hk : k ≤ S.length) : preS (S ++ [s]) k = preS S k := by
  unfold preS
  rw [List.take_append_of_le_length hk]
theorem preS_bd (S : List Sl) : ∀ (k : Nat), 0 ≤ preS S k ∧ preS S k ≤ 4611686018427387904
  | 0 => by unfold preS; simp
  | k + 1 => by
    rcases Nat.lt_or_ge k S.length with hk | hk
    · rw [preS_succ (List.getElem?_eq_getElem hk)]
      exact plus2_bd _ _
    · have h := preS_bd S k
      have e : preS S (k + 1) = preS S k := by
        unfold preS
        rw [List.take_of_length_le hk, List.take_of_length_le (by omega)]
      rw [e]
      exact h
/-- What the slots of a struct or vector are. -/
structure Chain (S : List Sl) : Prop where
  at_ : ∀ (k : Nat) (s : Sl), S[k]? = some s → s.at_ = preS S k ∧ (s.v = true → s.sz = 4) ∧ 1 ≤ s.sz ∧ s.sz ≤ 4611686018427387904
theorem Chain.snoc {S : List Sl} {s : Sl} (h : Chain S) (h1 : s.at_ = preS S S.length) (h2 : s.v = true → s.sz = 4) (h3 : 1 ≤ s.sz) (h4 : s.sz ≤ 4611686018427387904) : Chain (S ++ [s]) := ⟨fun k u hu => by
  rcases Nat.lt_or_ge k S.length with hk | hk
  · rw [List.getElem?_append_left hk] at hu
    rw [preS_app S s (Nat.le_of_lt hk)]
    exact h.at_ k u hu
  · rw [List.getElem?_append_right hk] at hu
    rcases Nat.eq_zero_or_pos (k - S.length) with h0 | h0
    · rw [h0] at hu
      injection hu with hu
      subst hu
      have : k = S.length := by omega
      subst this
      rw [preS_app S s (Nat.le_refl _)]
      exact ⟨h1, h2, h3, h4⟩
    · rw [List.getElem?_eq_none (by simp; omega)] at hu
      cases hu⟩
def Pos (x : Ex) : Prop := x.f = true → 1 ≤ x.l
theorem Pos.at {X : List Ex} (h : ∀ x ∈ X, Pos x) (i : Int) : Pos (exAt X i) := by
  unfold exAt
  rcases Nat.lt_or_ge i.toNat X.length with hi | hi
  · rw [show X.getD i.toNat ex0 = X[i.toNat]'hi by simp [List.getD, hi]]
    exact h _ (List.getElem_mem hi)
  · rw [show X.getD i.toNat ex0 = ex0 by simp [List.getD, List.getElem?_eq_none hi]]
    intro h
    cases h
theorem slot_ok {x : Ex} (h : XOk x) (hp : Pos x) (a : Int) : (slotP x a).at_ = a ∧ ((slotP x a).v = true → (slotP x a).sz = 4) ∧ 1 ≤ (slotP x a).sz ∧ (slotP x a).sz ≤ 4611686018427387904 ∧ (slotP x a).v = !x.f ∧ (x.f = true → (slotP x a).sz = x.l) := by
  have h1 := h.lm; have h2 := h.mh
  unfold slotP
  split
  · rename_i hf
    have := hp hf
    exact ⟨rfl, (fun e => by cases e), this, by simp only; omega, by rw [hf]; rfl, fun _ => rfl⟩
  · rename_i hf
    exact ⟨rfl, fun _ => rfl, by simp only; omega, by simp only; omega, by simp only; rw [Bool.not_eq_true] at hf; rw [hf]; rfl, fun e => absurd e hf⟩
theorem off_fix {x : Ex} (h : x.f = true) : offX x = x := by unfold offX; rw [if_pos h]
theorem row_chain {X : List Ex} (hX : ∀ x ∈ X, XOk x) (hp : ∀ x ∈ X, Pos x) (ps : List Pt) :
    Chain (rowP X ps).sl ∧ preS (rowP X ps).sl (rowP X ps).sl.length = (rowP X ps).sz ∧ varS (rowP X ps).sl (rowP X ps).sl.length = !(rowX (ps.map (fun p => exAt X p.ty))).1 ∧ ((rowX (ps.map (fun p => exAt X p.ty))).1 = true → (rowP X ps).sz = (rowX (ps.map (fun p => exAt X p.ty))).2.1) := by
  refine snoc_ind (P := fun ps => Chain (rowP X ps).sl ∧ preS (rowP X ps).sl (rowP X ps).sl.length = (rowP X ps).sz ∧ varS (rowP X ps).sl (rowP X ps).sl.length = !(rowX (ps.map (fun p => exAt X p.ty))).1 ∧ ((rowX (ps.map (fun p => exAt X p.ty))).1 = true → (rowP X ps).sz = (rowX (ps.map (fun p => exAt X p.ty))).2.1)) ?_ (fun ps p ih => ?_) ps
  · exact ⟨⟨fun k s h => by simp [rowP] at h⟩, rfl, rfl, fun _ => rfl⟩
  · obtain ⟨i1, i2, i3, i4⟩ := ih
    have ho := slot_ok (XOk.at hX p.ty) (Pos.at hp p.ty) (rowP X ps).sz
    rw [rowP_snoc, List.map_append, List.map_cons, List.map_nil, rowX_snoc]
    simp only [addF]
    generalize hs : slotP (exAt X p.ty) (rowP X ps).sz = s at *
    have hg : ((rowP X ps).sl ++ [s])[(rowP X ps).sl.length]? = some s := by simp
    have hl : ((rowP X ps).sl ++ [s]).length = (rowP X ps).sl.length + 1 := by simp
    refine ⟨i1.snoc (by rw [ho.1, i2]) ho.2.1 ho.2.2.1 ho.2.2.2.1, ?_, ?_, fun hf => ?_⟩
    · rw [hl, preS_succ hg, preS_app _ _ (Nat.le_refl _), i2]
    · rw [hl, varS_succ hg]
      have e : varS ((rowP X ps).sl ++ [s]) (rowP X ps).sl.length = varS (rowP X ps).sl (rowP X ps).sl.length := by
        unfold varS
        rw [List.take_append_of_le_length (Nat.le_refl _)]
      rw [e, i3, ho.2.2.2.2.1, off_f]
      cases (rowX (ps.map (fun p => exAt X p.ty))).1 <;> cases (exAt X p.ty).f <;> rfl
    · simp only [Bool.and_eq_true] at hf
      rw [off_f] at hf
      rw [i4 hf.1, ho.2.2.2.2.2 hf.2, off_fix hf.2]
theorem pos_ext {X : List Ex} {t : Ty} {i : Int} (hX : ∀ x ∈ X, XOk x) (hp : ∀ x ∈ X, Pos x) (ht : tyOk t i = true) : Pos (ext1 X t) := by
  have hn := of_decide_eq_true (tyOk_parts ht).1
  have hkp : ∀ x ∈ kidL X t.k t.e t.ps, Pos x := fun x hx => by
    unfold kidL at hx
    rcases List.mem_append.1 hx with hx | hx
    · split at hx
      · simp at hx; subst hx; exact Pos.at hp t.e
      · cases hx
    · simp only [List.mem_map] at hx
      obtain ⟨p, _, rfl⟩ := hx
      exact Pos.at hp p.ty
  unfold ext1
  split
  · intro _; simp only; omega
  split
  · intro _; simp only; omega
  split
  · intro h; cases h
  split
  · intro h
    simp only at h ⊢
    rw [off_f] at h
    have h1 := Pos.at hp t.e h
    have h2 := XOk.at hX t.e
    have h3 := h2.lm; have h4 := h2.mh
    rw [off_fix h, times2_in (by omega) (by omega) (by omega) (by omega)]
    have h5 : 1 * 1 ≤ t.n * (exAt X t.e).l := Int.mul_le_mul (by omega) h1 (by decide) (by omega)
    split <;> omega
  split
  · intro h; cases h
  split
  · intro h; cases h
  split
  · intro h; cases h
  · rename_i h1 h2 h3 h4 h5 h6 h7
    intro hf
    simp only at hf ⊢
    have hk8 : t.k = 8 := by omega
    have hpos := tyOk_pos ht (.inr hk8)
    have hK := kidL_ok hX t.k t.e t.ps
    have hr := rowX_ok _ hK
    obtain ⟨p, r, e⟩ : ∃ p r, t.ps = p :: r := by
      cases h : t.ps with
      | nil => rw [h] at hpos; simp at hpos
      | cons p r => exact ⟨p, r, rfl⟩
    have hm : exAt X p.ty ∈ kidL X t.k t.e t.ps := by
      unfold kidL
      rw [e]
      simp
    have hg := rowX_ge _ hK _ hm
    have hx := hK _ hm
    have := hkp _ hm (hg.2 hf)
    have := hx.lm
    rw [hr.2.2.2 hf]
    omega
theorem extL_pos {T : List Ty} {R : List Rt} (hS : OkS T R) : ∀ m, m ≤ T.length → ∀ x ∈ extL (T.take m), Pos x
  | 0, _ => fun x hx => by simp [extL] at hx
  | m + 1, hm => fun x hx => by
    rw [List.take_succ_eq_append_getElem (by omega : m < T.length), extL_snoc] at hx
    have ih := extL_pos hS m (by omega)
    have ix := extL_ok hS m (by omega)
    rcases List.mem_append.1 hx with hx | hx
    · exact ih x hx
    · simp only [List.mem_singleton] at hx
      subst hx
      have ht := hS.ty m (by omega)
      rw [show T.getD m ty0 = T[m]'(by omega) by simp [List.getD, (by omega : m < T.length)]] at ht
      exact pos_ext (fun y hy => (ix y hy).1) ih ht
/-- What LayoutFixed asks of a struct or vector. -/
structure FixT (t : Ty) (y : Ly) (x : Ex) : Prop where
  ch : Chain y.sl
  sz : t.k = 8 → preS y.sl y.sl.length = y.sz
  var : varS y.sl y.sl.length = !x.f
  fx : x.f = true → y.sz = x.l ∧ y.sz = x.m
theorem fix_of {T : List Ty} {R : List Rt} (hS : OkS T R) {i : Nat} {t : Ty} (ht : T[i]? = some t) (hk : t.k = 8 ∨ t.k = 4) : FixT t (layP (extL T) t) (exAt (extL T) (i : Int)) := by
  have hi := (List.getElem?_eq_some_iff.1 ht).1
  have hok := hS.ty i hi
  rw [show T.getD i ty0 = t by simp [List.getD, ht]] at hok
  have hX0 := extL_ok hS T.length (Nat.le_refl _)
  have hp := extL_pos hS T.length (Nat.le_refl _)
  rw [List.take_length] at hX0 hp
  have hX : ∀ x ∈ extL T, XOk x := fun x hx => (hX0 x hx).1
  have hxi := XOk.at hX (i : Int)
  rw [exAt_ext ht] at hxi ⊢
  rcases hk with hk | hk
  · have hr := row_chain hX hp t.ps
    have hl : layP (extL T) t = rowP (extL T) t.ps := by unfold layP; rw [if_pos hk]
    have hkl : kidL (extL (T.take i)) t.k t.e t.ps = t.ps.map (fun p => exAt (extL T) p.ty) := by
      unfold kidL
      rw [if_neg (by rw [hk]; decide), List.nil_append]
      refine List.map_congr_left (fun p hpm => ?_)
      obtain ⟨j, hj⟩ := List.mem_iff_getElem?.1 hpm
      have := tyOk_part hok hj
      exact exAt_take (Nat.le_of_lt hi) this.1 this.2
    have he : ext1 (extL (T.take i)) t = ⟨(rowX (t.ps.map (fun p => exAt (extL T) p.ty))).1, (rowX (t.ps.map (fun p => exAt (extL T) p.ty))).2.1, (rowX (t.ps.map (fun p => exAt (extL T) p.ty))).2.2, 1 + deepX (t.ps.map (fun p => exAt (extL T) p.ty))⟩ := by
      unfold ext1
      rw [if_neg (by omega), if_neg (by omega), if_neg (by omega), if_neg (by omega), if_neg (by omega), if_neg (by omega), if_neg (by omega), hkl]
    rw [he] at hxi ⊢
    rw [hl]
    exact ⟨hr.1, fun _ => hr.2.1, hr.2.2.1, fun hf => ⟨hr.2.2.2 hf, by rw [hr.2.2.2 hf]; exact hxi.fx hf⟩⟩
  · have hel := tyOk_elem hok (by rw [hk]; decide)
    have hn := nOk_n hok
    have ho := slot_ok (XOk.at hX t.e) (Pos.at hp t.e) 0
    have hl : layP (extL T) t = ⟨times2 t.n (slotP (exAt (extL T) t.e) 0).sz, [slotP (exAt (extL T) t.e) 0]⟩ := by
      unfold layP
      rw [if_neg (by omega), if_pos hk]
    have he : ext1 (extL (T.take i)) t = ⟨(offX (exAt (extL T) t.e)).f, times2 t.n (offX (exAt (extL T) t.e)).l, times2 t.n (offX (exAt (extL T) t.e)).m, 1 + deepX (kidL (extL (T.take i)) t.k t.e t.ps)⟩ := by
      unfold ext1
      rw [if_neg (by omega), if_neg (by omega), if_neg (by omega), if_pos hk, exAt_take (Nat.le_of_lt hi) hel.1 hel.2]
    rw [he] at hxi ⊢
    rw [hl]
    refine ⟨?_, fun h => by omega, ?_, fun hf => ?_⟩
    · have := (Chain.snoc (S := []) ⟨fun k s h => by simp at h⟩ (s := slotP (exAt (extL T) t.e) 0) ho.1 ho.2.1 ho.2.2.1 ho.2.2.2.1)
      simpa using this
    · simp only [varS]
      simp [ho.2.2.2.2.1, off_f]
    · simp only at hf ⊢
      rw [off_f] at hf
      have h2 : (exAt (extL T) t.e).l = (exAt (extL T) t.e).m := (XOk.at hX t.e).fx hf
      rw [ho.2.2.2.2.2 hf, off_fix hf, ← h2]
      exact ⟨rfl, rfl⟩
/-- Of another type. -/
theorem other_of (X : List Ex) (t : Ty) (h8 : t.k ≠ 8) (h4 : t.k ≠ 4) : (layP X t).sz = 0 ∧ (layP X t).sl.length ≤ 1 := by
  unfold layP
  rw [if_neg h8, if_neg h4]
  split
  · exact ⟨rfl, by simp⟩
  · exact ⟨rfl, by simp⟩
theorem lay_len {X : List Ex} {t : Ty} {i : Int} (h : tyOk t i = true) : (layP X t).sl.length ≤ 64 := by
  have := tyOk_len h
  unfold layP
  split
  · rw [rowP_len]; exact this
  split
  · simp
  split
  · simp
  · simp
end Go.Proofs.Ytnpkpmbpapekbaa
