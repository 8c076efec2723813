import Derived.Test.YtjamfbpdepahnaaGreatPart39
namespace Go.Proofs.YtjamfbpdepahnaaGreat
open Go.RowKit
set_option linter.unusedVariables false
set_option linter.unusedSimpArgs false
def ndI (z : Int) : Nat := (if z < 0 then -z - 1 else z).toNat
theorem split_snoc {a p q : List Int} {y z : Int} (h : a ++ [y] = p ++ z :: q) : (q = [] ∧ a = p ∧ y = z) ∨ ∃ q', q = q' ++ [y] ∧ a = p ++ z :: q' := by
  rcases List.eq_nil_or_concat q with e | ⟨q', x, e⟩
  · subst e
    have := List.append_inj' h rfl
    obtain ⟨h1, h2⟩ := this
    injection h2 with h2 _
    exact .inl ⟨rfl, h1, h2⟩
  · rw [List.concat_eq_append] at e
    subst e
    right
    have h' : a ++ [y] = (p ++ z :: q') ++ [x] := by rw [h]; simp
    obtain ⟨h1, h2⟩ := List.append_inj' h' rfl
    injection h2 with h2 _
    exact ⟨q', by rw [h2], h1⟩
theorem split_app {a b p q : List Int} {z : Int} (h : a ++ b = p ++ z :: q) : (∃ q', q = q' ++ b ∧ a = p ++ z :: q') ∨ ∃ p', p = a ++ p' ∧ b = p' ++ z :: q := by
  rcases List.append_eq_append_iff.1 h with ⟨c, h1, h2⟩ | ⟨c, h1, h2⟩
  · exact .inr ⟨c, h1, h2⟩
  · cases c with
    | nil => exact .inr ⟨[], by simpa using h1.symm, by simpa using h2.symm⟩
    | cons x c =>
      rw [List.cons_append] at h2
      injection h2 with h3 h4
      exact .inl ⟨c, h4, by rw [h1, h3]⟩
def Tpo (ed : Nat → List Int) (o : List Int) : Prop := ∀ a x c, o = a ++ x :: c → ∀ v ∈ ed x.toNat, v ∈ a
structure FnA (ed : Nat → List Int) (n : Nat) (wk : List Int) (s : List Bool) (o : List Int) : Prop where
  i : FnI n wk s o
  an : ∀ a x c, wk = a ++ (-x - 1) :: c → 0 ≤ x → (∀ v ∈ ed x.toNat, v ∈ o ∨ v ∈ c ∨ -v - 1 ∈ c) ∧ ∀ z ∈ c, Wyp (eR ed) x.toNat (ndI z)
  no : ∀ y ∈ wk, y < 0 → -y - 1 ∉ o
  nod : o.Nodup
  tp : Tpo ed o
theorem Tpo.snoc {ed : Nat → List Int} {o : List Int} {x : Int} (h : Tpo ed o) (hx : ∀ v ∈ ed x.toNat, v ∈ o) : Tpo ed (o ++ [x]) := fun a z c e v hv => by
  rcases split_snoc e with ⟨h1, h2, h3⟩ | ⟨q', h1, h2⟩
  · subst h2; subst h3
    exact hx v hv
  · exact h a z q' h2 v hv
theorem fn_acy {ed : Nat → List Int} {n : Nat} (he : ∀ k, k < n → Stn n (ed k)) (hac : ∀ k, k < n → ¬ Wyp (eR ed) k k) : ∀ (f : Nat) {wk : List Int} {s : List Bool} {o : List Int}, FnA ed n wk s o → wk.length + tot (ed1 ed) s n < f →
    FnA ed n [] (fnF ed f wk s o).1 (fnF ed f wk s o).2
  | 0, wk, s, o, _, h => by omega
  | f + 1, wk, s, o, hA, hf => by
    rcases List.eq_nil_or_concat wk with e | ⟨a, y, e⟩
    · subst e
      rw [fnF, if_pos rfl]
      exact hA
    · rw [List.concat_eq_append] at e
      subst e
      have hI := hA.i
      have hy := hI.stm y (by simp)
      have hl : (a ++ [y]).length = a.length + 1 := by simp
      have ha : Stm n a := fun z hz => hI.stm z (by simp [hz])
      rw [fn_snoc]
      by_cases h0 : y < 0
      · rw [if_pos h0]
        have hlast := hA.an a (-y - 1) [] (by simp; omega) (by omega)
        have hxn : (-y - 1).toNat < n := by omega
        refine fn_acy he hac f (wk := a) (s := s) (o := o ++ [-y - 1]) ⟨⟨hI.len, ha, fun x hx => ?_, fun z hz => hI.gr z (by simp [hz]), fun k hk => ?_⟩, fun p x c e hx0 => ?_, fun z hz hz0 => ?_, ?_, hA.tp.snoc (fun v hv => ?_)⟩ (by omega)
        · rcases List.mem_append.1 hx with h | h
          · exact hI.ok x h
          · rw [List.mem_singleton] at h
            rw [h]
            exact ⟨by omega, by omega, hI.gr y (by simp) h0⟩
        · rcases hI.al k hk with h | h
          · exact .inl (by simp [h])
          · rcases List.mem_append.1 h with h | h
            · exact .inr h
            · rw [List.mem_singleton] at h
              left
              rw [← h]
              simp
              right
              omega
        · obtain ⟨b1, b2⟩ := hA.an p x (c ++ [y]) (by rw [e]; simp) hx0
          have hxr : x.toNat < n := by
            have := hI.stm (-x - 1) (by rw [e]; simp)
            omega
          refine ⟨fun v hv => ?_, fun z hz => b2 z (by simp [hz])⟩
          have hv0 := he _ hxr v hv
          rcases b1 v hv with h | h | h
          · exact .inl (by simp [h])
          · rcases List.mem_append.1 h with h | h
            · exact .inr (.inl h)
            · rw [List.mem_singleton] at h; omega
          · rcases List.mem_append.1 h with h | h
            · exact .inr (.inr h)
            · rw [List.mem_singleton] at h
              left
              have : v = -y - 1 := by omega
              simp [this]
        · intro hm
          rcases List.mem_append.1 hm with h | h
          · exact hA.no z (by simp [hz]) hz0 h
          · rw [List.mem_singleton] at h
            have hzy : z = y := by omega
            subst hzy
            obtain ⟨p, q, hpq⟩ := List.append_of_mem hz
            obtain ⟨-, b2⟩ := hA.an p (-z - 1) (q ++ [z]) (by rw [hpq]; simp; omega) (by omega)
            have := b2 z (by simp)
            unfold ndI at this
            rw [if_pos h0] at this
            exact hac _ hxn this
        · rw [List.nodup_append]
          refine ⟨hA.nod, by simp, fun u hu w hw e => ?_⟩
          rw [List.mem_singleton] at hw
          exact hA.no y (by simp) h0 (by rw [← hw, ← e]; exact hu)
        · rcases hlast.1 v hv with h | h | h
          · exact h
          · cases h
          · cases h
      rw [if_neg h0]
      have hnd : ndI y = y.toNat := by unfold ndI; rw [if_neg h0]
      by_cases hq : qAt s y.toNat = true
      · rw [if_pos hq]
        refine fn_acy he hac f (wk := a) (s := s) (o := o) ⟨⟨hI.len, ha, hI.ok, fun z hz => hI.gr z (by simp [hz]), fun k hk => ?_⟩, fun p x c e hx0 => ?_, fun z hz hz0 => hA.no z (by simp [hz]) hz0, hA.nod, hA.tp⟩ (by omega)
        · rcases hI.al k hk with h | h
          · exact .inl h
          · rcases List.mem_append.1 h with h | h
            · exact .inr h
            · rw [List.mem_singleton] at h; omega
        · obtain ⟨b1, b2⟩ := hA.an p x (c ++ [y]) (by rw [e]; simp) hx0
          have hxr : x.toNat < n := by
            have := hI.stm (-x - 1) (by rw [e]; simp)
            omega
          have hxy := b2 y (by simp)
          rw [hnd] at hxy
          refine ⟨fun v hv => ?_, fun z hz => b2 z (by simp [hz])⟩
          have hv0 := he _ hxr v hv
          rcases b1 v hv with h | h | h
          · exact .inl h
          · rcases List.mem_append.1 h with h | h
            · exact .inr (.inl h)
            · rw [List.mem_singleton] at h
              subst h
              rcases hI.al v.toNat hq with h | h
              · rw [show ((v.toNat : Nat) : Int) = v by omega] at h
                exact .inl h
              · rw [show ((v.toNat : Nat) : Int) = v by omega] at h
                rcases List.mem_append.1 h with h | h
                · rw [e] at h
                  rcases List.mem_append.1 h with h | h
                  · exfalso
                    obtain ⟨p1, q1, hp⟩ := List.append_of_mem h
                    obtain ⟨-, d2⟩ := hA.an p1 v (q1 ++ (-x - 1) :: c ++ [v]) (by rw [e, hp]; simp) (by omega)
                    have := d2 (-x - 1) (by simp)
                    unfold ndI at this
                    rw [if_pos (by omega), show -(-x - 1) - 1 = x by omega] at this
                    exact hac _ hxr (hxy.trans_rs this.rs)
                  · rcases List.mem_cons.1 h with h | h
                    · exfalso
                      have : v = x := by omega
                      rw [this] at hxy
                      exact hac _ hxr hxy
                    · exact .inr (.inr h)
                · rw [List.mem_singleton] at h; omega
          · rcases List.mem_append.1 h with h | h
            · exact .inr (.inr h)
            · rw [List.mem_singleton] at h; omega
      · rw [if_neg hq]
        have hq : qAt s y.toNat = false := by simpa using hq
        have hl2 := hI.len
        have hyn : y.toNat < n := by omega
        have h3 := tot_set (ed1 ed) s y.toNat (by omega) hq n hyn
        have e1 : (ed1 ed y.toNat).length = (ed y.toNat).length + 1 := by simp [ed1]
        have hset : ∀ j, qAt (s.set y.toNat true) j = if j = y.toNat then true else qAt s j := qAt_set s y.toNat (by omega)
        have hge : ∀ j, qAt s j = true → qAt (s.set y.toNat true) j = true := fun j hj => by rw [hset]; split <;> simp_all
        have hyo : y ∉ o := fun hm => by
          have := (hI.ok y hm).2.2
          rw [hq] at this
          cases this
        have hdn : ∀ z ∈ ed y.toNat, ndI z = z.toNat ∧ Wyp (eR ed) y.toNat z.toNat := fun z hz => by
          have := he _ hyn z hz
          refine ⟨by unfold ndI; rw [if_neg (by omega)], z.toNat, eR_of (he _ hyn) hz, Wy.refl _ _⟩
        refine fn_acy he hac f (wk := a ++ [-y - 1] ++ ed y.toNat) (s := s.set y.toNat true) (o := o) ⟨⟨by simp [hl2], (ha.app (fun z hz => by rw [List.mem_singleton] at hz; omega)).app (he _ hyn).stm, fun x hx => ?_, fun z hz hz0 => ?_, fun k hk => ?_⟩, fun p x c e hx0 => ?_, fun z hz hz0 => ?_, hA.nod, hA.tp⟩ (by rw [List.length_append, List.length_append, List.length_singleton]; omega)
        · obtain ⟨b1, b2, b3⟩ := hI.ok x hx
          exact ⟨b1, b2, hge _ b3⟩
        · rcases List.mem_append.1 hz with h | h
          · rcases List.mem_append.1 h with h | h
            · exact hge _ (hI.gr z (by simp [h]) hz0)
            · rw [List.mem_singleton] at h
              rw [h, hset, if_pos (by omega)]
          · have := he _ hyn z h
            omega
        · rw [hset] at hk
          by_cases e : k = y.toNat
          · right
            rw [e, show -((y.toNat : Nat) : Int) - 1 = -y - 1 by omega]
            simp
          · rw [if_neg e] at hk
            rcases hI.al k hk with h | h
            · exact .inl h
            · rcases List.mem_append.1 h with h | h
              · exact .inr (by simp [h])
              · rw [List.mem_singleton] at h; omega
        · rw [List.append_assoc] at e
          rcases split_app e with ⟨q', h1, h2⟩ | ⟨p', h1, h2⟩
          · obtain ⟨b1, b2⟩ := hA.an p x (q' ++ [y]) (by rw [h2]; simp) hx0
            have hxr : x.toNat < n := by
              have := hI.stm (-x - 1) (by rw [h2]; simp)
              omega
            have hxy := b2 y (by simp)
            rw [hnd] at hxy
            rw [h1]
            refine ⟨fun v hv => ?_, fun z hz => ?_⟩
            · rcases b1 v hv with h | h | h
              · exact .inl h
              · rcases List.mem_append.1 h with h | h
                · exact .inr (.inl (by simp [h]))
                · rw [List.mem_singleton] at h
                  exact .inr (.inr (by simp [h]))
              · rcases List.mem_append.1 h with h | h
                · exact .inr (.inr (by simp [h]))
                · rw [List.mem_singleton] at h
                  have := he _ hxr v hv
                  omega
            · rcases List.mem_append.1 hz with h | h
              · exact b2 z (by simp [h])
              · rcases List.mem_append.1 h with h | h
                · rw [List.mem_singleton] at h
                  rw [h]
                  unfold ndI
                  rw [if_pos (by omega), show -(-y - 1) - 1 = y by omega]
                  exact hxy
                · rw [(hdn z h).1]
                  exact hxy.trans_rs (hdn z h).2.rs
          · rw [List.singleton_append] at h2
            cases p' with
            | nil =>
              rw [List.nil_append] at h2
              injection h2 with h3 h4
              have hxy : x = y := by omega
              subst hxy
              rw [← h4]
              exact ⟨fun v hv => .inr (.inl hv), fun z hz => by rw [(hdn z hz).1]; exact (hdn z hz).2⟩
            | cons u p' =>
              rw [List.cons_append] at h2
              injection h2 with h3 h4
              exfalso
              have := he _ hyn (-x - 1) (by rw [h4]; simp)
              omega
        · rcases List.mem_append.1 hz with h | h
          · rcases List.mem_append.1 h with h | h
            · exact hA.no z (by simp [h]) hz0
            · rw [List.mem_singleton] at h
              rw [h, show -(-y - 1) - 1 = y by omega]
              exact hyo
          · have := he _ hyn z h
            omega
theorem fnO_acy {ed : Nat → List Int} {n : Nat} (he : ∀ k, k < n → Stn n (ed k)) (hac : ∀ k, k < n → ¬ Wyp (eR ed) k k) (S : List St) : ∀ (f j : Nat) {s : List Bool} {o : List Int}, j + f = n → FnA ed n [] s o → (fnO ed S n f j s o).Nodup ∧ Tpo ed (fnO ed S n f j s o)
  | 0, j, s, o, hj, hA => ⟨hA.nod, hA.tp⟩
  | f + 1, j, s, o, hj, hA => by
    rw [fnO]
    by_cases hc : cameP S j = true
    · rw [if_pos hc]
      have hI := hA.i
      refine fnO_acy he hac S f (j + 1) (by omega) (fn_acy he hac (tot (ed1 ed) s n + 2) (wk := [(j : Int)]) (s := s) (o := o) ⟨⟨hI.len, fun y hy => by rw [List.mem_singleton] at hy; omega, hI.ok, fun y hy h0 => by rw [List.mem_singleton] at hy; omega, fun k hk => ?_⟩, fun p x c e hx0 => ?_, fun y hy h0 => by rw [List.mem_singleton] at hy; omega, hA.nod, hA.tp⟩ (by simp only [List.length_singleton]; omega))
      · rcases hI.al k hk with h | h
        · exact .inl h
        · cases h
      · exfalso
        have : -x - 1 ∈ [(j : Int)] := by rw [e]; simp
        rw [List.mem_singleton] at this
        omega
    · rw [if_neg hc]
      exact fnO_acy he hac S f (j + 1) (by omega) hA
theorem FnA.new (ed : Nat → List Int) (n : Nat) : FnA ed n [] (List.replicate n false) [] := by
  have h : ∀ k, qAt (List.replicate n false) k = false := fun k => by
    unfold qAt
    by_cases hk : k < n <;> simp [List.getD, hk]
  exact ⟨⟨by simp, fun y hy => (by cases hy), fun y hy => (by cases hy), fun y hy => (by cases hy), fun k hk => by rw [h] at hk; cases hk⟩, fun a x c e => by simp at e, fun y hy => (by cases hy), List.nodup_nil, fun a x c e => by simp at e⟩
theorem setB_at : ∀ (fd : List Int) (r : List Bool) (k : Nat), (∀ x ∈ fd, 0 ≤ x ∧ x < (r.length : Int)) → (qAt (setB r fd) k = true ↔ qAt r k = true ∨ (k : Int) ∈ fd)
  | [], r, k, _ => by simp [setB]
  | x :: fd, r, k, h => by
    have hx := h x (by simp)
    have ih := setB_at fd (r.set x.toNat true) k (fun y hy => by rw [List.length_set]; exact h y (by simp [hy]))
    have e : setB r (x :: fd) = setB (r.set x.toNat true) fd := rfl
    rw [e, ih, qAt_set _ _ (by omega)]
    by_cases h2 : k = x.toNat
    · rw [if_pos h2]
      have : (k : Int) ∈ x :: fd := by rw [h2, show ((x.toNat : Nat) : Int) = x by omega]; simp
      simp only [this, or_true, true_or]
    · rw [if_neg h2]
      constructor
      · rintro (a | a)
        · exact .inl a
        · exact .inr (List.mem_cons_of_mem _ a)
      · rintro (a | a)
        · exact .inl a
        · rcases List.mem_cons.1 a with a | a
          · omega
          · exact .inr a
theorem qAt_rep (n k : Nat) : qAt (List.replicate n false) k = false := by
  unfold qAt
  by_cases hk : k < n <;> simp [List.getD, hk]
def rgT (bk : Nat → List Int) (n : Nat) (c : List Int) : List Bool × List Bool := c.reverse.foldl (rgS bk n) (List.replicate n false, List.replicate n false)
theorem rgT_cons (bk : Nat → List Int) (n : Nat) (x : Int) (c : List Int) : rgT bk n (x :: c) = rgS bk n (rgT bk n c) x := by
  unfold rgT
  rw [List.reverse_cons, List.foldl_append]
  rfl
theorem rg_acy {ed bk : Nat → List Int} {n : Nat} {o : List Int} (he : ∀ k, k < n → Stn n (ed k)) (hb : ∀ k, k < n → Stn n (bk k)) (hbk : ∀ a b, a < n → (eR bk a b ↔ b < n ∧ eR ed b a)) (hac : ∀ k, k < n → ¬ Wyp (eR ed) k k) (hnod : o.Nodup) (htp : Tpo ed o) (hin : ∀ x ∈ o, 0 ≤ x ∧ x < (n : Int)) (hsrc : ∀ a, a < n → ed a ≠ [] → (a : Int) ∈ o) :
    ∀ (c a : List Int), o = a ++ c → (rgT bk n c).1 = List.replicate n false ∧ (rgT bk n c).2.length = n ∧ ClB bk n (rgT bk n c).2 ∧ ∀ k, qAt (rgT bk n c).2 k = true ↔ (k : Int) ∈ c
  | [], a, _ => by
    refine ⟨rfl, by simp [rgT], fun k _ hq => ?_, fun k => ?_⟩
    · have : qAt (List.replicate n false) k = true := hq
      rw [qAt_rep] at this
      cases this
    · show qAt (List.replicate n false) k = true ↔ _
      rw [qAt_rep]; simp
  | x :: c, a, e => by
    obtain ⟨i1, i2, i3, i4⟩ := rg_acy he hb hbk hac hnod htp hin hsrc c (a ++ [x]) (by rw [e]; simp)
    have hx := hin x (by rw [e]; simp)
    have hxn : x.toNat < n := by omega
    have hxe : ((x.toNat : Nat) : Int) = x := by omega
    have h1 := sp_one hb i2 i3 (x := x.toNat) hxn
    rw [hxe] at h1
    have hxc : x ∉ c := fun hm => by
      rw [e, List.nodup_append] at hnod
      exact (List.nodup_cons.1 hnod.2.1).1 hm
    have hpre : ∀ u, eR bk x.toNat u → (u : Int) ∈ c := fun u hu => by
      obtain ⟨hun, hu⟩ := (hbk _ _ hxn).1 hu
      have hne : ed u ≠ [] := fun h => by
        unfold eR at hu
        rw [h] at hu
        cases hu
      obtain ⟨p, q, hpq⟩ := List.append_of_mem (hsrc u hun hne)
      have hxp : x ∈ p := by
        have := htp p (u : Int) q hpq x (by
          unfold eR at hu
          rw [hxe] at hu
          simpa using hu)
        exact this
      rw [e] at hpq
      rcases List.append_eq_append_iff.1 hpq with ⟨d, h1, h2⟩ | ⟨d, h1, h2⟩
      · cases d with
        | nil =>
          rw [List.nil_append] at h2
          rw [List.append_nil] at h1
          exfalso
          rw [e, ← h1] at hnod
          have := (List.nodup_append.1 hnod).2.2 x hxp x (by simp)
          exact this rfl
        | cons y d =>
          rw [List.cons_append] at h2
          injection h2 with h3 h4
          rw [h4]
          simp
      · cases d with
        | nil =>
          rw [List.nil_append] at h2
          rw [List.append_nil] at h1
          exfalso
          rw [e, h1] at hnod
          exact (List.nodup_append.1 hnod).2.2 x hxp x (by simp) rfl
        | cons y d =>
          exfalso
          rw [List.cons_append] at h2
          injection h2 with h3 h4
          rw [e, h1] at hnod
          have h5 := (List.nodup_append.1 hnod).2.2 x (by simp [hxp]) x (by simp)
          exact h5 rfl
    have hno : ∀ y, y ∈ (spF bk (tot bk (rgT bk n c).2 n + 2) [x] (rgT bk n c).2 []).1 → y = x := fun y hy => by
      obtain ⟨b1, b2, b3⟩ := (h1.mem y).1 hy
      rcases b3.cases with h | ⟨u, hu, hr⟩
      · omega
      · have huq := (i4 u).2 (hpre u hu)
        have := i3.rs hb (eR_lt (hb _ hxn) hu) huq hr
        rw [b2] at this
        cases this
    have hyes : x ∈ (spF bk (tot bk (rgT bk n c).2 n + 2) [x] (rgT bk n c).2 []).1 := (h1.mem x).2 ⟨hx.1, by
      cases hq : qAt (rgT bk n c).2 x.toNat with
      | false => rfl
      | true => exact absurd (by rw [← hxe]; exact (i4 x.toNat).1 hq) hxc, Wy.refl _ _⟩
    have hone : (spF bk (tot bk (rgT bk n c).2 n + 2) [x] (rgT bk n c).2 []).1.length = 1 := by
      have hn := h1.nod
      revert hno hyes hn
      generalize (spF bk (tot bk (rgT bk n c).2 n + 2) [x] (rgT bk n c).2 []).1 = l
      intro hno hyes hn
      match l, hno, hyes, hn with
      | [], _, hy, _ => cases hy
      | [z], _, _, _ => rfl
      | z :: z2 :: l, hno, _, hn =>
        exfalso
        have a1 := hno z (by simp)
        have a2 := hno z2 (by simp)
        rw [a1, a2] at hn
        simp at hn
    have hself : ¬ x ∈ bk x.toNat := fun hm => by
      have h2 : eR bk x.toNat x.toNat := by unfold eR; rw [hxe]; exact hm
      have h3 := hpre _ h2
      rw [hxe] at h3
      exact hxc h3
    rw [rgT_cons]
    unfold rgS
    rw [if_pos ⟨hone, hself⟩]
    refine ⟨i1, h1.len, h1.cl, fun k => ?_⟩
    show qAt (spF bk (tot bk (rgT bk n c).2 n + 2) [x] (rgT bk n c).2 []).2 k = true ↔ _
    rw [h1.seen, i4]
    constructor
    · rintro (h | h)
      · exact List.mem_cons_of_mem _ h
      · by_cases hq : qAt (rgT bk n c).2 k = true
        · exact List.mem_cons_of_mem _ ((i4 k).1 hq)
        · have := hno (k : Int) ((h1.mem _).2 ⟨by omega, by rw [Int.toNat_natCast]; simpa using hq, by rw [Int.toNat_natCast]; exact h⟩)
          rw [this]; simp
    · intro h
      rcases List.mem_cons.1 h with h | h
      · right
        rw [← h, Int.toNat_natCast]
        exact Wy.refl _ _
      · exact .inl h
theorem rg_ring {bk : Nat → List Int} {n : Nat} (hb : ∀ k, k < n → Stn n (bk k)) : ∀ (c : List Int), (∀ x ∈ c, 0 ≤ x ∧ x < (n : Int)) → (rgT bk n c).1.length = n ∧ (rgT bk n c).2.length = n ∧ ClB bk n (rgT bk n c).2 ∧ (∀ k, k < n → qAt (rgT bk n c).2 k = true → Wyp (eR bk) k k → qAt (rgT bk n c).1 k = true) ∧ ∀ x ∈ c, qAt (rgT bk n c).2 x.toNat = true
  | [], _ => by
    have h : ∀ k, ¬ qAt (rgT bk n []).2 k = true := fun k hq => by
      have : qAt (List.replicate n false) k = true := hq
      rw [qAt_rep] at this; cases this
    exact ⟨by simp [rgT], by simp [rgT], fun k _ hq => absurd hq (h k), fun k _ hq => absurd hq (h k), fun x hx => by cases hx⟩
  | x :: c, hin => by
    obtain ⟨i0, i1, i2, i3, i4⟩ := rg_ring hb c (fun y hy => hin y (by simp [hy]))
    have hx := hin x (by simp)
    have hxn : x.toNat < n := by omega
    have hxe : ((x.toNat : Nat) : Int) = x := by omega
    have h1 := sp_one hb i1 i2 (x := x.toNat) hxn
    rw [hxe] at h1
    rw [rgT_cons]
    unfold rgS
    generalize hR : spF bk (tot bk (rgT bk n c).2 n + 2) [x] (rgT bk n c).2 [] = R at h1
    have hrg : ∀ y ∈ R.1, 0 ≤ y ∧ y < ((rgT bk n c).1.length : Int) := fun y hy => by
      obtain ⟨b1, b2, b3⟩ := (h1.mem y).1 hy
      have := b3.lt hb hxn
      rw [i0]
      omega
    have hs : ∀ z ∈ x :: c, qAt R.2 z.toNat = true := fun z hz => by
      rw [h1.seen]
      rcases List.mem_cons.1 hz with h | h
      · right; rw [h]; exact Wy.refl _ _
      · exact .inl (i4 z h)
    by_cases hcond : R.1.length = 1 ∧ ¬ x ∈ bk x.toNat
    · rw [if_pos hcond]
      refine ⟨i0, h1.len, h1.cl, fun k hk hq hr => ?_, hs⟩
      have hq : qAt R.2 k = true := hq
      show qAt (rgT bk n c).1 k = true
      by_cases hq0 : qAt (rgT bk n c).2 k = true
      · exact i3 k hk hq0 hr
      · exfalso
        have hq0 : qAt (rgT bk n c).2 k = false := by simpa using hq0
        have hkx : Wy (eR bk) x.toNat k := by
          rcases (h1.seen k).1 hq with h | h
          · rw [hq0] at h; cases h
          · exact h
        have hkm : (k : Int) ∈ R.1 := (h1.mem _).2 ⟨by omega, by rw [Int.toNat_natCast]; exact hq0, by rw [Int.toNat_natCast]; exact hkx⟩
        have hxs : qAt (rgT bk n c).2 x.toNat = false := by
          cases h : qAt (rgT bk n c).2 x.toNat with
          | false => rfl
          | true =>
            have := i2.rs hb hxn h hkx
            rw [hq0] at this
            cases this
        have hxm : x ∈ R.1 := (h1.mem x).2 ⟨hx.1, hxs, Wy.refl _ _⟩
        obtain ⟨z, hz⟩ := List.length_eq_one_iff.1 hcond.1
        rw [hz, List.mem_singleton] at hkm hxm
        have hkx2 : k = x.toNat := by omega
        subst hkx2
        obtain ⟨u, hu, hur⟩ := hr
        have hun := eR_lt (hb _ hxn) hu
        have hus : qAt (rgT bk n c).2 u = false := by
          cases h : qAt (rgT bk n c).2 u with
          | false => rfl
          | true =>
            have := i2.rs hb hun h hur
            rw [hxs] at this
            cases this
        have hum : (u : Int) ∈ R.1 := (h1.mem _).2 ⟨by omega, by rw [Int.toNat_natCast]; exact hus, by rw [Int.toNat_natCast]; exact Wy.one hu⟩
        rw [hz, List.mem_singleton] at hum
        have : u = x.toNat := by omega
        subst this
        unfold eR at hu
        rw [hxe] at hu
        exact hcond.2 hu
    · rw [if_neg hcond]
      refine ⟨by rw [setB_len]; exact i0, h1.len, h1.cl, fun k hk hq hr => ?_, hs⟩
      have hq : qAt R.2 k = true := hq
      show qAt (setB (rgT bk n c).1 R.1) k = true
      rw [setB_at _ _ _ hrg]
      by_cases hq0 : qAt (rgT bk n c).2 k = true
      · exact .inl (i3 k hk hq0 hr)
      · right
        rcases (h1.seen k).1 hq with h | h
        · exact absurd h hq0
        · exact (h1.mem _).2 ⟨by omega, by rw [Int.toNat_natCast]; simpa using hq0, by rw [Int.toNat_natCast]; exact h⟩
theorem ls_one (rg : List Bool) (ld : List Int) (ip : Nat → Bool) {l x : Int} (hl : l ≤ 1048576) (hx : x < 1048576) (hld : hAt ld (x.toNat + 1) ≤ 1048576) :
    lsP rg ld ip l x ≤ 1048576 ∧ (lsP rg ld ip l x = 1048576 ↔ l = 1048576 ∧ qAt rg x.toNat = false ∧ (ip x.toNat = true → hAt ld (x.toNat + 1) = 1048576)) := by
  unfold lsP
  cases h1 : ip x.toNat <;> cases h2 : qAt rg x.toNat <;> simp <;> omega
theorem ls_all (rg : List Bool) (ld : List Int) (ip : Nat → Bool) (hld : ∀ k, hAt ld k ≤ 1048576) : ∀ (fd : List Int) {l : Int}, l ≤ 1048576 → (∀ x ∈ fd, x < 1048576) →
    (fd.foldl (lsP rg ld ip) l = 1048576 ↔ l = 1048576 ∧ ∀ x ∈ fd, qAt rg x.toNat = false ∧ (ip x.toNat = true → hAt ld (x.toNat + 1) = 1048576))
  | [], l, hl, _ => by simp
  | x :: fd, l, hl, hx => by
    obtain ⟨h1, h2⟩ := ls_one rg ld ip hl (hx x (by simp)) (hld _)
    rw [List.foldl_cons, ls_all rg ld ip hld fd h1 (fun y hy => hx y (by simp [hy])), h2]
    constructor
    · rintro ⟨⟨a, b⟩, c⟩
      exact ⟨a, fun y hy => by
        rcases List.mem_cons.1 hy with e | e
        · rw [e]; exact b
        · exact c y e⟩
    · rintro ⟨a, b⟩
      exact ⟨⟨a, b x (by simp)⟩, fun y hy => b y (by simp [hy])⟩
theorem se_sem {ed : Nat → List Int} {n : Nat} (he : ∀ k, k < n → Stn n (ed k)) (hn9 : n ≤ 1048576) (rg : List Bool) (ld : List Int) (ip : Nat → Bool) (hld : ∀ k, hAt ld k ≤ 1048576) : ∀ (E : List Int) {s : List Bool}, (∀ e ∈ E, 0 ≤ e ∧ e < (n : Int)) → s.length = n → ClB ed n s →
    (seF ed n rg ld ip E s = 1048576 ↔ (∀ e ∈ E, hAt ld e.toNat = 1048576) ∧ ∀ x, qAt s x = false → (∃ e ∈ E, Wy (eR ed) e.toNat x) → qAt rg x = false ∧ (ip x = true → hAt ld (x + 1) = 1048576))
  | [], s, _, _, _ => by
    rw [seF]
    simp
  | e :: es, s, hE, hs, hc => by
    have h0 := hE e (by simp)
    have hen : e.toNat < n := by omega
    have h1 := sp_one he hs hc (x := e.toNat) hen
    rw [show ((e.toNat : Nat) : Int) = e by omega] at h1
    rw [seF]
    generalize hR : spF ed (tot ed s n + 2) [e] s [] = R at h1
    have hb : ∀ y ∈ R.1, y < 1048576 := fun y hy => by
      obtain ⟨b1, b2, b3⟩ := (h1.mem y).1 hy
      have := b3.lt he hen
      omega
    have hA := ls_all rg ld ip hld R.1 (hld e.toNat) hb
    have ih := se_sem he hn9 rg ld ip hld es (s := R.2) (fun y hy => hE y (by simp [hy])) h1.len h1.cl
    by_cases hz : R.1.foldl (lsP rg ld ip) (hAt ld e.toNat) = 1048576
    · rw [if_neg (by simpa using hz), ih]
      obtain ⟨z1, z2⟩ := hA.1 hz
      constructor
      · rintro ⟨a, b⟩
        refine ⟨fun y hy => ?_, fun x hx ⟨y, hy, hr⟩ => ?_⟩
        · rcases List.mem_cons.1 hy with h | h
          · rw [h]; exact z1
          · exact a y h
        · by_cases hq : qAt R.2 x = true
          · rcases (h1.seen x).1 hq with h | h
            · rw [hx] at h; cases h
            · have := z2 (x : Int) ((h1.mem _).2 ⟨by omega, by rw [Int.toNat_natCast]; exact hx, by rw [Int.toNat_natCast]; exact h⟩)
              rw [Int.toNat_natCast] at this
              exact this
          · rcases List.mem_cons.1 hy with h | h
            · exact absurd ((h1.seen x).2 (.inr (by rw [← h]; exact hr))) hq
            · exact b x (by simpa using hq) ⟨y, h, hr⟩
      · rintro ⟨a, b⟩
        refine ⟨fun y hy => a y (by simp [hy]), fun x hx ⟨y, hy, hr⟩ => b x ?_ ⟨y, by simp [hy], hr⟩⟩
        cases hq : qAt s x with
        | false => rfl
        | true =>
          rw [(h1.seen x).2 (.inl hq)] at hx
          cases hx
    · rw [if_pos hz]
      constructor
      · intro h; exact absurd h hz
      · rintro ⟨a, b⟩
        exfalso
        apply hz
        rw [hA]
        refine ⟨a e (by simp), fun x hx => ?_⟩
        obtain ⟨b1, b2, b3⟩ := (h1.mem x).1 hx
        exact b x.toNat b2 ⟨e, by simp, b3⟩
end Go.Proofs.YtjamfbpdepahnaaGreat
