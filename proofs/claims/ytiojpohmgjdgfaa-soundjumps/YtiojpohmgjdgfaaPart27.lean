import Derived.Test.YtiojpohmgjdgfaaPart26
namespace Go.Proofs.Ytiojpohmgjdgfaa
open Go.RowKit
set_option linter.unusedVariables false
set_option linter.unusedSimpArgs false
def ndI (z : Int) : Nat := (if z < 0 then -z - 1 else z).toNat
theorem split_snoc {a p q : List Int} {y z : Int} (h : a ++ [y] = p ++ z :: q) : (q = [] ∧ a = p ∧ y = z) ∨ ∃ q', q = q' ++ [y] ∧ a = p ++ z :: q' := by
  rcases List.eq_nil_or_concat q with e | ⟨q', x, e⟩
  · subst e
    have := List.append_inj' h rfl
    obtain ⟨h1, h2⟩ := this
    injection h2 with h2 _
    exact .inl ⟨rfl, h1, h2⟩
  · rw [List.concat_eq_append] at e
    subst e
    right
    have h' : a ++ [y] = (p ++ z :: q') ++ [x] := by rw [h]; simp
    obtain ⟨h1, h2⟩ := List.append_inj' h' rfl
    injection h2 with h2 _
    exact ⟨q', by rw [h2], h1⟩
theorem split_app {a b p q : List Int} {z : Int} (h : a ++ b = p ++ z :: q) : (∃ q', q = q' ++ b ∧ a = p ++ z :: q') ∨ ∃ p', p = a ++ p' ∧ b = p' ++ z :: q := by
  rcases List.append_eq_append_iff.1 h with ⟨c, h1, h2⟩ | ⟨c, h1, h2⟩
  · exact .inr ⟨c, h1, h2⟩
  · cases c with
    | nil => exact .inr ⟨[], by simpa using h1.symm, by simpa using h2.symm⟩
    | cons x c =>
      rw [List.cons_append] at h2
      injection h2 with h3 h4
      exact .inl ⟨c, h4, by rw [h1, h3]⟩
def Tpo (ed : Nat → List Int) (o : List Int) : Prop := ∀ a x c, o = a ++ x :: c → ∀ v ∈ ed x.toNat, v ∈ a
structure FnA (ed : Nat → List Int) (n : Nat) (wk : List Int) (s : List Bool) (o : List Int) : Prop where
  i : FnI n wk s o
  an : ∀ a x c, wk = a ++ (-x - 1) :: c → 0 ≤ x → (∀ v ∈ ed x.toNat, v ∈ o ∨ v ∈ c ∨ -v - 1 ∈ c) ∧ ∀ z ∈ c, Wyp (eR ed) x.toNat (ndI z)
  no : ∀ y ∈ wk, y < 0 → -y - 1 ∉ o
  nod : o.Nodup
  tp : Tpo ed o
theorem Tpo.snoc {ed : Nat → List Int} {o : List Int} {x : Int} (h : Tpo ed o) (hx : ∀ v ∈ ed x.toNat, v ∈ o) : Tpo ed (o ++ [x]) := fun a z c e v hv => by
  rcases split_snoc e with ⟨h1, h2, h3⟩ | ⟨q', h1, h2⟩
  · subst h2; subst h3
    exact hx v hv
  · exact h a z q' h2 v hv
theorem fn_acy {ed : Nat → List Int} {n : Nat} (he : ∀ k, k < n → Stn n (ed k)) (hac : ∀ k, k < n → ¬ Wyp (eR ed) k k) : ∀ (f : Nat) {wk : List Int} {s : List Bool} {o : List Int}, FnA ed n wk s o → wk.length + tot (ed1 ed) s n < f →
    FnA ed n [] (fnF ed f wk s o).1 (fnF ed f wk s o).2
  | 0, wk, s, o, _, h => by omega
  | f + 1, wk, s, o, hA, hf => by
    rcases List.eq_nil_or_concat wk with e | ⟨a, y, e⟩
    · subst e
      rw [fnF, if_pos rfl]
      exact hA
    · rw [List.concat_eq_append] at e
      subst e
      have hI := hA.i
      have hy := hI.stm y (by simp)
      have hl : (a ++ [y]).length = a.length + 1 := by simp
      have ha : Stm n a := fun z hz => hI.stm z (by simp [hz])
      rw [fn_snoc]
      by_cases h0 : y < 0
      · rw [if_pos h0]
        have hlast := hA.an a (-y - 1) [] (by simp; omega) (by omega)
        have hxn : (-y - 1).toNat < n := by omega
        refine fn_acy he hac f (wk := a) (s := s) (o := o ++ [-y - 1]) ⟨⟨hI.len, ha, fun x hx => ?_, fun z hz => hI.gr z (by simp [hz]), fun k hk => ?_⟩, fun p x c e hx0 => ?_, fun z hz hz0 => ?_, ?_, hA.tp.snoc (fun v hv => ?_)⟩ (by omega)
        · rcases List.mem_append.1 hx with h | h
          · exact hI.ok x h
          · rw [List.mem_singleton] at h
            rw [h]
            exact ⟨by omega, by omega, hI.gr y (by simp) h0⟩
        · rcases hI.al k hk with h | h
          · exact .inl (by simp [h])
          · rcases List.mem_append.1 h with h | h
            · exact .inr h
            · rw [List.mem_singleton] at h
              left
              rw [← h]
              simp
              right
              omega
        · obtain ⟨b1, b2⟩ := hA.an p x (c ++ [y]) (by rw [e]; simp) hx0
          have hxr : x.toNat < n := by
            have := hI.stm (-x - 1) (by rw [e]; simp)
            omega
          refine ⟨fun v hv => ?_, fun z hz => b2 z (by simp [hz])⟩
          have hv0 := he _ hxr v hv
          rcases b1 v hv with h | h | h
          · exact .inl (by simp [h])
          · rcases List.mem_append.1 h with h | h
            · exact .inr (.inl h)
            · rw [List.mem_singleton] at h; omega
          · rcases List.mem_append.1 h with h | h
            · exact .inr (.inr h)
            · rw [List.mem_singleton] at h
              left
              have : v = -y - 1 := by omega
              simp [this]
        · intro hm
          rcases List.mem_append.1 hm with h | h
          · exact hA.no z (by simp [hz]) hz0 h
          · rw [List.mem_singleton] at h
            have hzy : z = y := by omega
            subst hzy
            obtain ⟨p, q, hpq⟩ := List.append_of_mem hz
            obtain ⟨-, b2⟩ := hA.an p (-z - 1) (q ++ [z]) (by rw [hpq]; simp; omega) (by omega)
            have := b2 z (by simp)
            unfold ndI at this
            rw [if_pos h0] at this
            exact hac _ hxn this
        · rw [List.nodup_append]
          refine ⟨hA.nod, by simp, fun u hu w hw e => ?_⟩
          rw [List.mem_singleton] at hw
          exact hA.no y (by simp) h0 (by rw [← hw, ← e]; exact hu)
        · rcases hlast.1 v hv with h | h | h
          · exact h
          · cases h
          · cases h
      rw [if_neg h0]
      have hnd : ndI y = y.toNat := by unfold ndI; rw [if_neg h0]
      by_cases hq : qAt s y.toNat = true
      · rw [if_pos hq]
        refine fn_acy he hac f (wk := a) (s := s) (o := o) ⟨⟨hI.len, ha, hI.ok, fun z hz => hI.gr z (by simp [hz]), fun k hk => ?_⟩, fun p x c e hx0 => ?_, fun z hz hz0 => hA.no z (by simp [hz]) hz0, hA.nod, hA.tp⟩ (by omega)
        · rcases hI.al k hk with h | h
          · exact .inl h
          · rcases List.mem_append.1 h with h | h
            · exact .inr h
            · rw [List.mem_singleton] at h; omega
        · obtain ⟨b1, b2⟩ := hA.an p x (c ++ [y]) (by rw [e]; simp) hx0
          have hxr : x.toNat < n := by
            have := hI.stm (-x - 1) (by rw [e]; simp)
            omega
          have hxy := b2 y (by simp)
          rw [hnd] at hxy
          refine ⟨fun v hv => ?_, fun z hz => b2 z (by simp [hz])⟩
          have hv0 := he _ hxr v hv
          rcases b1 v hv with h | h | h
          · exact .inl h
          · rcases List.mem_append.1 h with h | h
            · exact .inr (.inl h)
            · rw [List.mem_singleton] at h
              subst h
              rcases hI.al v.toNat hq with h | h
              · rw [show ((v.toNat : Nat) : Int) = v by omega] at h
                exact .inl h
              · rw [show ((v.toNat : Nat) : Int) = v by omega] at h
                rcases List.mem_append.1 h with h | h
                · rw [e] at h
                  rcases List.mem_append.1 h with h | h
                  · exfalso
                    obtain ⟨p1, q1, hp⟩ := List.append_of_mem h
                    obtain ⟨-, d2⟩ := hA.an p1 v (q1 ++ (-x - 1) :: c ++ [v]) (by rw [e, hp]; simp) (by omega)
                    have := d2 (-x - 1) (by simp)
                    unfold ndI at this
                    rw [if_pos (by omega), show -(-x - 1) - 1 = x by omega] at this
                    exact hac _ hxr (hxy.trans_rs this.rs)
                  · rcases List.mem_cons.1 h with h | h
                    · exfalso
                      have : v = x := by omega
                      rw [this] at hxy
                      exact hac _ hxr hxy
                    · exact .inr (.inr h)
                · rw [List.mem_singleton] at h; omega
          · rcases List.mem_append.1 h with h | h
            · exact .inr (.inr h)
            · rw [List.mem_singleton] at h; omega
      · rw [if_neg hq]
        have hq : qAt s y.toNat = false := by simpa using hq
        have hl2 := hI.len
        have hyn : y.toNat < n := by omega
        have h3 := tot_set (ed1 ed) s y.toNat (by omega) hq n hyn
        have e1 : (ed1 ed y.toNat).length = (ed y.toNat).length + 1 := by simp [ed1]
        have hset : ∀ j, qAt (s.set y.toNat true) j = if j = y.toNat then true else qAt s j := qAt_set s y.toNat (by omega)
        have hge : ∀ j, qAt s j = true → qAt (s.set y.toNat true) j = true := fun j hj => by rw [hset]; split <;> simp_all
        have hyo : y ∉ o := fun hm => by
          have := (hI.ok y hm).2.2
          rw [hq] at this
          cases this
        have hdn : ∀ z ∈ ed y.toNat, ndI z = z.toNat ∧ Wyp (eR ed) y.toNat z.toNat := fun z hz => by
          have := he _ hyn z hz
          refine ⟨by unfold ndI; rw [if_neg (by omega)], z.toNat, eR_of (he _ hyn) hz, Wy.refl _ _⟩
        refine fn_acy he hac f (wk := a ++ [-y - 1] ++ ed y.toNat) (s := s.set y.toNat true) (o := o) ⟨⟨by simp [hl2], (ha.app (fun z hz => by rw [List.mem_singleton] at hz; omega)).app (he _ hyn).stm, fun x hx => ?_, fun z hz hz0 => ?_, fun k hk => ?_⟩, fun p x c e hx0 => ?_, fun z hz hz0 => ?_, hA.nod, hA.tp⟩ (by rw [List.length_append, List.length_append, List.length_singleton]; omega)
        · obtain ⟨b1, b2, b3⟩ := hI.ok x hx
          exact ⟨b1, b2, hge _ b3⟩
        · rcases List.mem_append.1 hz with h | h
          · rcases List.mem_append.1 h with h | h
            · exact hge _ (hI.gr z (by simp [h]) hz0)
            · rw [List.mem_singleton] at h
              rw [h, hset, if_pos (by omega)]
          · have := he _ hyn z h
            omega
        · rw [hset] at hk
          by_cases e : k = y.toNat
          · right
            rw [e, show -((y.toNat : Nat) : Int) - 1 = -y - 1 by omega]
            simp
          · rw [if_neg e] at hk
            rcases hI.al k hk with h | h
            · exact .inl h
            · rcases List.mem_append.1 h with h | h
              · exact .inr (by simp [h])
              · rw [List.mem_singleton] at h; omega
        · rw [List.append_assoc] at e
          rcases split_app e with ⟨q', h1, h2⟩ | ⟨p', h1, h2⟩
          · obtain ⟨b1, b2⟩ := hA.an p x (q' ++ [y]) (by rw [h2]; simp) hx0
            have hxr : x.toNat < n := by
              have := hI.stm (-x - 1) (by rw [h2]; simp)
              omega
            have hxy := b2 y (by simp)
            rw [hnd] at hxy
            rw [h1]
            refine ⟨fun v hv => ?_, fun z hz => ?_⟩
            · rcases b1 v hv with h | h | h
              · exact .inl h
              · rcases List.mem_append.1 h with h | h
                · exact .inr (.inl (by simp [h]))
                · rw [List.mem_singleton] at h
                  exact .inr (.inr (by simp [h]))
              · rcases List.mem_append.1 h with h | h
                · exact .inr (.inr (by simp [h]))
                · rw [List.mem_singleton] at h
                  have := he _ hxr v hv
                  omega
            · rcases List.mem_append.1 hz with h | h
              · exact b2 z (by simp [h])
              · rcases List.mem_append.1 h with h | h
                · rw [List.mem_singleton] at h
                  rw [h]
                  unfold ndI
                  rw [if_pos (by omega), show -(-y - 1) - 1 = y by omega]
                  exact hxy
                · rw [(hdn z h).1]
                  exact hxy.trans_rs (hdn z h).2.rs
          · rw [List.singleton_append] at h2
            cases p' with
            | nil =>
              rw [List.nil_append] at h2
              injection h2 with h3 h4
              have hxy : x = y := by omega
              subst hxy
              rw [← h4]
              exact ⟨fun v hv => .inr (.inl hv), fun z hz => by rw [(hdn z hz).1]; exact (hdn z hz).2⟩
            | cons u p' =>
              rw [List.cons_append] at h2
              injection h2 with h3 h4
              exfalso
              have := he _ hyn (-x - 1) (by rw [h4]; simp)
              omega
        · rcases List.mem_append.1 hz with h | h
          · rcases List.mem_append.1 h with h | h
            · exact hA.no z (by simp [h]) hz0
            · rw [List.mem_singleton] at h
              rw [h, show -(-y - 1) - 1 = y by omega]
              exact hyo
          · have := he _ hyn z h
            omega
theorem fnO_acy {ed : Nat → List Int} {n : Nat} (he : ∀ k, k < n → Stn n (ed k)) (hac : ∀ k, k < n → ¬ Wyp (eR ed) k k) (S : List St) : ∀ (f j : Nat) {s : List Bool} {o : List Int}, j + f = n → FnA ed n [] s o → (fnO ed S n f j s o).Nodup ∧ Tpo ed (fnO ed S n f j s o)
  | 0, j, s, o, hj, hA => ⟨hA.nod, hA.tp⟩
  | f + 1, j, s, o, hj, hA => by
    rw [fnO]
    by_cases hc : cameP S j = true
    · rw [if_pos hc]
      have hI := hA.i
      refine fnO_acy he hac S f (j + 1) (by omega) (fn_acy he hac (tot (ed1 ed) s n + 2) (wk := [(j : Int)]) (s := s) (o := o) ⟨⟨hI.len, fun y hy => by rw [List.mem_singleton] at hy; omega, hI.ok, fun y hy h0 => by rw [List.mem_singleton] at hy; omega, fun k hk => ?_⟩, fun p x c e hx0 => ?_, fun y hy h0 => by rw [List.mem_singleton] at hy; omega, hA.nod, hA.tp⟩ (by simp only [List.length_singleton]; omega))
      · rcases hI.al k hk with h | h
        · exact .inl h
        · cases h
      · exfalso
        have : -x - 1 ∈ [(j : Int)] := by rw [e]; simp
        rw [List.mem_singleton] at this
        omega
    · rw [if_neg hc]
      exact fnO_acy he hac S f (j + 1) (by omega) hA
theorem FnA.new (ed : Nat → List Int) (n : Nat) : FnA ed n [] (List.replicate n false) [] := by
  have h : ∀ k, qAt (List.replicate n false) k = false := fun k => by
    unfold qAt
    by_cases hk : k < n <;> simp [List.getD, hk]
  exact ⟨⟨by simp, fun y hy => (by cases hy), fun y hy => (by cases hy), fun y hy => (by cases hy), fun k hk => by rw [h] at hk; cases hk⟩, fun a x c e => by simp at e, fun y hy => (by cases hy), List.nodup_nil, fun a x c e => by simp at e⟩
theorem setB_at : ∀ (fd : List Int) (r : List Bool) (k : Nat), (∀ x ∈ fd, 0 ≤ x ∧ x < (r.length : Int)) → (qAt (setB r fd) k = true ↔ qAt r k = true ∨ (k : Int) ∈ fd)
  | [], r, k, _ => by simp [setB]
  | x :: fd, r, k, h => by
    have hx := h x (by simp)
    have ih := setB_at fd (r.set x.toNat true) k (fun y hy => by rw [List.length_set]; exact h y (by simp [hy]))
    have e : setB r (x :: fd) = setB (r.set x.toNat true) fd := rfl
    rw [e, ih, qAt_set _ _ (by omega)]
    by_cases h2 : k = x.toNat
    · rw [if_pos h2]
      have : (k : Int) ∈ x :: fd := by rw [h2, show ((x.toNat : Nat) : Int) = x by omega]; simp
      simp only [this, or_true, true_or]
    · rw [if_neg h2]
      constructor
      · rintro (a | a)
        · exact .inl a
        · exact .inr (List.mem_cons_of_mem _ a)
      · rintro (a | a)
        · exact .inl a
        · rcases List.mem_cons.1 a with a | a
          · omega
          · exact .inr a
theorem qAt_rep (n k : Nat) : qAt (List.replicate n false) k = false := by
  unfold qAt
  by_cases hk : k < n <;> simp [List.getD, hk]
def rgT (bk : Nat → List Int) (n : Nat) (c : List Int) : List Bool × List Bool := c.reverse.foldl (rgS bk n) (List.replicate n false, List.replicate n false)
theorem rgT_cons (bk : Nat → List Int) (n : Nat) (x : Int) (c : List Int) : rgT bk n (x :: c) = rgS bk n (rgT bk n c) x := by
  unfold rgT
  rw [List.reverse_cons, List.foldl_append]
  rfl
theorem rg_acy {ed bk : Nat → List Int} {n : Nat} {o : List Int} (he : ∀ k, k < n → Stn n (ed k)) (hb : ∀ k, k < n → Stn n (bk k)) (hbk : ∀ a b, a < n → (eR bk a b ↔ b < n ∧ eR ed b a)) (hac : ∀ k, k < n → ¬ Wyp (eR ed) k k) (hnod : o.Nodup) (htp : Tpo ed o) (hin : ∀ x ∈ o, 0 ≤ x ∧ x < (n : Int)) (hsrc : ∀ a, a < n → ed a ≠ [] → (a : Int) ∈ o) :
    ∀ (c a : List Int), o = a ++ c → (rgT bk n c).1 = List.replicate n false ∧ (rgT bk n c).2.length = n ∧ ClB bk n (rgT bk n c).2 ∧ ∀ k, qAt (rgT bk n c).2 k = true ↔ (k : Int) ∈ c
  | [], a, _ => by
    refine ⟨rfl, by simp [rgT], fun k _ hq => ?_, fun k => ?_⟩
    · have : qAt (List.replicate n false) k = true := hq
      rw [qAt_rep] at this
      cases this
    · show qAt (List.replicate n false) k = true ↔ _
      rw [qAt_rep]; simp
  | x :: c, a, e => by
    obtain ⟨i1, i2, i3, i4⟩ := rg_acy he hb hbk hac hnod htp hin hsrc c (a ++ [x]) (by rw [e]; simp)
    have hx := hin x (by rw [e]; simp)
    have hxn : x.toNat < n := by omega
    have hxe : ((x.toNat : Nat) : Int) = x := by omega
    have h1 := sp_one hb i2 i3 (x := x.toNat) hxn
    rw [hxe] at h1
    have hxc : x ∉ c := fun hm => by
      rw [e, List.nodup_append] at hnod
      exact (List.nodup_cons.1 hnod.2.1).1 hm
    have hpre : ∀ u, eR bk x.toNat u → (u : Int) ∈ c := fun u hu => by
      obtain ⟨hun, hu⟩ := (hbk _ _ hxn).1 hu
      have hne : ed u ≠ [] := fun h => by
        unfold eR at hu
        rw [h] at hu
        cases hu
      obtain ⟨p, q, hpq⟩ := List.append_of_mem (hsrc u hun hne)
      have hxp : x ∈ p := by
        have := htp p (u : Int) q hpq x (by
          unfold eR at hu
          rw [hxe] at hu
          simpa using hu)
        exact this
      rw [e] at hpq
      rcases List.append_eq_append_iff.1 hpq with ⟨d, h1, h2⟩ | ⟨d, h1, h2⟩
      · cases d with
        | nil =>
          rw [List.nil_append] at h2
          rw [List.append_nil] at h1
          exfalso
          rw [e, ← h1] at hnod
          have := (List.nodup_append.1 hnod).2.2 x hxp x (by simp)
          exact this rfl
        | cons y d =>
          rw [List.cons_append] at h2
          injection h2 with h3 h4
          rw [h4]
          simp
      · cases d with
        | nil =>
          rw [List.nil_append] at h2
          rw [List.append_nil] at h1
          exfalso
          rw [e, h1] at hnod
          exact (List.nodup_append.1 hnod).2.2 x hxp x (by simp) rfl
        | cons y d =>
          exfalso
          rw [List.cons_append] at h2
          injection h2 with h3 h4
          rw [e, h1] at hnod
          have h5 := (List.nodup_append.1 hnod).2.2 x (by simp [hxp]) x (by simp)
          exact h5 rfl
    have hno : ∀ y, y ∈ (spF bk (tot bk (rgT bk n c).2 n + 2) [x] (rgT bk n c).2 []).1 → y = x := fun y hy => by
      obtain ⟨b1, b2, b3⟩ := (h1.mem y).1 hy
      rcases b3.cases with h | ⟨u, hu, hr⟩
      · omega
      · have huq := (i4 u).2 (hpre u hu)
        have := i3.rs hb (eR_lt (hb _ hxn) hu) huq hr
        rw [b2] at this
        cases this
    have hyes : x ∈ (spF bk (tot bk (rgT bk n c).2 n + 2) [x] (rgT bk n c).2 []).1 := (h1.mem x).2 ⟨hx.1, by
      cases hq : qAt (rgT bk n c).2 x.toNat with
      | false => rfl
      | true => exact absurd (by rw [← hxe]; exact (i4 x.toNat).1 hq) hxc, Wy.refl _ _⟩
    have hone : (spF bk (tot bk (rgT bk n c).2 n + 2) [x] (rgT bk n c).2 []).1.length = 1 := by
      have hn := h1.nod
      revert hno hyes hn
      generalize (spF bk (tot bk (rgT bk n c).2 n + 2) [x] (rgT bk n c).2 []).1 = l
      intro hno hyes hn
      match l, hno, hyes, hn with
      | [], _, hy, _ => cases hy
      | [z], _, _, _ => rfl
      | z :: z2 :: l, hno, _, hn =>
        exfalso
        have a1 := hno z (by simp)
        have a2 := hno z2 (by simp)
        rw [a1, a2] at hn
        simp at hn
    have hself : ¬ x ∈ bk x.toNat := fun hm => by
      have h2 : eR bk x.toNat x.toNat := by unfold eR; rw [hxe]; exact hm
      have h3 := hpre _ h2
      rw [hxe] at h3
      exact hxc h3
    rw [rgT_cons]
    unfold rgS
    rw [if_pos ⟨hone, hself⟩]
    refine ⟨i1, h1.len, h1.cl, fun k => ?_⟩
    show qAt (spF bk (tot bk (rgT bk n c).2 n + 2) [x] (rgT bk n c).2 []).2 k = true ↔ _
    rw [h1.seen, i4]
    constructor
    · rintro (h | h)
      · exact List.mem_cons_of_mem _ h
      · by_cases hq : qAt (rgT bk n c).2 k = true
        · exact List.mem_cons_of_mem _ ((i4 k).1 hq)
        · have := hno (k : Int) ((h1.mem _).2 ⟨by omega, by rw [Int.toNat_natCast]; simpa using hq, by rw [Int.toNat_natCast]; exact h⟩)
          rw [this]; simp
    · intro h
      rcases List.mem_cons.1 h with h | h
      · right
        rw [← h, Int.toNat_natCast]
        exact Wy.refl _ _
      · exact .inl h
theorem rg_ring {bk : Nat → List Int} {n : Nat} (hb : ∀ k, k < n → Stn n (bk k)) : ∀ (c : List Int), (∀ x ∈ c, 0 ≤ x ∧ x < (n : Int)) → (rgT bk n c).1.length = n ∧ (rgT bk n c).2.length = n ∧ ClB bk n (rgT bk n c).2 ∧ (∀ k, k < n → qAt (rgT bk n c).2 k = true → Wyp (eR bk) k k → qAt (rgT bk n c).1 k = true) ∧ ∀ x ∈ c, qAt (rgT bk n c).2 x.toNat = true
  | [], _ => by
    have h : ∀ k, ¬ qAt (rgT bk n []).2 k = true := fun k hq => by
      have : qAt (List.replicate n false) k = true := hq
      rw [qAt_rep] at this; cases this
    exact ⟨by simp [rgT], by simp [rgT], fun k _ hq => absurd hq (h k), fun k _ hq => absurd hq (h k), fun x hx => by cases hx⟩
  | x :: c, hin => by
    obtain ⟨i0, i1, i2, i3, i4⟩ := rg_ring hb c (fun y hy => hin y (by simp [hy]))
    have hx := hin x (by simp)
    have hxn : x.toNat < n := by omega
    have hxe : ((x.toNat : Nat) : Int) = x := by omega
    have h1 := sp_one hb i1 i2 (x := x.toNat) hxn
    rw [hxe] at h1
    rw [rgT_cons]
    unfold rgS
    generalize hR : spF bk (tot bk (rgT bk n c).2 n + 2) [x] (rgT bk n c).2 [] = R at h1
    have hrg : ∀ y ∈ R.1, 0 ≤ y ∧ y < ((rgT bk n c).1.length : Int) := fun y hy => by
      obtain ⟨b1, b2, b3⟩ := (h1.mem y).1 hy
      have := b3.lt hb hxn
      rw [i0]
      omega
    have hs : ∀ z ∈ x :: c, qAt R.2 z.toNat = true := fun z hz => by
      rw [h1.seen]
      rcases List.mem_cons.1 hz with h | h
      · right; rw [h]; exact Wy.refl _ _
      · exact .inl (i4 z h)
    by_cases hcond : R.1.length = 1 ∧ ¬ x ∈ bk x.toNat
    · rw [if_pos hcond]
      refine ⟨i0, h1.len, h1.cl, fun k hk hq hr => ?_, hs⟩
      have hq : qAt R.2 k = true := hq
      show qAt (rgT bk n c).1 k = true
      by_cases hq0 : qAt (rgT bk n c).2 k = true
      · exact i3 k hk hq0 hr
      · exfalso
        have hq0 : qAt (rgT bk n c).2 k = false := by simpa using hq0
        have hkx : Wy (eR bk) x.toNat k := by
          rcases (h1.seen k).1 hq with h | h
          · rw [hq0] at h; cases h
          · exact h
        have hkm : (k : Int) ∈ R.1 := (h1.mem _).2 ⟨by omega, by rw [Int.toNat_natCast]; exact hq0, by rw [Int.toNat_natCast]; exact hkx⟩
        have hxs : qAt (rgT bk n c).2 x.toNat = false := by
          cases h : qAt (rgT bk n c).2 x.toNat with
          | false => rfl
          | true =>
            have := i2.rs hb hxn h hkx
            rw [hq0] at this
            cases this
        have hxm : x ∈ R.1 := (h1.mem x).2 ⟨hx.1, hxs, Wy.refl _ _⟩
        obtain ⟨z, hz⟩ := List.length_eq_one_iff.1 hcond.1
        rw [hz, List.mem_singleton] at hkm hxm
        have hkx2 : k = x.toNat := by omega
        subst hkx2
        obtain ⟨u, hu, hur⟩ := hr
        have hun := eR_lt (hb _ hxn) hu
        have hus : qAt (rgT bk n c).2 u = false := by
          cases h : qAt (rgT bk n c).2 u with
          | false => rfl
          | true =>
            have := i2.rs hb hun h hur
            rw [hxs] at this
            cases this
        have hum : (u : Int) ∈ R.1 := (h1.mem _).2 ⟨by omega, by rw [Int.toNat_natCast]; exact hus, by rw [Int.toNat_natCast]; exact Wy.one hu⟩
        rw [hz, List.mem_singleton] at hum
        have : u = x.toNat := by omega
        subst this
        unfold eR at hu
        rw [hxe] at hu
        exact hcond.2 hu
    · rw [if_neg hcond]
      refine ⟨by rw [setB_len]; exact i0, h1.len, h1.cl, fun k hk hq hr => ?_, hs⟩
      have hq : qAt R.2 k = true := hq
      show qAt (setB (rgT bk n c).1 R.1) k = true
      rw [setB_at _ _ _ hrg]
      by_cases hq0 : qAt (rgT bk n c).2 k = true
      · exact .inl (i3 k hk hq0 hr)
      · right
        rcases (h1.seen k).1 hq with h | h
        · exact absurd h hq0
        · exact (h1.mem _).2 ⟨by omega, by rw [Int.toNat_natCast]; simpa using hq0, by rw [Int.toNat_natCast]; exact h⟩
theorem ls_one (rg : List Bool) (ld : List Int) (ip : Nat → Bool) {l x : Int} (hl : l ≤ 1048576) (hx : x < 1048576) (hld : hAt ld (x.toNat + 1) ≤ 1048576) :
    lsP rg ld ip l x ≤ 1048576 ∧ (lsP rg ld ip l x = 1048576 ↔ l = 1048576 ∧ qAt rg x.toNat = false ∧ (ip x.toNat = true → hAt ld (x.toNat + 1) = 1048576)) := by
  unfold lsP
  cases h1 : ip x.toNat <;> cases h2 : qAt rg x.toNat <;> simp <;> omega
theorem ls_all (rg : List Bool) (ld : List Int) (ip : Nat → Bool) (hld : ∀ k, hAt ld k ≤ 1048576) : ∀ (fd : List Int) {l : Int}, l ≤ 1048576 → (∀ x ∈ fd, x < 1048576) →
    (fd.foldl (lsP rg ld ip) l = 1048576 ↔ l = 1048576 ∧ ∀ x ∈ fd, qAt rg x.toNat = false ∧ (ip x.toNat = true → hAt ld (x.toNat + 1) = 1048576))
  | [], l, hl, _ => by simp
  | x :: fd, l, hl, hx => by
    obtain ⟨h1, h2⟩ := ls_one rg ld ip hl (hx x (by simp)) (hld _)
    rw [List.foldl_cons, ls_all rg ld ip hld fd h1 (fun y hy => hx y (by simp [hy])), h2]
    constructor
    · rintro ⟨⟨a, b⟩, c⟩
      exact ⟨a, fun y hy => by
        rcases List.mem_cons.1 hy with e | e
        · rw [e]; exact b
        · exact c y e⟩
    · rintro ⟨a, b⟩
      exact ⟨⟨a, b x (by simp)⟩, fun y hy => b y (by simp [hy])⟩
theorem se_sem {ed : Nat → List Int} {n : Nat} (he : ∀ k, k < n → Stn n (ed k)) (hn9 : n ≤ 1048576) (rg : List Bool) (ld : List Int) (ip : Nat → Bool) (hld : ∀ k, hAt ld k ≤ 1048576) : ∀ (E : List Int) {s : List Bool}, (∀ e ∈ E, 0 ≤ e ∧ e < (n : Int)) → s.length = n → ClB ed n s →
    (seF ed n rg ld ip E s = 1048576 ↔ (∀ e ∈ E, hAt ld e.toNat = 1048576) ∧ ∀ x, qAt s x = false → (∃ e ∈ E, Wy (eR ed) e.toNat x) → qAt rg x = false ∧ (ip x = true → hAt ld (x + 1) = 1048576))
  | [], s, _, _, _ => by
    rw [seF]
    simp
  | e :: es, s, hE, hs, hc => by
    have h0 := hE e (by simp)
    have hen : e.toNat < n := by omega
    have h1 := sp_one he hs hc (x := e.toNat) hen
    rw [show ((e.toNat : Nat) : Int) = e by omega] at h1
    rw [seF]
    generalize hR : spF ed (tot ed s n + 2) [e] s [] = R at h1
    have hb : ∀ y ∈ R.1, y < 1048576 := fun y hy => by
      obtain ⟨b1, b2, b3⟩ := (h1.mem y).1 hy
      have := b3.lt he hen
      omega
    have hA := ls_all rg ld ip hld R.1 (hld e.toNat) hb
    have ih := se_sem he hn9 rg ld ip hld es (s := R.2) (fun y hy => hE y (by simp [hy])) h1.len h1.cl
    by_cases hz : R.1.foldl (lsP rg ld ip) (hAt ld e.toNat) = 1048576
    · rw [if_neg (by simpa using hz), ih]
      obtain ⟨z1, z2⟩ := hA.1 hz
      constructor
      · rintro ⟨a, b⟩
        refine ⟨fun y hy => ?_, fun x hx ⟨y, hy, hr⟩ => ?_⟩
        · rcases List.mem_cons.1 hy with h | h
          · rw [h]; exact z1
          · exact a y h
        · by_cases hq : qAt R.2 x = true
          · rcases (h1.seen x).1 hq with h | h
            · rw [hx] at h; cases h
            · have := z2 (x : Int) ((h1.mem _).2 ⟨by omega, by rw [Int.toNat_natCast]; exact hx, by rw [Int.toNat_natCast]; exact h⟩)
              rw [Int.toNat_natCast] at this
              exact this
          · rcases List.mem_cons.1 hy with h | h
            · exact absurd ((h1.seen x).2 (.inr (by rw [← h]; exact hr))) hq
            · exact b x (by simpa using hq) ⟨y, h, hr⟩
      · rintro ⟨a, b⟩
        refine ⟨fun y hy => a y (by simp [hy]), fun x hx ⟨y, hy, hr⟩ => b x ?_ ⟨y, by simp [hy], hr⟩⟩
        cases hq : qAt s x with
        | false => rfl
        | true =>
          rw [(h1.seen x).2 (.inl hq)] at hx
          cases hx
    · rw [if_pos hz]
      constructor
      · intro h; exact absurd h hz
      · rintro ⟨a, b⟩
        exfalso
        apply hz
        rw [hA]
        refine ⟨a e (by simp), fun x hx => ?_⟩
        obtain ⟨b1, b2, b3⟩ := (h1.mem x).1 hx
        exact b x.toNat b2 ⟨e, by simp, b3⟩
theorem addE_mem (k : Nat) : ∀ (ys : List Int) (U : List (List Int)), Stn U.length ys → ∀ i z, z ∈ uA (addE k ys U) i ↔ z ∈ uA U i ∨ (z = (k : Int) ∧ (i : Int) ∈ ys)
  | [], U, _, i, z => by simp [addE]
  | y :: ys, U, h, i, z => by
    have hy := h y (by simp)
    rw [addE, addE_mem k ys _ (by rw [List.length_set]; exact fun x hx => h x (by simp [hx])), uA_set U y.toNat _ (by omega)]
    by_cases e : i = y.toNat
    · rw [if_pos e]
      subst e
      rw [show ((y.toNat : Nat) : Int) = y by omega]
      constructor
      · rintro (a | ⟨a, -⟩)
        · rcases List.mem_append.1 a with a | a
          · exact .inl a
          · exact .inr ⟨List.mem_singleton.1 a, by simp⟩
        · exact .inr ⟨a, by simp⟩
      · rintro (a | ⟨a, -⟩)
        · exact .inl (List.mem_append.2 (.inl a))
        · exact .inl (List.mem_append.2 (.inr (List.mem_singleton.2 a)))
    · rw [if_neg e]
      have : ¬ (i : Int) = y := fun h => e (by omega)
      simp [this]
theorem revF_mem {ed : Nat → List Int} {S : List St} {n : Nat} (he : ∀ k, k < n → cameP S k = true → Stn n (ed k)) : ∀ (f j : Nat) (U : List (List Int)), j + f = n → U.length = n → (∀ i z, z ∈ uA U i ↔ ∃ q : Nat, z = (q : Int) ∧ q < j ∧ cameP S q = true ∧ (i : Int) ∈ ed q) →
    ∀ i z, z ∈ uA (revF ed S f j U) i ↔ ∃ q : Nat, z = (q : Int) ∧ q < n ∧ cameP S q = true ∧ (i : Int) ∈ ed q
  | 0, j, U, hj, hl, h, i, z => by
    have : j = n := by omega
    subst this
    exact h i z
  | f + 1, j, U, hj, hl, h, i, z => by
    rw [revF]
    by_cases hc : cameP S j = true
    · rw [if_pos hc]
      have hs := he j (by omega) hc
      refine revF_mem he f (j + 1) _ (by omega) (by rw [addE_len]; exact hl) (fun i z => ?_) i z
      rw [addE_mem j _ _ (by rw [hl]; exact hs), h]
      constructor
      · rintro (⟨q, a, b, c⟩ | ⟨a, b⟩)
        · exact ⟨q, a, by omega, c⟩
        · exact ⟨j, a, by omega, hc, b⟩
      · rintro ⟨q, a, b, c, d⟩
        by_cases e : q = j
        · subst e; exact .inr ⟨a, d⟩
        · exact .inl ⟨q, a, by omega, c, d⟩
    · rw [if_neg hc]
      refine revF_mem he f (j + 1) _ (by omega) hl (fun i z => ?_) i z
      rw [h]
      constructor
      · rintro ⟨q, a, b, c⟩; exact ⟨q, a, by omega, c⟩
      · rintro ⟨q, a, b, c, d⟩
        by_cases e : q = j
        · subst e; exact absurd c hc
        · exact ⟨q, a, by omega, c, d⟩
theorem uA_new (n i : Nat) : uA (List.replicate n []) i = [] := by
  unfold uA
  by_cases hk : i < n <;> simp [List.getD, hk]
theorem rev_mem {ed : Nat → List Int} {S : List St} {n : Nat} (he : ∀ k, k < n → cameP S k = true → Stn n (ed k)) (i : Nat) (z : Int) : z ∈ uA (revF ed S n 0 (List.replicate n [])) i ↔ ∃ q : Nat, z = (q : Int) ∧ q < n ∧ cameP S q = true ∧ (i : Int) ∈ ed q :=
  revF_mem he n 0 _ (by omega) (by simp) (fun i z => by
    rw [uA_new]
    constructor
    · intro h; cases h
    · rintro ⟨q, -, h, -⟩; omega) i z
def bareI (C : List In) (b : Bool) (k : Nat) : List Int :=
  if (inA C k).op = 1 ∨ (inA C k).op = 2 ∨ (inA C k).op = 3 ∨ (inA C k).op = 4 ∨ (inA C k).op = 7 ∨ (inA C k).op = 8 ∨ (inA C k).op = 10 then [] else
  if (33 ≤ (inA C k).op ∧ (inA C k).op ≤ 41) ∨ (44 ≤ (inA C k).op ∧ (inA C k).op ≤ 46) then [] else
  if (inA C k).op = 11 then [(inA C k).b] else
  if (inA C k).op = 17 ∧ (inA C k).a = -1 then [] else
  if (inA C k).op = 16 ∧ b = false then [] else waysP C k
theorem bareP_eq (C : List In) (E : List Int) (S : List St) (Q : List Bool) (k : Nat) : bareP C E S Q k = bareI C (idleP C E S Q k) k := rfl
theorem bareI_not {C : List In} {k : Nat} (b : Bool) (h : (inA C k).op ≠ 16) : bareI C b k = bareI C false k := by
  unfold bareI
  simp only [h, false_and, if_false]
theorem bareI_call {C : List In} {k : Nat} (h : (inA C k).op = 16) : bareI C false k = [] ∧ bareI C true k = waysP C k := by
  unfold bareI
  simp [h]
def beX (C : List In) (E : List Int) (X : Nat → Prop) (k : Nat) (y : Int) : Prop := y ∈ bareI C false k ∨ ((inA C k).op = 16 ∧ X (enA E (inA C k).c).toNat ∧ y ∈ waysP C k)
def qtStep (C : List In) (E : List Int) (X : Nat → Prop) (k : Nat) : Prop := (inA C k).op = 20 ∨ ∃ y, (((inA C k).op = 17 ∧ y ∈ waysP C k) ∨ ((inA C k).op ≠ 17 ∧ beX C E X k y)) ∧ X y.toNat
def Qt (C : List In) (E : List Int) (M : Nat → Prop) (k : Nat) : Prop := ∀ X : Nat → Prop, (∀ j, M j → qtStep C E X j → X j) → X k
theorem beX.mono {C : List In} {E : List Int} {X Y : Nat → Prop} (h : ∀ k, X k → Y k) {k : Nat} {y : Int} (hb : beX C E X k y) : beX C E Y k y := by
  rcases hb with h1 | ⟨h1, h2, h3⟩
  · exact .inl h1
  · exact .inr ⟨h1, h _ h2, h3⟩
theorem qtStep.mono {C : List In} {E : List Int} {X Y : Nat → Prop} (h : ∀ k, X k → Y k) {k : Nat} (hb : qtStep C E X k) : qtStep C E Y k := by
  rcases hb with h1 | ⟨y, h1, h2⟩
  · exact .inl h1
  · refine .inr ⟨y, ?_, h _ h2⟩
    rcases h1 with h1 | ⟨h1, h3⟩
    · exact .inl h1
    · exact .inr ⟨h1, h3.mono h⟩
theorem Qt.intro {C : List In} {E : List Int} {M : Nat → Prop} {k : Nat} (hm : M k) (h : qtStep C E (Qt C E M) k) : Qt C E M k := fun X hX => hX k hm (h.mono fun j hj => hj X hX)
theorem Qt.open {C : List In} {E : List Int} {M : Nat → Prop} {k : Nat} (h : Qt C E M k) : M k ∧ qtStep C E (Qt C E M) k :=
  h (fun k => M k ∧ qtStep C E (Qt C E M) k) (fun j hm hj => ⟨hm, hj.mono fun i hi => Qt.intro hi.1 hi.2⟩)
def beR (C : List In) (E : List Int) (M : Nat → Prop) (a b : Nat) : Prop := M a ∧ beX C E (Qt C E M) a (b : Int)
def idR (C : List In) (E : List Int) (M : Nat → Prop) (k : Nat) : Prop := (inA C k).op = 16 ∧ M k ∧ Qt C E M (enA E (inA C k).c).toNat
structure SlH (C : List In) (E : List Int) (S : List St) : Prop where
  n9 : C.length ≤ 1048576
  sl : S.length = C.length
  in_ : ∀ k, k < C.length → cameP S k = true → Stn C.length (waysP C k) ∧ ∀ y ∈ waysP C k, cameP S y.toNat = true
  cal : ∀ k, k < C.length → cameP S k = true → (inA C k).op = 16 → 0 ≤ enA E (inA C k).c ∧ enA E (inA C k).c < (C.length : Int)
  ent : ∀ e ∈ E, 0 ≤ e ∧ e < (C.length : Int) ∧ cameP S e.toNat = true
  src : ∀ k, cameP S k = true → ∃ e ∈ E, Wy (eR (edW C S)) e.toNat k
def cmP (S : List St) (k : Nat) : Prop := cameP S k = true
theorem came_ltS {C : List In} {E : List Int} {S : List St} (h : SlH C E S) {k : Nat} (hk : cameP S k = true) : k < C.length := by
  unfold cameP stA at hk
  by_cases hl : k < S.length
  · rw [h.sl] at hl; exact hl
  · simp [List.getD, List.getElem?_eq_none (by omega : S.length ≤ k), st0] at hk
theorem bareI_sub {C : List In} {b : Bool} {k : Nat} {y : Int} (hy : y ∈ bareI C b k) : y ∈ waysP C k := by
  unfold bareI at hy
  split at hy
  · cases hy
  split at hy
  · cases hy
  split at hy
  · rename_i h
    rw [List.mem_singleton] at hy
    unfold waysP
    simp [h, hy]
  split at hy
  · cases hy
  split at hy
  · cases hy
  · exact hy
theorem beX_way {C : List In} {E : List Int} {X : Nat → Prop} {k : Nat} {y : Int} (h : beX C E X k y) : y ∈ waysP C k := by
  rcases h with h | ⟨-, -, h⟩
  · exact bareI_sub h
  · exact h
theorem bareP_mem {C : List In} {E : List Int} {S : List St} {Q : List Bool} {k : Nat} (hc : cameP S k = true) (y : Int) : y ∈ bareP C E S Q k ↔ beX C E (fun j => qAt Q j = true) k y := by
  rw [bareP_eq]
  by_cases h16 : (inA C k).op = 16
  · obtain ⟨b1, b2⟩ := bareI_call h16
    unfold beX
    rw [b1]
    have hi : idleP C E S Q k = qAt Q (enA E (inA C k).c).toNat := by
      unfold idleP
      rw [hc, h16]
      rfl
    rw [hi]
    cases hq : qAt Q (enA E (inA C k).c).toNat with
    | true =>
      rw [b2]
      constructor
      · intro hy; exact .inr ⟨h16, hq, hy⟩
      · rintro (hy | ⟨-, -, hy⟩)
        · cases hy
        · exact hy
    | false =>
      rw [b1]
      constructor
      · intro hy; cases hy
      · rintro (hy | ⟨-, hy, -⟩)
        · cases hy
        · have hy : qAt Q (enA E (inA C k).c).toNat = true := hy
          rw [hq] at hy; cases hy
  · unfold beX
    rw [bareI_not _ h16]
    simp [h16]
theorem isqP_iff {C : List In} {E : List Int} {S : List St} {Q : List Bool} {k : Nat} (hc : cameP S k = true) : isqP C E S Q k = true ↔ qtStep C E (fun j => qAt Q j = true) k := by
  unfold isqP qtStep
  simp only [Bool.or_eq_true, beq_iff_eq, List.any_eq_true]
  by_cases h17 : (inA C k).op = 17
  · rw [if_pos h17]
    constructor
    · rintro (h | ⟨y, h1, h2⟩)
      · exact .inl h
      · exact .inr ⟨y, .inl ⟨h17, h1⟩, h2⟩
    · rintro (h | ⟨y, (⟨-, h1⟩ | ⟨h1, -⟩), h2⟩)
      · exact .inl h
      · exact .inr ⟨y, h1, h2⟩
      · exact absurd h17 h1
  · rw [if_neg h17]
    constructor
    · rintro (h | ⟨y, h1, h2⟩)
      · exact .inl h
      · exact .inr ⟨y, .inr ⟨h17, (bareP_mem hc y).1 h1⟩, h2⟩
    · rintro (h | ⟨y, (⟨h1, -⟩ | ⟨-, h1⟩), h2⟩)
      · exact .inl h
      · exact absurd h1 h17
      · exact .inr ⟨y, (bareP_mem hc y).2 h1, h2⟩
theorem retF_mem (C : List In) (S : List St) : ∀ (f j : Nat) (W : List Int) (z : Int), z ∈ retF C S f j W ↔ z ∈ W ∨ ∃ q : Nat, z = (q : Int) ∧ j ≤ q ∧ q < j + f ∧ (inA C q).op = 20 ∧ cameP S q = true
  | 0, j, W, z => by
    rw [retF]
    constructor
    · exact .inl
    · rintro (h | ⟨q, -, h1, h2, -⟩)
      · exact h
      · omega
  | f + 1, j, W, z => by
    rw [retF, retF_mem C S f (j + 1)]
    by_cases hc : (inA C j).op = 20 ∧ cameP S j = true
    · rw [if_pos hc]
      simp only [List.mem_append, List.mem_singleton]
      constructor
      · rintro ((h | h) | ⟨q, a, b, c, d⟩)
        · exact .inl h
        · exact .inr ⟨j, h, by omega, by omega, hc⟩
        · exact .inr ⟨q, a, by omega, by omega, d⟩
      · rintro (h | ⟨q, a, b, c, d⟩)
        · exact .inl (.inl h)
        · by_cases e : q = j
          · subst e; exact .inl (.inr a)
          · exact .inr ⟨q, a, by omega, by omega, d⟩
    · rw [if_neg hc]
      constructor
      · rintro (h | ⟨q, a, b, c, d⟩)
        · exact .inl h
        · exact .inr ⟨q, a, by omega, by omega, d⟩
      · rintro (h | ⟨q, a, b, c, d⟩)
        · exact .inl h
        · by_cases e : q = j
          · subst e; exact absurd d hc
          · exact .inr ⟨q, a, by omega, by omega, d⟩
theorem fq_sem {C : List In} {E : List Int} {S : List St} (h : SlH C E S) {us : Nat → List Int} (hus : ∀ k, k < C.length → Stn C.length (us k)) (husm : ∀ k (z : Int), z ∈ us k ↔ ∃ q : Nat, z = (q : Int) ∧ q < C.length ∧ cameP S q = true ∧ (k : Int) ∈ qbyP C E q) :
    ∀ (f : Nat) {wk : List Int} {Q : List Bool}, (∀ y ∈ wk, 0 ≤ y ∧ y < (C.length : Int) ∧ cameP S y.toNat = true) → Q.length = C.length → wk.length + tot us Q C.length < f → (∀ k, qAt Q k = true → Qt C E (cmP S) k) →
    (∀ k, cameP S k = true → qtStep C E (fun j => qAt Q j = true) k → qAt Q k = true ∨ (k : Int) ∈ wk) →
    ∀ k, qAt (fqF C E S us f wk Q) k = true ↔ Qt C E (cmP S) k
  | 0, wk, Q, _, _, h1, _, _ => by omega
  | f + 1, wk, Q, hw, hQl, hf, hs, hcp => by
    have husc : ∀ k, ∀ y ∈ us k, 0 ≤ y ∧ y < (C.length : Int) ∧ cameP S y.toNat = true := fun k y hy => by
      obtain ⟨q, a, b, c, d⟩ := (husm k y).1 hy
      subst a
      exact ⟨by omega, by omega, by simpa using c⟩
    rw [fqF]
    by_cases h0 : wk = []
    · rw [if_pos h0]
      subst h0
      intro k
      refine ⟨hs k, fun hq => ?_⟩
      refine hq (fun j => qAt Q j = true) (fun j hm hj => ?_)
      rcases hcp j hm hj with h1 | h1
      · exact h1
      · cases h1
    · rw [if_neg h0]
      have hl : 0 < wk.length := List.length_pos_iff.2 h0
      have hT := take_lastS h0
      obtain ⟨y, hy⟩ : ∃ y, hAt wk (wk.length - 1) = y := ⟨_, rfl⟩
      rw [hy] at hT ⊢
      have hyw : y ∈ wk := by rw [← hT]; simp
      obtain ⟨y1, y2, y3⟩ := hw y hyw
      have ht : (wk.take (wk.length - 1)).length = wk.length - 1 := by simp
      have hwt : ∀ z ∈ wk.take (wk.length - 1), 0 ≤ z ∧ z < (C.length : Int) ∧ cameP S z.toNat = true := fun z hz => hw z (List.mem_of_mem_take hz)
      have hmem : ∀ z ∈ wk, z ∈ wk.take (wk.length - 1) ∨ z = y := fun z hz => by
        rw [← hT] at hz
        rcases List.mem_append.1 hz with h | h
        · exact .inl h
        · exact .inr (List.mem_singleton.1 h)
      have hyn : y.toNat < C.length := by omega
      by_cases hq : (!qAt Q y.toNat && isqP C E S Q y.toNat) = true
      · rw [if_pos hq]
        rw [Bool.and_eq_true] at hq
        have hq1 : qAt Q y.toNat = false := by simpa using hq.1
        have hq2 := (isqP_iff y3).1 hq.2
        have h3 := tot_set us Q y.toNat (by omega) hq1 C.length hyn
        have hset : ∀ j, qAt (Q.set y.toNat true) j = if j = y.toNat then true else qAt Q j := qAt_set Q y.toNat (by omega)
        refine fq_sem h hus husm f (fun z hz => ?_) (by simp [hQl]) (by rw [List.length_append]; omega) (fun k hk => ?_) (fun k hc hk => ?_)
        · rcases List.mem_append.1 hz with h1 | h1
          · exact hwt z h1
          · exact husc _ z h1
        · rw [hset] at hk
          by_cases e : k = y.toNat
          · subst e
            exact Qt.intro y3 (hq2.mono hs)
          · rw [if_neg e] at hk
            exact hs k hk
        · by_cases hold : qtStep C E (fun j => qAt Q j = true) k
          · rcases hcp k hc hold with h1 | h1
            · left; rw [hset]; split
              · rfl
              · exact h1
            · rcases hmem _ h1 with h2 | h2
              · exact .inr (List.mem_append.2 (.inl h2))
              · left; rw [hset, if_pos (by omega)]
          · right
            refine List.mem_append.2 (.inr ((husm _ _).2 ⟨k, rfl, came_ltS h hc, hc, ?_⟩))
            have hnew : ∀ j, qAt (Q.set y.toNat true) j = true → qAt Q j = true ∨ j = y.toNat := fun j hj => by
              rw [hset] at hj
              by_cases e : j = y.toNat
              · exact .inr e
              · rw [if_neg e] at hj; exact .inl hj
            have hin := (h.in_ k (came_ltS h hc) hc).1
            have hye : ((y.toNat : Nat) : Int) = y := by omega
            rw [hye]
            have hway : ∀ z, z ∈ waysP C k → z.toNat = y.toNat → y ∈ qbyP C E k := fun z hz e => by
              have := hin z hz
              have e2 : z = y := by omega
              rw [← e2]
              unfold qbyP
              split
              · exact List.mem_append.2 (.inl hz)
              · exact hz
            rcases hk with h5 | ⟨z, h5, h6⟩
            · exact absurd (.inl h5) hold
            · rcases hnew _ h6 with h7 | h7
              · rcases h5 with h5 | ⟨h5, h8⟩
                · exact absurd (.inr ⟨z, .inl h5, h7⟩) hold
                · rcases h8 with h8 | ⟨h8, h9, h10⟩
                  · exact absurd (.inr ⟨z, .inr ⟨h5, .inl h8⟩, h7⟩) hold
                  · rcases hnew _ h9 with h11 | h11
                    · exact absurd (.inr ⟨z, .inr ⟨h5, .inr ⟨h8, h11, h10⟩⟩, h7⟩) hold
                    · have := h.cal k (came_ltS h hc) hc h8
                      have e2 : enA E (inA C k).c = y := by omega
                      unfold qbyP
                      rw [if_pos h8, e2]
                      simp
              · rcases h5 with ⟨-, h5⟩ | ⟨-, h8⟩
                · exact hway z h5 h7
                · exact hway z (beX_way h8) h7
      · rw [if_neg hq]
        refine fq_sem h hus husm f hwt hQl (by omega) hs (fun k hc hk => ?_)
        rcases hcp k hc hk with h1 | h1
        · exact .inl h1
        · rcases hmem _ h1 with h2 | h2
          · exact .inr h2
          · left
            have e : y.toNat = k := by omega
            rw [e] at hq
            have := (isqP_iff (Q := Q) (E := E) hc).2 hk
            rw [this, Bool.and_true] at hq
            simpa using hq
theorem retF_len (C : List In) (S : List St) : ∀ (f j : Nat) (W : List Int), (retF C S f j W).length ≤ W.length + f
  | 0, j, W => by simp [retF]
  | f + 1, j, W => by
    rw [retF]
    have := retF_len C S f (j + 1) (if (inA C j).op = 20 ∧ cameP S j = true then W ++ [(j : Int)] else W)
    have h2 : (if (inA C j).op = 20 ∧ cameP S j = true then W ++ [(j : Int)] else W).length ≤ W.length + 1 := by split <;> simp
    omega
theorem qu_sem {C : List In} {E : List Int} {S : List St} (h : SlH C E S) (k : Nat) : qAt (quP C E S) k = true ↔ Qt C E (cmP S) k := by
  have hqb : ∀ k, k < C.length → cameP S k = true → Stn C.length (qbyP C E k) := fun k hk hc y hy => by
    unfold qbyP at hy
    split at hy
    · rename_i h16
      rcases List.mem_append.1 hy with h1 | h1
      · exact (h.in_ k hk hc).1 y h1
      · rw [List.mem_singleton] at h1
        rw [h1]
        exact h.cal k hk hc h16
    · exact (h.in_ k hk hc).1 y hy
  have hm : ∀ k (z : Int), z ∈ usP C E S C.length k ↔ ∃ q : Nat, z = (q : Int) ∧ q < C.length ∧ cameP S q = true ∧ (k : Int) ∈ qbyP C E q := fun k z => rev_mem hqb k z
  have hr : ∀ z, z ∈ retF C S C.length 0 [] ↔ ∃ q : Nat, z = (q : Int) ∧ q < C.length ∧ (inA C q).op = 20 ∧ cameP S q = true := fun z => by
    rw [retF_mem]
    constructor
    · rintro (a | ⟨q, a, b, c, d⟩)
      · cases a
      · exact ⟨q, a, by omega, d⟩
    · rintro ⟨q, a, b, c⟩
      exact .inr ⟨q, a, by omega, by omega, c⟩
  unfold quP quietP
  have hrl : (retF C S C.length 0 []).length ≤ C.length := by
    have := retF_len C S C.length 0 []
    simpa using this
  refine fq_sem h (fun k hk y hy => ?_) hm _ (fun y hy => ?_) (by simp) (by omega) (fun k hk => by rw [qAt_rep] at hk; cases hk) (fun k hc hk => .inr ?_) k
  · obtain ⟨q, a, b, -⟩ := (hm k y).1 hy
    omega
  · obtain ⟨q, a, b, c, d⟩ := (hr y).1 hy
    subst a
    exact ⟨by omega, by omega, by simpa using d⟩
  · rw [hr]
    refine ⟨k, rfl, came_ltS h hc, ?_, hc⟩
    rcases hk with h1 | ⟨y, -, h1⟩
    · exact h1
    · have h1 : qAt (List.replicate C.length false) y.toNat = true := h1
      rw [qAt_rep] at h1
      cases h1
def HR (enc : Bool) (C : List In) (a b : Nat × St) : Prop := ∃ (w : Nat) (y : Int), (waysP C a.1)[w]? = some y ∧ b = (y.toNat, mHd enc a.2 (inA C a.1) (w : Int))
def Hd (enc : Bool) (C : List In) (e : Int) (k : Nat) (s : St) : Prop := Wy (HR enc C) (e.toNat, mBg enc) (k, s)
structure FsOk (enc : Bool) (C : List In) (E : List Int) : Prop where
  st : ∀ r k s, r < E.length → Hd enc C (E.getD r 0) k s → mSt enc s (inA C k) (r : Int) = true ∧ Inn C k
  sm : ∀ q r k s t, q < E.length → r < E.length → Hd enc C (E.getD q 0) k s → Hd enc C (E.getD r 0) k t → sameH enc C k s t = true
theorem Hd.step {enc : Bool} {C : List In} {e : Int} {k w : Nat} {y : Int} {s : St} (h : Hd enc C e k s) (hw : (waysP C k)[w]? = some y) : Hd enc C e y.toNat (mHd enc s (inA C k) (w : Int)) :=
  Wy.snoc h ⟨w, y, hw, rfl⟩
theorem sameH_iff {enc : Bool} {C : List In} {k : Nat} {s t : St} : sameH enc C k s t = true ↔ ∀ w, w < (waysP C k).length → mHd enc s (inA C k) (w : Int) = mHd enc t (inA C k) (w : Int) := by
  unfold sameH
  rw [List.all_eq_true]
  constructor
  · intro h w hw
    exact (stEq_iff _ _).1 (h w (List.mem_range.2 hw))
  · intro h w hw
    exact (stEq_iff _ _).2 (h w (List.mem_range.1 hw))
theorem sameH.refl (enc : Bool) (C : List In) (k : Nat) (s : St) : sameH enc C k s s = true := sameH_iff.2 fun _ _ => rfl
theorem sameH.symm {enc : Bool} {C : List In} {k : Nat} {s t : St} (h : sameH enc C k s t = true) : sameH enc C k t s = true := sameH_iff.2 fun w hw => (sameH_iff.1 h w hw).symm
theorem sameH.trans {enc : Bool} {C : List In} {k : Nat} {s t u : St} (h : sameH enc C k s t = true) (h2 : sameH enc C k t u = true) : sameH enc C k s u = true := sameH_iff.2 fun w hw => (sameH_iff.1 h w hw).trans (sameH_iff.1 h2 w hw)
theorem mSt_mono {enc : Bool} {s : St} {x : In} {r q : Int} (hr : r ≤ q) (h : mSt enc s x r = true) : mSt enc s x q = true := by
  unfold mSt at *
  cases enc
  · simp only [Bool.false_eq_true, if_false] at *
    unfold dSt at *
    repeat' split
    all_goals simp_all
    all_goals omega
  · simp only [if_true] at *
    unfold eSt at *
    repeat' split
    all_goals simp_all
    all_goals omega
structure LkI (enc : Bool) (C : List In) (E : List Int) (r : Nat) (S : List St) (P : List Int) : Prop where
  pnd : Pnd C.length S P
  own : ∀ k, (stA S k).pl ≠ 0 → ∃ q, q ≤ r ∧ Hd enc C (E.getD q 0) k (stA S k)
  pen : ∀ x ∈ P, Hd enc C (E.getD r 0) x.toNat (stA S x.toNat)
section
variable {enc : Bool} {C : List In} {E : List Int} {r : Nat}
theorem handP_lki {S : List St} {P : List Int} (h : LkI enc C E r S P) {k : Nat} (hk : k < C.length) {s : St} (hs : s.pl ≠ 0) (hh : Hd enc C (E.getD r 0) k s) :
    LkI enc C E r (handP enc C (r : Int) S P k s).2.1 (handP enc C (r : Int) S P k s).2.2 := by
  have h1 := handP_ok (enc := enc) (C := C) (r := (r : Int)) h.pnd hk hs
  refine ⟨h1.1, ?_, ?_⟩
  · unfold handP
    split
    · exact h.own
    split
    · intro j hj
      have hj : (stA (S.set k s) j).pl ≠ 0 := hj
      show ∃ q, q ≤ r ∧ Hd enc C (E.getD q 0) j (stA (S.set k s) j)
      rw [stA_set (by rw [h.pnd.len]; exact hk)] at hj ⊢
      by_cases e : j = k
      · rw [if_pos e, e]
        exact ⟨r, Nat.le_refl _, hh⟩
      · rw [if_neg e] at hj ⊢
        exact h.own j hj
    · exact h.own
  · unfold handP
    split
    · exact h.pen
    split
    · rename_i hz
      intro x hx
      have hx : x ∈ pushH P (k : Int) := hx
      show Hd enc C (E.getD r 0) x.toNat (stA (S.set k s) x.toNat)
      rw [stA_set (by rw [h.pnd.len]; exact hk)]
      rcases (push_mem h.pnd.hp _ _).1 hx with e | hx
      · rw [e, Int.toNat_natCast, if_pos rfl]
        exact hh
      · by_cases e : x.toNat = k
        · rw [if_pos e, e]
          exact hh
        · rw [if_neg e]
          exact h.pen x hx
    · exact h.pen
theorem handP_yes (hF : FsOk enc C E) (hr : r < E.length) {S : List St} {P : List Int} (h : LkI enc C E r S P) {k : Nat} {s : St} (hh : Hd enc C (E.getD r 0) k s) : (handP enc C (r : Int) S P k s).1 = true := by
  unfold handP
  split
  · rfl
  split
  · rfl
  · rename_i h1 h2
    show (mSt enc s (inA C k) (r : Int) && sameH enc C k (stA S k) s) = true
    rw [Bool.and_eq_true]
    refine ⟨(hF.st r k s hr hh).1, ?_⟩
    obtain ⟨q, hq, ho⟩ := h.own k h2
    exact hF.sm q r k _ _ (by omega) hr ho hh
theorem handsP_yes (hF : FsOk enc C E) (hr : r < E.length) {k : Nat} {s : St} (hs : s.pl ≠ 0) (hh : Hd enc C (E.getD r 0) k s) (hI : Inn C k) : ∀ (ws : List Int) (way : Nat) {S : List St} {P : List Int}, LkI enc C E r S P → (∀ i y, ws[i]? = some y → (waysP C k)[way + i]? = some y) →
    (handsP enc C (r : Int) s (inA C k) ws way S P).1 = 1048576 ∧ LkI enc C E r (handsP enc C (r : Int) s (inA C k) ws way S P).2.1 (handsP enc C (r : Int) s (inA C k) ws way S P).2.2
  | [], _, S, P, h, _ => ⟨rfl, h⟩
  | n :: ws, way, S, P, h, hw => by
    have h0 := hw 0 n rfl
    have h1 := hI n (List.mem_of_getElem? h0)
    rw [Nat.add_zero] at h0
    have hh2 := hh.step h0
    have hp := mHd_pl enc hs (inA C k) (way : Int)
    rw [handsP, if_pos (handP_yes hF hr h hh2)]
    exact handsP_yes hF hr hs hh hI ws (way + 1) (handP_lki h (by omega) hp hh2) (fun i y hy => by
      have := hw (i + 1) y (by simpa using hy)
      rw [show way + 1 + i = way + (i + 1) by omega]
      exact this)
theorem goP_yes (hW : WIn C) (hF : FsOk enc C E) (hr : r < E.length) : ∀ (f : Nat) {S : List St} {P : List Int}, LkI enc C E r S P → msr S P < f → (goP enc C (r : Int) f S P).1 = 1048576 ∧ LkI enc C E r (goP enc C (r : Int) f S P).2.1 []
  | 0, S, P, _, h => by omega
  | f + 1, S, P, h, hm => by
    by_cases h0 : P = []
    · subst h0
      rw [goP_nil]
      exact ⟨rfl, h⟩
    · rw [goP, if_neg h0]
      have hl0 : 0 < P.length := List.length_pos_iff.2 h0
      obtain ⟨q1, q2, q3, q4, q5⟩ := pop_ok h.pnd h0
      have hmm := pop_mem h.pnd.hp hl0
      have hk : (popH P).1.toNat < C.length := by omega
      have hh := h.pen _ hmm.1
      have hst := hF.st r _ _ hr hh
      have hLI : LkI enc C E r S (popH P).2 := ⟨q1, h.own, fun x hx => h.pen x (hmm.2 x hx)⟩
      have hlook : lookP enc C (r : Int) S (popH P).2 (popH P).1.toNat = handsP enc C (r : Int) (stA S (popH P).1.toNat) (inA C (popH P).1.toNat) (waysP C (popH P).1.toNat) 0 S (popH P).2 := by
        unfold lookP
        rw [if_neg]
        rintro (e | e)
        · rw [hst.1] at e; cases e
        · have := hst.2 _ e; omega
      have hh2 := handsP_yes hF hr q5 hh hst.2 (waysP C (popH P).1.toNat) 0 hLI (fun i y hy => by rw [Nat.zero_add]; exact hy)
      have l1 := lookP_ok (enc := enc) (r := (r : Int)) hW q1 hk q5
      rw [hlook] at l1 ⊢
      rw [if_pos hh2.1]
      exact goP_yes hW hF hr f hh2.2 (by omega)
theorem thruP_yes (hW : WIn C) (hn : C.length ≤ 1048576) (hF : FsOk enc C E) (hr : r < E.length) {S : List St} (h : LkI enc C E r S []) (he : 0 ≤ E.getD r 0 ∧ E.getD r 0 < (C.length : Int)) : (thruP enc C (r : Int) S [] (E.getD r 0).toNat).1 = 1048576 ∧ LkI enc C E r (thruP enc C (r : Int) S [] (E.getD r 0).toNat).2.1 [] := by
  have hh : Hd enc C (E.getD r 0) (E.getD r 0).toNat (mBg enc) := Wy.refl _ _
  unfold thruP
  rw [if_pos (handP_yes hF hr h hh)]
  have h1 := handP_ok (enc := enc) (C := C) (r := (r : Int)) h.pnd (k := (E.getD r 0).toNat) (by omega) (mBg_pl enc)
  refine goP_yes hW hF hr _ (handP_lki h (by omega) (mBg_pl enc) hh) ?_
  have h2 : msr S [] ≤ 2 * C.length := by have := bare_le S; have := h.pnd.len; unfold msr; simp; omega
  have h3 := h1.2.1
  omega
theorem firstP_yes (hW : WIn C) (hn : C.length ≤ 1048576) (hF : FsOk enc C E) (hE : ∀ i, i < E.length → 0 ≤ E.getD i 0 ∧ E.getD i 0 < (C.length : Int)) : ∀ (es : List Int) (r : Nat) {S : List St}, r + es.length = E.length → (∀ i, i < es.length → es.getD i 0 = E.getD (r + i) 0) → Pnd C.length S [] → (∀ k, (stA S k).pl ≠ 0 → ∃ q, q < r ∧ Hd enc C (E.getD q 0) k (stA S k)) → (firstP enc C es r S).1 = 1048576
  | [], r, S, _, _, _, _ => rfl
  | e :: es, r, S, hl, hg, hP, ho => by
    have hlt : r < E.length := by simp at hl; omega
    have he : e = E.getD r 0 := by have := hg 0 (by simp); simpa using this
    have hL : LkI enc C E r S [] := ⟨hP, fun k hk => by obtain ⟨q, a, b⟩ := ho k hk; exact ⟨q, by omega, b⟩, fun x hx => by cases hx⟩
    obtain ⟨t1, t2⟩ := thruP_yes hW hn hF hlt hL (hE r hlt)
    rw [firstP, he, if_pos t1]
    refine firstP_yes hW hn hF hE es (r + 1) (by simp at hl; omega) (fun i hi => ?_) t2.pnd (fun k hk => ?_)
    · have := hg (i + 1) (by simp; omega)
      rw [show r + 1 + i = r + (i + 1) by omega, ← this]
      simp
    · obtain ⟨q, a, b⟩ := t2.own k hk
      exact ⟨q, by omega, b⟩
def Acc (enc : Bool) (C : List In) (S : List St) (r : Nat) (y : Nat) (s : St) : Prop := (stA S y).pl ≠ 0 ∧ (stA S y = s ∨ (mSt enc s (inA C y) (r : Int) = true ∧ sameH enc C y (stA S y) s = true))
def Lked (enc : Bool) (C : List In) (S : List St) (r : Nat) (k : Nat) : Prop := mSt enc (stA S k) (inA C k) (r : Int) = true ∧ Inn C k ∧ ∀ (w : Nat) (y : Int), (waysP C k)[w]? = some y → Acc enc C S r y.toNat (mHd enc (stA S k) (inA C k) (w : Int))
def Kp2 (S S' : List St) : Prop := ∀ j, (stA S j).pl ≠ 0 → stA S' j = stA S j
theorem Acc.kp {S S' : List St} {y : Nat} {s : St} (h : Acc enc C S r y s) (k : Kp2 S S') : Acc enc C S' r y s := by
  unfold Acc at *
  rw [k y h.1]
  exact h
theorem Lked.kp {S S' : List St} {y : Nat} (h : Lked enc C S r y) (k : Kp2 S S') (hy : (stA S y).pl ≠ 0) : Lked enc C S' r y := by
  refine ⟨by rw [k y hy]; exact h.1, h.2.1, fun w z hz => ?_⟩
  rw [k y hy]
  exact (h.2.2 w z hz).kp k
theorem Acc.up {S : List St} {y q : Nat} {s : St} (hq : r ≤ q) (h : Acc enc C S r y s) : Acc enc C S q y s := by
  refine ⟨h.1, ?_⟩
  rcases h.2 with h | ⟨h, h2⟩
  · exact .inl h
  · exact .inr ⟨mSt_mono (by omega) h, h2⟩
theorem Lked.up {S : List St} {y q : Nat} (hq : r ≤ q) (h : Lked enc C S r y) : Lked enc C S q y :=
  ⟨mSt_mono (by omega) h.1, h.2.1, fun w z hz => (h.2.2 w z hz).up hq⟩
theorem handP_acc {S : List St} {P : List Int} (h : Pnd C.length S P) {k : Nat} (hk : k < C.length) {s : St} (hs : s.pl ≠ 0) (ht : (handP enc C (r : Int) S P k s).1 = true) :
    Kp2 S (handP enc C (r : Int) S P k s).2.1 ∧ Acc enc C (handP enc C (r : Int) S P k s).2.1 r k s ∧ (∀ x ∈ P, x ∈ (handP enc C (r : Int) S P k s).2.2) ∧ ∀ j, (stA (handP enc C (r : Int) S P k s).2.1 j).pl ≠ 0 → (stA S j).pl ≠ 0 ∨ (j : Int) ∈ (handP enc C (r : Int) S P k s).2.2 := by
  have h4 := (handP_ok (enc := enc) (C := C) (r := (r : Int)) h hk hs).2.2.2
  refine ⟨h4, ?_⟩
  clear h4
  revert ht
  unfold handP
  split
  · rename_i he
    intro _
    have he := (stEq_iff _ _).1 he
    exact ⟨⟨by rw [he]; exact hs, .inl he⟩, fun x hx => hx, fun j hj => .inl hj⟩
  split
  · intro _
    refine ⟨?_, fun x hx => (push_mem h.hp _ _).2 (.inr hx), fun j hj => ?_⟩
    · show (stA (S.set k s) k).pl ≠ 0 ∧ (stA (S.set k s) k = s ∨ _)
      rw [stA_set (by rw [h.len]; exact hk), if_pos rfl]
      exact ⟨hs, .inl rfl⟩
    · have hj : (stA (S.set k s) j).pl ≠ 0 := hj
      rw [stA_set (by rw [h.len]; exact hk)] at hj
      by_cases e : j = k
      · right
        exact (push_mem h.hp _ _).2 (.inl (by rw [e]))
      · rw [if_neg e] at hj
        exact .inl hj
  · rename_i h1 h2
    intro ht
    have ht : (mSt enc s (inA C k) (r : Int) && sameH enc C k (stA S k) s) = true := ht
    rw [Bool.and_eq_true] at ht
    exact ⟨⟨h2, .inr ht⟩, fun x hx => hx, fun j hj => .inl hj⟩
theorem handsP_acc (hn : C.length ≤ 1048576) {s : St} (hs : s.pl ≠ 0) (x : In) : ∀ (ws : List Int) (way : Nat) {S : List St} {P : List Int}, Pnd C.length S P → (∀ y ∈ ws, 0 ≤ y ∧ y < (C.length : Int)) → (handsP enc C (r : Int) s x ws way S P).1 = 1048576 →
    Kp2 S (handsP enc C (r : Int) s x ws way S P).2.1 ∧ (∀ (i : Nat) (y : Int), ws[i]? = some y → Acc enc C (handsP enc C (r : Int) s x ws way S P).2.1 r y.toNat (mHd enc s x ((way + i : Nat) : Int))) ∧ (∀ z ∈ P, z ∈ (handsP enc C (r : Int) s x ws way S P).2.2) ∧ ∀ j, (stA (handsP enc C (r : Int) s x ws way S P).2.1 j).pl ≠ 0 → (stA S j).pl ≠ 0 ∨ (j : Int) ∈ (handsP enc C (r : Int) s x ws way S P).2.2
  | [], _, S, P, _, _, _ => ⟨fun _ _ => rfl, fun i y h => by simp at h, fun z hz => hz, fun j hj => .inl hj⟩
  | n :: ws, way, S, P, hP, hw, hz => by
    have h1 := hw n (by simp)
    have hk : n.toNat < C.length := by omega
    have hp := mHd_pl enc hs x (way : Int)
    rw [handsP] at hz ⊢
    by_cases ht : (handP enc C (r : Int) S P n.toNat (mHd enc s x (way : Int))).1 = true
    · rw [if_pos ht] at hz ⊢
      obtain ⟨a1, a2, a3, a4⟩ := handP_acc hP hk hp ht
      obtain ⟨b1, b2, b3, b4⟩ := handsP_acc hn hs x ws (way + 1) (handP_ok (enc := enc) (C := C) (r := (r : Int)) hP hk hp).1 (fun y hy => hw y (by simp [hy])) hz
      refine ⟨fun j hj => ?_, fun i y hy => ?_, fun z hz => b3 z (a3 z hz), fun j hj => ?_⟩
      · rw [b1 j (by rw [a1 j hj]; exact hj), a1 j hj]
      · cases i with
        | zero =>
          have : n = y := by simpa using hy
          subst this
          exact a2.kp b1
        | succ i =>
          have := b2 i y (by simpa using hy)
          rw [show way + (i + 1) = way + 1 + i by omega]
          exact this
      · rcases b4 j hj with h | h
        · rcases a4 j h with h | h
          · exact .inl h
          · exact .inr (b3 _ h)
        · exact .inr h
    · rw [if_neg ht] at hz
      have hz : n = 1048576 := hz
      omega
def Dne (enc : Bool) (C : List In) (r : Nat) (S : List St) (P : List Int) : Prop := ∀ k, (stA S k).pl ≠ 0 → (k : Int) ∈ P ∨ Lked enc C S r k
theorem handsP_lki {k : Nat} {s : St} (hs : s.pl ≠ 0) (hh : Hd enc C (E.getD r 0) k s) (hI : Inn C k) : ∀ (ws : List Int) (way : Nat) {S : List St} {P : List Int}, LkI enc C E r S P → (∀ i y, ws[i]? = some y → (waysP C k)[way + i]? = some y) → LkI enc C E r (handsP enc C (r : Int) s (inA C k) ws way S P).2.1 (handsP enc C (r : Int) s (inA C k) ws way S P).2.2
  | [], _, S, P, h, _ => h
  | n :: ws, way, S, P, h, hw => by
    have h0 := hw 0 n rfl
    have h1 := hI n (List.mem_of_getElem? h0)
    rw [Nat.add_zero] at h0
    rw [handsP]
    split
    · exact handsP_lki hs hh hI ws (way + 1) (handP_lki h (by omega) (mHd_pl enc hs (inA C k) (way : Int)) (hh.step h0)) (fun i y hy => by
        have := hw (i + 1) y (by simpa using hy)
        rw [show way + 1 + i = way + (i + 1) by omega]
        exact this)
    · exact h
theorem goP_acc (hW : WIn C) (hn : C.length ≤ 1048576) : ∀ (f : Nat) {S : List St} {P : List Int}, Pnd C.length S P → msr S P < f → Dne enc C r S P → LkI enc C E r S P → (goP enc C (r : Int) f S P).1 = 1048576 →
    Kp2 S (goP enc C (r : Int) f S P).2.1 ∧ Pnd C.length (goP enc C (r : Int) f S P).2.1 [] ∧ Dne enc C r (goP enc C (r : Int) f S P).2.1 [] ∧ LkI enc C E r (goP enc C (r : Int) f S P).2.1 []
  | 0, S, P, _, h, _, _, _ => by omega
  | f + 1, S, P, hN, hm, hD, hL, hz => by
    by_cases h0 : P = []
    · subst h0
      rw [goP_nil]
      exact ⟨fun _ _ => rfl, hN, hD, hL⟩
    · rw [goP, if_neg h0] at hz ⊢
      have hl0 : 0 < P.length := List.length_pos_iff.2 h0
      obtain ⟨q1, q2, q3, q4, q5⟩ := pop_ok hN h0
      have hmm := pop_mem hN.hp hl0
      have hk : (popH P).1.toNat < C.length := by omega
      have l1 := lookP_ok (enc := enc) (r := (r : Int)) hW q1 hk q5
      by_cases hy : (lookP enc C (r : Int) S (popH P).2 (popH P).1.toNat).1 = 1048576
      · rw [if_pos hy] at hz ⊢
        have hlook : mSt enc (stA S (popH P).1.toNat) (inA C (popH P).1.toNat) (r : Int) = true ∧ Inn C (popH P).1.toNat ∧ lookP enc C (r : Int) S (popH P).2 (popH P).1.toNat = handsP enc C (r : Int) (stA S (popH P).1.toNat) (inA C (popH P).1.toNat) (waysP C (popH P).1.toNat) 0 S (popH P).2 := by
          unfold lookP at hy ⊢
          by_cases hq : mSt enc (stA S (popH P).1.toNat) (inA C (popH P).1.toNat) (r : Int) = false ∨ (C.length : Int) ∈ waysP C (popH P).1.toNat
          · rw [if_pos hq] at hy
            have hy : ((popH P).1.toNat : Int) = 1048576 := hy
            omega
          · rw [if_neg hq]
            refine ⟨?_, fun y hy => ?_, rfl⟩
            · cases h : mSt enc (stA S (popH P).1.toNat) (inA C (popH P).1.toNat) (r : Int) with
              | true => rfl
              | false => exact absurd (.inl h) hq
            · have h2 := hW _ hk y hy
              have h3 : y ≠ (C.length : Int) := fun e => hq (.inr (e ▸ hy))
              omega
        obtain ⟨m1, m2, m3⟩ := hlook
        rw [m3] at hy l1 hz ⊢
        obtain ⟨b1, b2, b3, b4⟩ := handsP_acc hn q5 (inA C (popH P).1.toNat) _ 0 q1 m2 hy
        have hLI : LkI enc C E r S (popH P).2 := ⟨q1, hL.own, fun x hx => hL.pen x (hmm.2 x hx)⟩
        have hLI2 : LkI enc C E r (handsP enc C (r : Int) (stA S (popH P).1.toNat) (inA C (popH P).1.toNat) (waysP C (popH P).1.toNat) 0 S (popH P).2).2.1 (handsP enc C (r : Int) (stA S (popH P).1.toNat) (inA C (popH P).1.toNat) (waysP C (popH P).1.toNat) 0 S (popH P).2).2.2 :=
          handsP_lki q5 (hL.pen _ hmm.1) m2 _ 0 hLI (fun i y hy => by rw [Nat.zero_add]; exact hy)
        have hDn : Dne enc C r (handsP enc C (r : Int) (stA S (popH P).1.toNat) (inA C (popH P).1.toNat) (waysP C (popH P).1.toNat) 0 S (popH P).2).2.1 (handsP enc C (r : Int) (stA S (popH P).1.toNat) (inA C (popH P).1.toNat) (waysP C (popH P).1.toNat) 0 S (popH P).2).2.2 := fun j hj => by
          rcases b4 j hj with h | h
          · by_cases e : j = (popH P).1.toNat
            · right
              rw [e]
              refine ⟨by rw [b1 _ q5]; exact m1, m2, fun w y hy => ?_⟩
              rw [b1 _ q5]
              have := b2 w y hy
              rw [Nat.zero_add] at this
              exact this
            · rcases hD j h with h2 | h2
              · rcases pop_rest hN.hp hl0 h2 with h3 | h3
                · omega
                · exact .inl (b3 _ h3)
              · exact .inr (h2.kp b1 h)
          · exact .inl h
        obtain ⟨g1, g2, g3, g4⟩ := goP_acc hW hn f l1.1 (by omega) hDn hLI2 hz
        refine ⟨fun j hj => ?_, g2, g3, g4⟩
        rw [g1 j (by rw [b1 j hj]; exact hj), b1 j hj]
      · rw [if_neg hy] at hz
        exact absurd hz hy
def Res (enc : Bool) (C : List In) (E : List Int) (S : List St) (q : Nat) : Prop := ∀ k s, Hd enc C (E.getD q 0) k s → mSt enc s (inA C k) (q : Int) = true ∧ Inn C k ∧ (stA S k).pl ≠ 0 ∧ sameH enc C k (stA S k) s = true
theorem Res.kp {S S' : List St} {q : Nat} (h : Res enc C E S q) (k : Kp2 S S') : Res enc C E S' q := fun j s hj => by
  obtain ⟨a, b, c, d⟩ := h j s hj
  rw [k j c]
  exact ⟨a, b, c, d⟩
theorem thruP_acc (hW : WIn C) (hn : C.length ≤ 1048576) {S : List St} (hP : Pnd C.length S []) (hD : Dne enc C r S []) (hL : LkI enc C E r S []) (he : 0 ≤ E.getD r 0 ∧ E.getD r 0 < (C.length : Int)) (hz : (thruP enc C (r : Int) S [] (E.getD r 0).toNat).1 = 1048576) :
    Kp2 S (thruP enc C (r : Int) S [] (E.getD r 0).toNat).2.1 ∧ Pnd C.length (thruP enc C (r : Int) S [] (E.getD r 0).toNat).2.1 [] ∧ Dne enc C r (thruP enc C (r : Int) S [] (E.getD r 0).toNat).2.1 [] ∧ LkI enc C E r (thruP enc C (r : Int) S [] (E.getD r 0).toNat).2.1 [] ∧ Res enc C E (thruP enc C (r : Int) S [] (E.getD r 0).toNat).2.1 r := by
  have hh : Hd enc C (E.getD r 0) (E.getD r 0).toNat (mBg enc) := Wy.refl _ _
  have hk : (E.getD r 0).toNat < C.length := by omega
  unfold thruP at hz ⊢
  by_cases ht : (handP enc C (r : Int) S [] (E.getD r 0).toNat (mBg enc)).1 = true
  · rw [if_pos ht] at hz ⊢
    obtain ⟨a1, a2, a3, a4⟩ := handP_acc hP hk (mBg_pl enc) ht
    have h1 := handP_ok (enc := enc) (C := C) (r := (r : Int)) hP hk (mBg_pl enc)
    have h2 : msr S [] ≤ 2 * C.length := by have := bare_le S; have := hP.len; unfold msr; simp; omega
    have h3 := h1.2.1
    obtain ⟨g1, g2, g3, g4⟩ := goP_acc (E := E) hW hn (2 * C.length + 2) h1.1 (by omega) (fun j hj => by
      rcases a4 j hj with h | h
      · rcases hD j h with h2 | h2
        · cases h2
        · exact .inr (h2.kp a1 h)
      · exact .inl h) (handP_lki hL hk (mBg_pl enc) hh) hz
    refine ⟨fun j hj => by rw [g1 j (by rw [a1 j hj]; exact hj), a1 j hj], g2, g3, g4, fun k s hks => ?_⟩
    generalize hSe : (goP enc C (r : Int) (2 * C.length + 2) (handP enc C (r : Int) S [] (E.getD r 0).toNat (mBg enc)).2.1 (handP enc C (r : Int) S [] (E.getD r 0).toNat (mBg enc)).2.2).2.1 = S' at g1 g2 g3 g4
    have hA : Acc enc C S' r k s := by
      refine Wy.keep (Q := fun p : Nat × St => Acc enc C S' r p.1 p.2) (fun p q hp hpq => ?_) hks (a2.kp g1)
      obtain ⟨w, y, hw, e⟩ := hpq
      rw [e]
      have hLk : Lked enc C S' r p.1 := by
        rcases g3 p.1 hp.1 with h | h
        · cases h
        · exact h
      have := hLk.2.2 w y hw
      have he : mHd enc (stA S' p.1) (inA C p.1) (w : Int) = mHd enc p.2 (inA C p.1) (w : Int) := by
        rcases hp.2 with h | ⟨-, h⟩
        · rw [h]
        · exact sameH_iff.1 h w (List.getElem?_eq_some_iff.1 hw).1
      rw [he] at this
      exact this
    have hLk : Lked enc C S' r k := by
      rcases g3 k hA.1 with h | h
      · cases h
      · exact h
    refine ⟨?_, hLk.2.1, hA.1, ?_⟩
    · rcases hA.2 with h | ⟨h, -⟩
      · rw [← h]; exact hLk.1
      · exact h
    · rcases hA.2 with h | ⟨-, h⟩
      · rw [h]; exact sameH.refl _ _ _ _
      · exact h
  · rw [if_neg ht] at hz
    have hz : (((E.getD r 0).toNat : Nat) : Int) = 1048576 := hz
    omega
theorem firstP_acc (hW : WIn C) (hn : C.length ≤ 1048576) (hE : ∀ i, i < E.length → 0 ≤ E.getD i 0 ∧ E.getD i 0 < (C.length : Int)) : ∀ (es : List Int) (r : Nat) {S : List St}, r + es.length = E.length → (∀ i, i < es.length → es.getD i 0 = E.getD (r + i) 0) → Pnd C.length S [] → Dne enc C r S [] → (∀ k, (stA S k).pl ≠ 0 → ∃ q, q < r ∧ Hd enc C (E.getD q 0) k (stA S k)) → (∀ q, q < r → Res enc C E S q) → (firstP enc C es r S).1 = 1048576 →
    (∀ q, q < E.length → Res enc C E (firstP enc C es r S).2 q) ∧ (∀ k, (stA (firstP enc C es r S).2 k).pl ≠ 0 → ∃ q, q < E.length ∧ Hd enc C (E.getD q 0) k (stA (firstP enc C es r S).2 k)) ∧ (firstP enc C es r S).2.length = C.length ∧ Kp2 S (firstP enc C es r S).2
  | [], r, S, hl, _, hP, _, ho, hR, _ => by
    have : r = E.length := by simpa using hl
    subst this
    exact ⟨hR, ho, hP.len, fun _ _ => rfl⟩
  | e :: es, r, S, hl, hg, hP, hD, ho, hR, hz => by
    have hlt : r < E.length := by simp at hl; omega
    have he : e = E.getD r 0 := by have := hg 0 (by simp); simpa using this
    have hL : LkI enc C E r S [] := ⟨hP, fun k hk => by obtain ⟨q, a, b⟩ := ho k hk; exact ⟨q, by omega, b⟩, fun x hx => by cases hx⟩
    rw [firstP, he] at hz ⊢
    by_cases ht : (thruP enc C (r : Int) S [] (E.getD r 0).toNat).1 = 1048576
    · rw [if_pos ht] at hz ⊢
      obtain ⟨a1, a2, a3, a4, a5⟩ := thruP_acc hW hn hP hD hL (hE r hlt) ht
      obtain ⟨b1, b2, b3, b4⟩ := firstP_acc hW hn hE es (r + 1) (by simp at hl; omega) (fun i hi => by
        have := hg (i + 1) (by simp; omega)
        rw [show r + 1 + i = r + (i + 1) by omega, ← this]
        simp) a2 (fun j hj => by
          rcases a3 j hj with h | h
          · cases h
          · exact .inr (h.up (by omega))) (fun k hk => by
            obtain ⟨q, a, b⟩ := a4.own k hk
            exact ⟨q, by omega, b⟩) (fun q hq => by
              by_cases e : q = r
              · subst e; exact a5
              · exact (hR q (by omega)).kp a1) hz
      refine ⟨b1, b2, b3, fun j hj => ?_⟩
      rw [b4 j (by rw [a1 j hj]; exact hj), a1 j hj]
    · rw [if_neg ht] at hz
      exact absurd hz ht
theorem stA_rep (n k : Nat) : (stA (List.replicate n st0) k).pl = 0 := by
  unfold stA
  by_cases hk : k < n <;> simp [List.getD, hk, st0]
theorem first_sem (hW : WIn C) (hn : C.length ≤ 1048576) (hE : ∀ i, i < E.length → 0 ≤ E.getD i 0 ∧ E.getD i 0 < (C.length : Int)) :
    ((firstP enc C E 0 (List.replicate C.length st0)).1 = 1048576 ↔ FsOk enc C E) ∧ ((firstP enc C E 0 (List.replicate C.length st0)).1 = 1048576 →
      (firstP enc C E 0 (List.replicate C.length st0)).2.length = C.length ∧ (∀ k, (stA (firstP enc C E 0 (List.replicate C.length st0)).2 k).pl ≠ 0 → ∃ q, q < E.length ∧ Hd enc C (E.getD q 0) k (stA (firstP enc C E 0 (List.replicate C.length st0)).2 k)) ∧
      ∀ q k s, q < E.length → Hd enc C (E.getD q 0) k s → (stA (firstP enc C E 0 (List.replicate C.length st0)).2 k).pl ≠ 0) := by
  have hP : Pnd C.length (List.replicate C.length st0) [] := ⟨by simp, by unfold Hp; simp, fun x hx => (by cases hx)⟩
  have h0 : ∀ k, ¬ (stA (List.replicate C.length st0) k).pl ≠ 0 := fun k h => h (stA_rep _ _)
  have hA := fun hz => firstP_acc (enc := enc) hW hn hE E 0 (S := List.replicate C.length st0) (by omega) (fun i _ => by rw [Nat.zero_add]) hP (fun k hk => absurd hk (h0 k)) (fun k hk => absurd hk (h0 k)) (fun q hq => by omega) hz
  refine ⟨⟨fun hz => ?_, fun hF => ?_⟩, fun hz => ?_⟩
  · obtain ⟨a, b, c, d⟩ := hA hz
    refine ⟨fun r k s hr hh => ?_, fun q r k s t hq hr hs ht => ?_⟩
    · obtain ⟨x, y, -, -⟩ := a r hr k s hh
      exact ⟨x, y⟩
    · exact sameH.trans (sameH.symm (a q hq k s hs).2.2.2) (a r hr k t ht).2.2.2
  · exact firstP_yes hW hn hF hE E 0 (by omega) (fun i _ => by rw [Nat.zero_add]) hP (fun k hk => absurd hk (h0 k))
  · obtain ⟨a, b, c, d⟩ := hA hz
    exact ⟨c, b, fun q k s hq hh => (a q hq k s hh).2.2.1⟩
end
theorem Wyp.mono {α : Type} {R R' : α → α → Prop} {a b : α} (hf : ∀ a b, R a b → R' a b) (h : Wyp R a b) : Wyp R' a b := by
  obtain ⟨c, h1, h2⟩ := h
  exact ⟨c, hf _ _ h1, h2.mono hf⟩
theorem Wyp.flip {α : Type} {R : α → α → Prop} {a b : α} (h : Wyp R a b) : Wyp (fun x y => R y x) b a := by
  obtain ⟨c, h1, h2⟩ := h
  exact h2.flip.trans_rp ⟨a, h1, Wy.refl _ _⟩
structure Sec (C : List In) (E : List Int) (M : Nat → Prop) : Prop where
  ring : ∀ k, M k → ¬ Wyp (beR C E M) k k
  ent : ∀ e ∈ E, ∀ j, Wy (beR C E M) e.toNat j → ¬ idR C E M j
  beh : ∀ x, idR C E M x → ∀ j, Wy (beR C E M) (x + 1) j → ¬ idR C E M j
theorem second_sem {C : List In} {E : List Int} {S : List St} (h : SlH C E S) : secondP C E S = 1048576 ↔ Sec C E (cmP S) := by
  have n9 := h.n9
  have hqu := qu_sem h
  have hbX : ∀ k y, beX C E (fun j => qAt (quP C E S) j = true) k y ↔ beX C E (Qt C E (cmP S)) k y := fun k y => ⟨fun a => a.mono fun j => (hqu j).1, fun a => a.mono fun j => (hqu j).2⟩
  have hbare : ∀ a, cameP S a = true → Stn C.length (bareP C E S (quP C E S) a) := fun a ha y hy => by
    refine (h.in_ a (came_ltS h ha) ha).1 y ?_
    exact beX_way ((bareP_mem ha y).1 hy)
  have hed : ∀ a b, eR (edB C E S (quP C E S)) a b ↔ beR C E (cmP S) a b := fun a b => by
    unfold eR edB beR
    by_cases hc : cameP S a = true
    · rw [if_pos hc, bareP_mem hc, hbX]
      exact ⟨fun x => ⟨hc, x⟩, fun x => x.2⟩
    · rw [if_neg hc]
      exact ⟨fun x => (by cases x), fun x => absurd x.1 hc⟩
  have heS : ∀ k, k < C.length → Stn C.length (edB C E S (quP C E S) k) := fun k _ y hy => by
    unfold edB at hy
    split at hy
    · rename_i hc; exact hbare k hc y hy
    · cases hy
  have hbm : ∀ i z, z ∈ uA (bkP C E S) i ↔ ∃ q : Nat, z = (q : Int) ∧ q < C.length ∧ cameP S q = true ∧ (i : Int) ∈ bareP C E S (quP C E S) q := fun i z => rev_mem (fun k _ hc => hbare k hc) i z
  have hbk : ∀ a b, eR (uA (bkP C E S)) a b ↔ beR C E (cmP S) b a := fun a b => by
    unfold eR
    rw [hbm]
    constructor
    · rintro ⟨q, e, h1, h2, h3⟩
      have e : b = q := by omega
      subst e
      exact ⟨h2, (hbX _ _).1 ((bareP_mem h2 _).1 h3)⟩
    · rintro ⟨h2, h3⟩
      exact ⟨b, rfl, came_ltS h h2, h2, (bareP_mem h2 _).2 ((hbX _ _).2 h3)⟩
  have hbS : ∀ k, k < C.length → Stn C.length (uA (bkP C E S) k) := fun k _ y hy => by
    obtain ⟨q, e, h1, -⟩ := (hbm k y).1 hy
    omega
  have hid : ∀ k, idleP C E S (quP C E S) k = true ↔ idR C E (cmP S) k := fun k => by
    unfold idleP idR cmP
    rw [Bool.and_eq_true, Bool.and_eq_true, beq_iff_eq, hqu]
    rfl
  have hfnI : FnI C.length [] (List.replicate C.length false) [] := (FnA.new (edB C E S (quP C E S)) C.length).i
  obtain ⟨o1, o2⟩ := fnO_all heS S C.length 0 (by omega) hfnI (fun k hk => by omega)
  have hrgT : rgP C E S = (rgT (uA (bkP C E S)) C.length (fnO (edB C E S (quP C E S)) S C.length C.length 0 (List.replicate C.length false) [])).1 := rfl
  have hacy : (∀ k, cmP S k → ¬ Wyp (beR C E (cmP S)) k k) → ∀ x, qAt (rgP C E S) x = false := fun hr x => by
    have hac : ∀ k, k < C.length → ¬ Wyp (eR (edB C E S (quP C E S))) k k := fun k _ hk => by
      have h2 := hk.mono (R' := beR C E (cmP S)) (fun a b => (hed a b).1)
      obtain ⟨c, h3, -⟩ := h2
      exact hr k h3.1 (hk.mono fun a b => (hed a b).1)
    obtain ⟨p1, p2⟩ := fnO_acy heS hac S C.length 0 (by omega) (FnA.new (edB C E S (quP C E S)) C.length)
    have h3 := rg_acy heS hbS (fun a b ha => by rw [hbk, hed]; exact ⟨fun x => ⟨came_ltS h x.1, x⟩, fun x => x.2⟩) hac p1 p2 o2 (fun a ha hne => by
      refine o1 a ha ?_
      unfold edB at hne
      by_cases hc : cameP S a = true
      · exact hc
      · rw [if_neg hc] at hne; exact absurd rfl hne) _ [] rfl
    rw [hrgT, h3.1, qAt_rep]
  have hring : ∀ k, cmP S k → Wyp (beR C E (cmP S)) k k → qAt (rgP C E S) k = true := fun k hk hr => by
    have h3 := rg_ring hbS _ o2
    have hkn := came_ltS h hk
    rw [hrgT]
    refine h3.2.2.2.1 k hkn ?_ ?_
    · have := h3.2.2.2.2 _ (o1 k hkn hk)
      simpa using this
    · exact hr.flip.mono fun a b x => (hbk a b).2 x
  obtain ⟨l1, l2⟩ := ld_sem hbS n9 (idleP C E S (quP C E S)) C.length 0 (s := List.replicate C.length false) (L := List.replicate C.length 1048576) (by omega) (by simp) (by simp) (fun k _ hq => by rw [qAt_rep] at hq; cases hq) (fun k _ => by
    rw [qAt_rep]
    constructor
    · intro x; cases x
    · rintro ⟨i, hi, -⟩; omega) (fun k hk => by
    rw [qAt_rep]
    have : hAt (List.replicate C.length 1048576) k = 1048576 := by unfold hAt; simp [List.getD, hk]
    rw [this]
    simp)
  have hldP : ldF (uA (bkP C E S)) (idleP C E S (quP C E S)) C.length C.length 0 (List.replicate C.length false) (List.replicate C.length 1048576) = ldP C E S := rfl
  rw [hldP] at l1 l2
  have hld : ∀ k, hAt (ldP C E S) k ≤ 1048576 := fun k => by
    by_cases hk : k < C.length
    · exact (l2 k hk).1
    · unfold hAt
      simp [List.getD, List.getElem?_eq_none (by omega : (ldP C E S).length ≤ k)]
  have hlead : ∀ k, k < C.length → (hAt (ldP C E S) k = 1048576 ↔ ∀ j, Wy (beR C E (cmP S)) k j → ¬ idR C E (cmP S) j) := fun k hk => by
    have h3 := (l2 k hk).2
    constructor
    · intro he j hj hi
      refine h3.2 ⟨j, came_ltS h hi.2.1, (hid j).2 hi, ?_⟩ he
      exact hj.flip.mono fun a b x => (hbk a b).2 x
    · intro hj
      by_cases he : hAt (ldP C E S) k = 1048576
      · exact he
      · exfalso
        obtain ⟨i, i1, i2, i3⟩ := h3.1 he
        exact hj i (i3.flip.mono fun a b x => (hbk b a).1 x) ((hid i).1 i2)
  have hWe : ∀ k, k < C.length → Stn C.length (edW C S k) := fun k hk y hy => by
    unfold edW at hy
    split at hy
    · rename_i hc; exact (h.in_ k hk hc).1 y hy
    · cases hy
  unfold secondP
  rw [se_sem hWe n9 (rgP C E S) (ldP C E S) (idleP C E S (quP C E S)) hld E (fun e he => ⟨(h.ent e he).1, (h.ent e he).2.1⟩) (by simp) (fun k _ hq => by rw [qAt_rep] at hq; cases hq)]
  constructor
  · rintro ⟨a, b⟩
    refine ⟨fun k hk hr => ?_, fun e he => ?_, fun x hx => ?_⟩
    · have := (b k (qAt_rep _ _) (h.src k hk)).1
      rw [hring k hk hr] at this
      cases this
    · have h5 := h.ent e he
      exact (hlead e.toNat (by omega)).1 (a e he)
    · have h5 := (b x (qAt_rep _ _) (h.src x hx.2.1)).2 ((hid x).2 hx)
      refine (hlead (x + 1) ?_).1 h5
      have h6 := (h.in_ x (came_ltS h hx.2.1) hx.2.1).1 ((x : Int) + 1) (by unfold waysP; simp [hx.1])
      omega
  · rintro ⟨a, b, c⟩
    refine ⟨fun e he => ?_, fun x _ hx => ⟨hacy a x, fun hi => ?_⟩⟩
    · have h5 := h.ent e he
      exact (hlead e.toNat (by omega)).2 (b e he)
    · have hi := (hid x).1 hi
      refine (hlead (x + 1) ?_).2 (c x hi)
      have h6 := (h.in_ x (came_ltS h hi.2.1) hi.2.1).1 ((x : Int) + 1) (by unfold waysP; simp [hi.1])
      omega
def Hs (enc : Bool) (C : List In) (E : List Int) (k : Nat) : Prop := ∃ r s, r < E.length ∧ Hd enc C (E.getD r 0) k s
theorem came_iff {S : List St} {k : Nat} : cameP S k = true ↔ (stA S k).pl ≠ 0 := by
  unfold cameP
  simp
theorem Chk.sec {enc : Bool} {C : List In} {E : List Int} (hK : Chk enc C E) (h : (firstP enc C E 0 (List.replicate C.length st0)).1 = 1048576) : SlH C E (stP enc C E) ∧ cmP (stP enc C E) = Hs enc C E := by
  have hE : ∀ i, i < E.length → 0 ≤ E.getD i 0 ∧ E.getD i 0 < (C.length : Int) := hK.ent
  obtain ⟨f1, f2⟩ := first_sem (enc := enc) hK.win hK.nc hE
  obtain ⟨g1, g2, g3⟩ := f2 h
  obtain ⟨-, a1, a2, a3⟩ := firstP_all hK h
  have hM : ∀ k, cmP (stP enc C E) k ↔ Hs enc C E k := fun k => by
    unfold cmP
    rw [came_iff]
    constructor
    · intro hk
      obtain ⟨q, b1, b2⟩ := g2 k hk
      exact ⟨q, _, b1, b2⟩
    · rintro ⟨q, s, b1, b2⟩
      exact g3 q k s b1 b2
  refine ⟨⟨hK.nc, a1, fun k hk hc => ⟨(a2 k hk hc).1, (a2 k hk hc).2⟩, fun k hk hc h16 => ?_, fun e he => ?_, fun k hk => ?_⟩, funext fun k => propext (hM k)⟩
  · have h1 := hK.ceok.cal k hk h16
    unfold enA
    exact hE _ (by omega)
  · obtain ⟨i, hi, rfl⟩ := List.mem_iff_getElem.1 he
    have h1 := hE i hi
    rw [show E.getD i 0 = E[i] by simp [List.getD, hi]] at h1
    exact ⟨h1.1, h1.2, a3 _ he⟩
  · obtain ⟨q, s, hq, hd⟩ := (hM k).1 hk
    have h1 := hE q hq
    refine ⟨E.getD q 0, ?_, ?_⟩
    · rw [show E.getD q 0 = E[q] by simp [List.getD, hq]]
      exact List.getElem_mem hq
    · have hc0 : cameP (stP enc C E) (E.getD q 0).toNat = true := (hM _).2 ⟨q, mBg enc, hq, Wy.refl _ _⟩
      refine Wy.map (T := eR (edW C (stP enc C E))) Prod.fst (Q := fun p : Nat × St => p.1 < C.length ∧ cameP (stP enc C E) p.1 = true) (fun p r hp hpr => ?_) (fun p r hp hpr => ?_) hd ⟨by show (E.getD q 0).toNat < C.length; omega, hc0⟩
      · obtain ⟨w, y, hw, e⟩ := hpr
        have hy := List.mem_of_getElem? hw
        have h5 := a2 p.1 hp.1 hp.2
        have h6 := h5.1 y hy
        rw [e]
        exact ⟨by show y.toNat < C.length; omega, h5.2 y hy⟩
      · obtain ⟨w, y, hw, e⟩ := hpr
        have hy := List.mem_of_getElem? hw
        have h5 := a2 p.1 hp.1 hp.2
        rw [e]
        refine Wy.one (eR_of (n := C.length) ?_ ?_)
        · unfold edW
          rw [if_pos hp.2]
          exact h5.1
        · unfold edW
          rw [if_pos hp.2]
          exact hy
theorem vf_sem {enc : Bool} {C : List In} {E : List Int} (hK : Chk enc C E) : ((vfP enc C E).1 = 0 ↔ FsOk enc C E ∧ Sec C E (Hs enc C E)) ∧ ((vfP enc C E).1 = 0 → ∀ k, (stA (stP enc C E) k).pl ≠ 0 ↔ Hs enc C E k) := by
  have hE : ∀ i, i < E.length → 0 ≤ E.getD i 0 ∧ E.getD i 0 < (C.length : Int) := hK.ent
  obtain ⟨f1, f2⟩ := first_sem (enc := enc) hK.win hK.nc hE
  unfold vfP
  rw [chk_ok.2 hK, if_neg (by simp)]
  by_cases hz : (firstP enc C E 0 (List.replicate C.length st0)).1 = 1048576
  · rw [if_neg (by simpa using hz)]
    obtain ⟨s1, s2⟩ := hK.sec hz
    have s3 := second_sem s1
    rw [s2] at s3
    have hF := f1.1 hz
    refine ⟨?_, fun _ k => ?_⟩
    · by_cases h2 : secondP C E (stP enc C E) = 1048576
      · rw [if_neg (by simpa using h2)]
        exact ⟨fun _ => ⟨hF, s3.1 h2⟩, fun _ => rfl⟩
      · rw [if_pos h2]
        exact ⟨fun h => by simp at h, fun h => absurd (s3.2 h.2) h2⟩
    · rw [← came_iff]
      have := congrFun s2 k
      unfold cmP at this
      rw [this]
  · rw [if_pos hz]
    exact ⟨⟨fun h => by simp at h, fun h => absurd (f1.2 h.1) hz⟩, fun h => by simp at h⟩
theorem fs_ways {enc : Bool} {C : List In} {E : List Int} {k : Nat} (h : Hs enc C E k) : ∀ y ∈ waysP C k, Hs enc C E y.toNat := fun y hy => by
  obtain ⟨r, s, hr, hd⟩ := h
  obtain ⟨w, hw⟩ := List.mem_iff_getElem?.1 hy
  exact ⟨r, _, hr, hd.step hw⟩
set_option maxRecDepth 100000 in
set_option maxHeartbeats 16000000 in
theorem verify_any (enc : Bool) (ac ae : Option Addr) (cc ce : Nat) (C : List In) (E : List Int) (w : World) (hcc : C.length ≤ cc) (hcl : cc ≤ 9223372036854775807) (hCl : C.length ≤ 140737488355328) (hce : E.length ≤ ce) (hel : E.length ≤ 140737488355328) (hr : Hid (IRow w ac C)) (he : Hid (Row .i64 w ae E)) :
    Calls Try.prog 8 #[.agg #[.bool enc, .slice ac C.length cc, .slice ae E.length ce]] w fun e w' => e = .returned (.agg #[.int .i64 (vfP enc C E).1, .int .i64 (vfP enc C E).2]) ∧ Below w.heap.size w w' := by
  obtain ⟨w1, hw1⟩ : ∃ wx, (w.alloc (.cells #[.bool enc, .slice ac C.length cc, .slice ae E.length ce] 25)).alloc (.cells #[.int .i64 0, .int .i64 0] 30) = wx := ⟨_, rfl⟩
  have hB1 : Below w.heap.size w w1 := by rw [← hw1]; exact below2 _ _ _
  obtain ⟨kp, kf⟩ := blk2 w #[.bool enc, .slice ac C.length cc, .slice ae E.length ce] #[.int .i64 0, .int .i64 0] 25 30
  rw [hw1] at kp kf
  have hgf : w.heap.size ≤ w.heap.size + 1 := by omega
  have p0 := kp.cell 0; have p1 := kp.cell 1; have p2 := kp.cell 2
  simp at p0 p1 p2
  have HVf := hide_ (verified_any enc ac ae cc ce C E w1 hcc hcl hCl hce hel (hide_ (hr.out.later hB1)) (hide_ (he.out.later hB1)))
  obtain ⟨K, hK⟩ : ∃ K, vfP enc C E = K := ⟨_, rfl⟩
  have HV2 : Hid (Calls Try.prog 15 #[.agg #[.bool enc, .slice ac C.length cc, .slice ae E.length ce]] w1 fun e w' => ∃ v, e = .returned (.tuple #[v, .agg #[.int .i64 K.1, .int .i64 K.2]]) ∧ Hid (Below w1.heap.size w1 w')) := hide_ (by
    refine HVf.out.mono ?_
    rintro e w' ⟨h1, ⟨h2, h3, -, -, -, g, rfl, -, -⟩ | ⟨-, rfl⟩⟩
    · exact ⟨_, by rw [← hK, h2, h3], hide_ h1⟩
    · exact ⟨_, by rw [← hK], hide_ h1⟩)
  have KF := hide_ kf
  have HB1 := hide_ hB1
  rw [hK]
  clear kp kf hB1 hK HVf
  go_enter Try.func8, Try.ntmps8
  go_upto_region 1 with fail
  try rw [hw1]
  clear hw1
  go_wp2_with fail
  refine HV2.out.mono ?_
  rintro e w2 ⟨v2, rfl, HB2⟩
  obtain ⟨w3, hw3⟩ : ∃ wx, w2.alloc (.cells #[.int .i64 K.1, .int .i64 K.2] 30) = wx := ⟨_, rfl⟩
  have hB3 : Below w2.heap.size w2 w3 := by rw [← hw3]; exact below1 _ _
  have hK3 : Blk w3 w2.heap.size 30 [.int .i64 K.1, .int .i64 K.2] := by rw [← hw3]; exact Blk.newA _ _ _
  have HB3 := hide_ (below_to (below_to HB1.out HB2.out) hB3)
  have HF3 := hide_ ((KF.out.later HB2.out).later hB3)
  have q0 := hK3.cell 0; have q1 := hK3.cell 1
  have z0 := HF3.out.cell 0; have z1 := HF3.out.cell 1
  have zf := fun i => HF3.out.frozen i
  simp at q0 q1 z0 z1
  clear hB3 p0 p1 p2 hK3 KF HB1 HV2 HB2
  go_wp2_with fail
  try rw [hw3]
  clear hw3
  refine retFt rfl rfl (wr2f HF3.out _ _) ?_
  exact ⟨rfl, below_set (below_set HB3.out _ _ _ hgf) _ _ _ hgf⟩
def oc1 (x : Int) : Int := IntKind.u64.wrap (bits .and .u64 (x / 2) 6148914691236517205 + bits .and .u64 x 6148914691236517205)
def oc2 (x : Int) : Int := IntKind.u64.wrap (bits .and .u64 (x / 4) 3689348814741910323 + bits .and .u64 x 3689348814741910323)
def oc3 (x : Int) : Int := bits .and .u64 (IntKind.u64.wrap (x / 16 + x)) 1085102592571150095
def oc4 (x : Int) : Int := IntKind.u64.wrap (x + x / 256)
def oc5 (x : Int) : Int := IntKind.u64.wrap (x + x / 65536)
def oc6 (x : Int) : Int := IntKind.u64.wrap (x + x / 4294967296)
def ocI (x : Int) : Int := bits .and .i64 (wrap64 (oc6 (oc5 (oc4 (oc3 (oc2 (oc1 x))))))) 127
theorem and127 (y : Int) : 0 ≤ bits .and .i64 y 127 ∧ bits .and .i64 y 127 ≤ 127 := by
  have h : (BitVec.ofInt 64 y &&& BitVec.ofInt 64 127).toNat ≤ 127 := by
    rw [BitVec.toNat_and]
    have : (BitVec.ofInt 64 127).toNat = 127 := by decide
    rw [this]
    exact Nat.and_le_right
  show 0 ≤ IntKind.i64.wrap ((BitVec.ofInt 64 y &&& BitVec.ofInt 64 127).toNat : Int) ∧ IntKind.i64.wrap ((BitVec.ofInt 64 y &&& BitVec.ofInt 64 127).toNat : Int) ≤ 127
  rw [i64w _ (by omega)]
  omega
theorem ocI_in (x : Int) : 0 ≤ ocI x ∧ ocI x ≤ 127 := and127 _
set_option maxRecDepth 100000 in
set_option maxHeartbeats 16000000 in
theorem ones_any (x : Int) (w : World) : Calls Try.prog 110 #[.int .u64 x] w fun e w' => e = .returned (.int .i64 (ocI x)) ∧ w = w' := by
  go_enter Try.func110, Try.ntmps110
  go_wp2
  go_ret
  exact ⟨rfl, rfl⟩
def eShp (s : St) : Int := if s.pl = 0 then -1 else if s.pl = 6 then 0 else if s.pl = 7 then 1 + s.le else 66
def dShp (s : St) : Int := if s.pl = 0 then -1 else if s.pl = 2 then 0 else if s.pl = 5 then 1 else 2 + ocI (s.ki : Int)
def mShp (enc : Bool) (s : St) : Int := if enc = true then eShp s else dShp s
def fSh (enc : Bool) : Nat := if enc then 95 else 104
theorem mtSh (enc : Bool) (k : Nat) (w : World) : (method (k + 1) (mTy enc) (.agg #[]) "mortise/sound.shape").run Try.prog w = .ok (fSh enc, .agg #[]) w := by cases enc; exact mAgD md2 fd2 k w; exact mAgE me2 fe2 k w
theorem enSh (enc : Bool) (args : Array Value) (w : World) : (callFunc (fSh enc) args).run Try.prog w = .ok (.enter (fSh enc) args) w := by cases enc <;> kernel_rfl
set_option maxRecDepth 100000 in
set_option maxHeartbeats 16000000 in
theorem eshape_any (s : St) (w : World) (hl : 0 ≤ s.le ∧ s.le ≤ 64) : Calls Try.prog 95 #[.agg #[], stv s] w fun e w' => e = .returned (.int .i64 (eShp s)) ∧ Below w.heap.size w w' := by
  obtain ⟨r, hr⟩ : ∃ r, eShp s = r := ⟨_, rfl⟩
  rw [hr]
  unfold eShp at hr
  obtain ⟨w1, hw1⟩ : ∃ wx, (w.alloc (.cells #[] 64)).alloc (.cells #[.int .i64 s.pl, .int .u64 (s.ki : Int), .int .i64 s.tb, .int .i64 s.pa, .int .i64 s.fr, .int .i64 s.le, .bool s.su] 46) = wx := ⟨_, rfl⟩
  have hB1 : Below w.heap.size w w1 := by rw [← hw1]; exact below2 _ _ _
  obtain ⟨-, kp⟩ := blk2 w #[] #[.int .i64 s.pl, .int .u64 (s.ki : Int), .int .i64 s.tb, .int .i64 s.pa, .int .i64 s.fr, .int .i64 s.le, .bool s.su] 64 46
  rw [hw1] at kp
  have p0 := kp.cell 0; have p5 := kp.cell 5
  simp at p0 p5
  have HB1 := hide_ hB1
  have HR := hide_ hr
  unfold stv
  clear kp hB1 hr
  by_cases h0 : s.pl = 0
  · have f0 : (s.pl == 0) = true := by simpa using h0
    have e1 : r = -1 := by have h1 := HR.out; rw [if_pos h0] at h1; exact h1.symm
    subst e1
    clear h0 HR
    go_enter Try.func95, Try.ntmps95
    go_upto_region 1 with fail
    try rw [hw1]
    clear hw1
    go_wp2_with fail
    go_ret
    exact ⟨rfl, HB1.out⟩
  have f0 : (s.pl == 0) = false := by simpa using h0
  by_cases h6 : s.pl = 6
  · have f6 : (s.pl == 6) = true := by simpa using h6
    have e1 : r = 0 := by have h1 := HR.out; rw [if_neg h0, if_pos h6] at h1; exact h1.symm
    subst e1
    clear h0 h6 HR
    go_enter Try.func95, Try.ntmps95
    go_upto_region 1 with fail
    try rw [hw1]
    clear hw1
    go_wp2_with fail
    go_ret
    exact ⟨rfl, HB1.out⟩
  have f6 : (s.pl == 6) = false := by simpa using h6
  by_cases h7 : s.pl = 7
  · have f7 : (s.pl == 7) = true := by simpa using h7
    have e1 : 1 + s.le = r := by have h1 := HR.out; rw [if_neg h0, if_neg h6, if_pos h7] at h1; exact h1
    have HE := hide_ e1
    clear h0 h6 h7 HR e1
    go_enter Try.func95, Try.ntmps95
    go_upto_region 1 with fail
    try rw [hw1]
    clear hw1
    go_wp2_with fail
    go_ret
    exact ⟨by rw [← HE.out]; go_num, HB1.out⟩
  have f7 : (s.pl == 7) = false := by simpa using h7
  have e1 : r = 66 := by have h1 := HR.out; rw [if_neg h0, if_neg h6, if_neg h7] at h1; exact h1.symm
  subst e1
  clear h0 h6 h7 HR
  go_enter Try.func95, Try.ntmps95
  go_upto_region 1 with fail
  try rw [hw1]
  clear hw1
  go_wp2_with fail
  go_ret
  exact ⟨rfl, HB1.out⟩
set_option maxRecDepth 100000 in
set_option maxHeartbeats 16000000 in
theorem dshape_any (s : St) (w : World) : Calls Try.prog 104 #[.agg #[], stv s] w fun e w' => e = .returned (.int .i64 (dShp s)) ∧ Below w.heap.size w w' := by
  obtain ⟨r, hr⟩ : ∃ r, dShp s = r := ⟨_, rfl⟩
  rw [hr]
  unfold dShp at hr
  obtain ⟨w1, hw1⟩ : ∃ wx, (w.alloc (.cells #[] 65)).alloc (.cells #[.int .i64 s.pl, .int .u64 (s.ki : Int), .int .i64 s.tb, .int .i64 s.pa, .int .i64 s.fr, .int .i64 s.le, .bool s.su] 46) = wx := ⟨_, rfl⟩
  have hB1 : Below w.heap.size w w1 := by rw [← hw1]; exact below2 _ _ _
  obtain ⟨-, kp⟩ := blk2 w #[] #[.int .i64 s.pl, .int .u64 (s.ki : Int), .int .i64 s.tb, .int .i64 s.pa, .int .i64 s.fr, .int .i64 s.le, .bool s.su] 65 46
  rw [hw1] at kp
  have p0 := kp.cell 0; have p1 := kp.cell 1
  simp at p0 p1
  have HB1 := hide_ hB1
  have HR := hide_ hr
  unfold stv
  clear kp hB1 hr
  by_cases h0 : s.pl = 0
  · have f0 : (s.pl == 0) = true := by simpa using h0
    have e1 : r = -1 := by have h1 := HR.out; rw [if_pos h0] at h1; exact h1.symm
    subst e1
    clear h0 HR
    go_enter Try.func104, Try.ntmps104
    go_upto_region 1 with fail
    try rw [hw1]
    clear hw1
    go_wp2_with fail
    go_ret
    exact ⟨rfl, HB1.out⟩
  have f0 : (s.pl == 0) = false := by simpa using h0
  by_cases h6 : s.pl = 2
  · have f6 : (s.pl == 2) = true := by simpa using h6
    have e1 : r = 0 := by have h1 := HR.out; rw [if_neg h0, if_pos h6] at h1; exact h1.symm
    subst e1
    clear h0 h6 HR
    go_enter Try.func104, Try.ntmps104
    go_upto_region 1 with fail
    try rw [hw1]
    clear hw1
    go_wp2_with fail
    go_ret
    exact ⟨rfl, HB1.out⟩
  have f6 : (s.pl == 2) = false := by simpa using h6
  by_cases h7 : s.pl = 5
  · have f7 : (s.pl == 5) = true := by simpa using h7
    have e1 : r = 1 := by have h1 := HR.out; rw [if_neg h0, if_neg h6, if_pos h7] at h1; exact h1.symm
    subst e1
    clear h0 h6 h7 HR
    go_enter Try.func104, Try.ntmps104
    go_upto_region 1 with fail
    try rw [hw1]
    clear hw1
    go_wp2_with fail
    go_ret
    exact ⟨rfl, HB1.out⟩
  have f7 : (s.pl == 5) = false := by simpa using h7
  have e1 : 2 + ocI (s.ki : Int) = r := by have h1 := HR.out; rw [if_neg h0, if_neg h6, if_neg h7] at h1; exact h1
  obtain ⟨o, ho⟩ : ∃ o, ocI (s.ki : Int) = o := ⟨_, rfl⟩
  have hoi := ocI_in (s.ki : Int)
  have HOn := hide_ (ones_any (s.ki : Int) w1)
  rw [ho] at e1 hoi HOn
  have HE := hide_ e1
  clear h0 h6 h7 HR e1 ho
  go_enter Try.func104, Try.ntmps104
  go_upto_region 1 with fail
  try rw [hw1]
  clear hw1
  go_wp2_with fail
  refine HOn.out.mono ?_
  rintro e w2 ⟨rfl, rfl⟩
  go_wp2_with fail
  go_ret
  exact ⟨by rw [← HE.out]; go_num, HB1.out⟩
theorem mshape_any (enc : Bool) (s : St) (w : World) (hs : SOk s) : Calls Try.prog (fSh enc) #[.agg #[], stv s] w fun e w' => e = .returned (.int .i64 (mShp enc s)) ∧ Below w.heap.size w w' := by
  have := hs.le
  cases enc
  · rw [show mShp false s = dShp s by unfold mShp; rw [if_neg (by decide)]]
    exact dshape_any s w
  · rw [show mShp true s = eShp s by unfold mShp; rw [if_pos rfl]]
    exact eshape_any s w (by omega)
def tgP (op : Int) : Bool := decide (op = 7 ∨ op = 9 ∨ op = 11 ∨ op = 12 ∨ op = 13 ∨ op = 14 ∨ op = 15 ∨ op = 19 ∨ op = 40 ∨ op = 47)
set_option maxRecDepth 100000 in
set_option maxHeartbeats 16000000 in
theorem targets_any (op : Int) (w : World) : Calls Try.prog 18 #[.int .i64 op] w fun e w' => e = .returned (.bool (tgP op)) ∧ w = w' := by
  obtain ⟨d, hd⟩ : ∃ d, tgP op = d := ⟨_, rfl⟩
  rw [hd]
  unfold tgP at hd
  have Hd := hide_ hd
  clear hd
  cases d
  · have h := of_decide_eq_false Hd.out
    have f1 : (op == 7) = false := by simp; omega
    have f2 : (op == 9) = false := by simp; omega
    have f3 : (op == 11) = false := by simp; omega
    have f4 : (op == 12) = false := by simp; omega
    have f5 : (op == 13) = false := by simp; omega
    have f6 : (op == 14) = false := by simp; omega
    have f7 : (op == 15) = false := by simp; omega
    have f8 : (op == 19) = false := by simp; omega
    have f9 : (op == 40) = false := by simp; omega
    have f10 : (op == 47) = false := by simp; omega
    clear h
    go_enter Try.func18, Try.ntmps18
    go_wp2
    go_ret
    exact ⟨rfl, rfl⟩
  · have h := of_decide_eq_true Hd.out
    have H := hide_ h
    clear h Hd
    go_enter Try.func18, Try.ntmps18
    rcases H.out with rfl | rfl | rfl | rfl | rfl | rfl | rfl | rfl | rfl | rfl <;> (clear H; go_wp2; go_ret; exact ⟨rfl, rfl⟩)
def mvI (k : Nat) (n : Int) : Int := if (k : Int) < n then n + 1 else n
def nwI (k i : Nat) : Nat := if k < i then i + 1 else i
def jmI (k : Nat) (x : In) : In := if tgP x.op then ⟨x.op, x.a, mvI k x.b, x.c⟩ else x
def jmJ (k : Nat) : In := ⟨19, 0, (k : Int) + 2, 0⟩
def jmC (k : Nat) (C : List In) : List In := (C.take (k + 1)).map (jmI k) ++ (jmJ k :: (C.drop (k + 1)).map (jmI k))
def jmE (k : Nat) (E : List Int) : List Int := E.map (mvI k)
theorem jmI_op (k : Nat) (x : In) : (jmI k x).op = x.op ∧ (jmI k x).a = x.a ∧ (jmI k x).c = x.c := by unfold jmI; split <;> exact ⟨rfl, rfl, rfl⟩
theorem jmI_b {k : Nat} {x : In} (h : tgP x.op = true) : (jmI k x).b = mvI k x.b := by unfold jmI; rw [if_pos h]
theorem jmI_n {k : Nat} {x : In} (h : tgP x.op = false) : jmI k x = x := by unfold jmI; rw [if_neg (by simp [h])]
theorem tgP_iff (op : Int) : tgP op = true ↔ op = 7 ∨ op = 9 ∨ op = 11 ∨ op = 12 ∨ op = 13 ∨ op = 14 ∨ op = 15 ∨ op = 19 ∨ op = 40 ∨ op = 47 := by unfold tgP; simp
theorem mv_nw {k : Nat} {y : Int} (h : 0 ≤ y) : mvI k y = ((nwI k y.toNat : Nat) : Int) := by
  unfold mvI nwI
  split <;> split <;> omega
theorem nw_inj {k i j : Nat} (h : nwI k i = nwI k j) : i = j := by unfold nwI at h; split at h <;> split at h <;> omega
theorem nw_not {k i : Nat} : nwI k i ≠ k + 1 := by unfold nwI; split <;> omega
theorem nw_lt {k i n : Nat} (hk : k < n) : nwI k i < n + 1 ↔ i < n := by unfold nwI; split <;> omega
theorem nw_of {k j : Nat} (h : j ≠ k + 1) : ∃ i, j = nwI k i := by
  by_cases e : k < j
  · exact ⟨j - 1, by unfold nwI; rw [if_pos (by omega)]; omega⟩
  · exact ⟨j, by unfold nwI; rw [if_neg e]⟩
section
variable {k : Nat} {C : List In} {E : List Int}
theorem jm_len (hk : k < C.length) : (jmC k C).length = C.length + 1 := by
  unfold jmC
  simp
  omega
theorem jm_at (hk : k < C.length) {i : Nat} (hi : i < C.length) : inA (jmC k C) (nwI k i) = jmI k (inA C i) := by
  have h1 : C[i]? = some C[i] := List.getElem?_eq_getElem hi
  rw [inA_at h1]
  refine inA_at ?_
  unfold jmC nwI
  have hl : ((C.take (k + 1)).map (jmI k)).length = k + 1 := by simp; omega
  by_cases e : k < i
  · rw [if_pos e, List.getElem?_append_right (by omega), hl, show i + 1 - (k + 1) = (i - k - 1) + 1 by omega, List.getElem?_cons_succ, List.getElem?_map, List.getElem?_drop, show k + 1 + (i - k - 1) = i by omega, h1]
    rfl
  · rw [if_neg e, List.getElem?_append_left (by omega), List.getElem?_map, List.getElem?_take, if_pos (by omega), h1]
    rfl
theorem jm_j (hk : k < C.length) : inA (jmC k C) (k + 1) = jmJ k := by
  refine inA_at ?_
  unfold jmC
  have hl : ((C.take (k + 1)).map (jmI k)).length = k + 1 := by simp; omega
  rw [List.getElem?_append_right (by omega), hl, Nat.sub_self]
  rfl
theorem jm_e {c : Int} (h0 : 0 ≤ c) (h1 : c < (E.length : Int)) : enA (jmE k E) c = mvI k (enA E c) := by
  unfold enA jmE
  simp [List.getD, show c.toNat < E.length by omega]
def nxT (op : Int) : Bool := decide (op ≠ 19 ∧ op ≠ 20 ∧ op ≠ 8 ∧ op ≠ 41)
def Cor (k : Nat) (C : List In) (i w : Nat) (y z : Int) : Prop := (z = mvI k y ∧ ¬ (i = k ∧ w = 0 ∧ nxT (inA C k).op = true)) ∨ (i = k ∧ w = 0 ∧ nxT (inA C k).op = true ∧ y = (k : Int) + 1 ∧ z = (k : Int) + 1)
structure Apt (k : Nat) (C : List In) : Prop where
  lt : k + 1 < C.length
  un : (inA C k).op ≠ 8 ∧ (inA C k).op ≠ 41
  arm : (inA C (k + 1)).op ≠ 9
  arms : ∀ i, i < C.length → (inA C i).op = 8 ∨ (inA C i).op = 41 → 1 ≤ (inA C i).a ∧ (i : Int) + 1 + (inA C i).a ≤ C.length ∧ ∀ j : Nat, (j : Int) < (inA C i).a → (inA C (i + 1 + j)).op = 9
theorem Apt.side (h : Apt k C) {i j : Nat} (hi : i < C.length) (ho : (inA C i).op = 8 ∨ (inA C i).op = 41) (hj : (j : Int) < (inA C i).a) : nwI k (i + 1 + j) = nwI k i + 1 + j := by
  have h1 := h.arms i hi ho
  unfold nwI
  by_cases e : k < i
  · rw [if_pos e, if_pos (by omega)]; omega
  · rw [if_neg e]
    by_cases e2 : k < i + 1 + j
    · exfalso
      by_cases e3 : k = i
      · subst e3
        rcases ho with ho | ho
        · exact h.un.1 ho
        · exact h.un.2 ho
      · have h2 := h1.2.2 (k - i) (by omega)
        rw [show i + 1 + (k - i) = k + 1 by omega] at h2
        exact h.arm h2
    · rw [if_neg e2]
theorem nx_mv {i : Nat} (h : i ≠ k) : ((nwI k i : Nat) : Int) + 1 = mvI k ((i : Int) + 1) := by
  unfold nwI mvI
  split <;> split <;> omega
theorem nx_k : ((nwI k k : Nat) : Int) + 1 = (k : Int) + 1 := by unfold nwI; rw [if_neg (by omega)]
theorem ways_cor (h : Apt k C) {i : Nat} (hi : i < C.length) : (waysP (jmC k C) (nwI k i)).length = (waysP C i).length ∧ ∀ (w : Nat) (y z : Int), (waysP C i)[w]? = some y → (waysP (jmC k C) (nwI k i))[w]? = some z → Cor k C i w y z := by
  have hk : k < C.length := by have := h.lt; omega
  have hx := jm_at hk hi
  obtain ⟨x1, x2, x3⟩ := jmI_op k (inA C i)
  have hJ : ∀ op, (inA C i).op = op → tgP op = true → (inA (jmC k C) (nwI k i)).b = mvI k (inA C i).b := fun op ho ht => by rw [hx]; exact jmI_b (by rw [ho]; exact ht)
  unfold waysP
  rw [hx, x1, x2]
  by_cases h19 : (inA C i).op = 19
  · rw [if_pos h19, if_pos h19]
    refine ⟨rfl, fun w y z hy hz => ?_⟩
    have hb := hJ 19 h19 (by decide)
    rw [hx] at hb
    rw [hb] at hz
    cases w with
    | zero =>
      simp at hy hz
      exact .inl ⟨by rw [← hz, ← hy], fun ⟨e, _, e3⟩ => by rw [← e, h19] at e3; simp [nxT] at e3⟩
    | succ w => simp at hy
  rw [if_neg h19, if_neg h19]
  by_cases h20 : (inA C i).op = 20
  · rw [if_pos h20, if_pos h20]
    exact ⟨rfl, fun w y z hy hz => by simp at hy⟩
  rw [if_neg h20, if_neg h20]
  by_cases h8 : (inA C i).op = 8 ∨ (inA C i).op = 41
  · rw [if_pos h8, if_pos h8]
    refine ⟨by simp, fun w y z hy hz => .inl ⟨?_, fun ⟨e, _, e3⟩ => ?_⟩⟩
    · rw [List.getElem?_map, Option.map_eq_some_iff] at hy hz
      obtain ⟨j, hj, rfl⟩ := hy
      obtain ⟨j2, hj2, rfl⟩ := hz
      rw [hj] at hj2
      injection hj2 with e
      subst e
      have hjl := List.mem_range.1 (List.mem_of_getElem? hj)
      have ha := h.arms i hi h8
      have h9 := ha.2.2 j (by omega)
      rw [← h.side hi h8 (show (j : Int) < (inA C i).a by omega), jm_at hk (by omega), jmI_b (by rw [h9]; decide)]
    · subst e
      rcases h8 with h8 | h8
      · exact h.un.1 h8
      · exact h.un.2 h8
  rw [if_neg h8, if_neg h8]
  have hnx : nxT (inA C i).op = true := by unfold nxT; simp; omega
  have hfirst : Cor k C i 0 ((i : Int) + 1) (((nwI k i : Nat) : Int) + 1) := by
    by_cases e : i = k
    · right
      subst e
      exact ⟨rfl, rfl, hnx, rfl, nx_k⟩
    · exact .inl ⟨nx_mv e, fun q => e q.1⟩
  by_cases h7 : (inA C i).op = 7 ∨ (inA C i).op = 11 ∨ (inA C i).op = 12 ∨ (inA C i).op = 13 ∨ (inA C i).op = 14 ∨ (inA C i).op = 15 ∨ (inA C i).op = 40 ∨ (inA C i).op = 47
  · rw [if_pos h7, if_pos h7]
    refine ⟨rfl, fun w y z hy hz => ?_⟩
    have hb : (jmI k (inA C i)).b = mvI k (inA C i).b := jmI_b (by rw [tgP_iff]; omega)
    rw [hb] at hz
    match w, hy, hz with
    | 0, hy, hz =>
      simp at hy hz
      rw [← hy, ← hz]
      exact hfirst
    | 1, hy, hz =>
      simp at hy hz
      exact .inl ⟨by rw [← hz, ← hy], fun q => by omega⟩
    | w + 2, hy, hz => simp at hy
  · rw [if_neg h7, if_neg h7]
    refine ⟨rfl, fun w y z hy hz => ?_⟩
    cases w with
    | zero =>
      simp at hy hz
      rw [← hy, ← hz]
      exact hfirst
    | succ w => simp at hy
theorem cor_f (h : Apt k C) {i : Nat} (hi : i < C.length) {w : Nat} {y : Int} (hy : (waysP C i)[w]? = some y) : ∃ z, (waysP (jmC k C) (nwI k i))[w]? = some z ∧ Cor k C i w y z := by
  obtain ⟨h1, h2⟩ := ways_cor h hi
  have hw := (List.getElem?_eq_some_iff.1 hy).1
  exact ⟨_, List.getElem?_eq_getElem (by omega), h2 w y _ hy (List.getElem?_eq_getElem (by omega))⟩
theorem cor_b (h : Apt k C) {i : Nat} (hi : i < C.length) {w : Nat} {z : Int} (hz : (waysP (jmC k C) (nwI k i))[w]? = some z) : ∃ y, (waysP C i)[w]? = some y ∧ Cor k C i w y z := by
  obtain ⟨h1, h2⟩ := ways_cor h hi
  have hw := (List.getElem?_eq_some_iff.1 hz).1
  exact ⟨_, List.getElem?_eq_getElem (by omega), h2 w _ z (List.getElem?_eq_getElem (by omega)) hz⟩
theorem ways_j (hk : k < C.length) : waysP (jmC k C) (k + 1) = [(k : Int) + 2] := by
  unfold waysP
  rw [jm_j hk]
  rfl
theorem mHd_jm (enc : Bool) (s : St) (x : In) (w : Int) : mHd enc s (jmI k x) w = mHd enc s x w := by
  cases ht : tgP x.op with
  | false => rw [jmI_n ht]
  | true =>
    obtain ⟨x1, x2, x3⟩ := jmI_op k x
    rw [tgP_iff] at ht
    unfold mHd
    cases enc
    · simp only [Bool.false_eq_true, if_false]
      unfold dHd tabP freeP
      rw [x1]
      rcases ht with e | e | e | e | e | e | e | e | e | e <;> simp [e]
    · simp only [if_true]
      unfold eHd
      rw [x1]
      rcases ht with e | e | e | e | e | e | e | e | e | e <;> simp [e]
theorem mSt_jm (enc : Bool) (s : St) (x : In) (r : Int) : mSt enc s (jmI k x) r = mSt enc s x r := by
  cases ht : tgP x.op with
  | false => rw [jmI_n ht]
  | true =>
    obtain ⟨x1, x2, x3⟩ := jmI_op k x
    rw [tgP_iff] at ht
    unfold mSt
    cases enc
    · simp only [Bool.false_eq_true, if_false]
      unfold dSt
      rw [x1]
      rcases ht with e | e | e | e | e | e | e | e | e | e <;> simp [e]
    · simp only [if_true]
      unfold eSt
      rw [x1]
      rcases ht with e | e | e | e | e | e | e | e | e | e <;> simp [e]
theorem mHd_j (enc : Bool) (s : St) (w : Int) : mHd enc s (jmJ k) w = s := by
  unfold mHd
  cases enc
  · simp only [Bool.false_eq_true, if_false]
    unfold dHd
    rw [if_pos (show (jmJ k).op = 19 from rfl)]
  · simp only [if_true]
    unfold eHd
    simp [jmJ]
theorem mSt_j (enc : Bool) (s : St) (r : Int) : mSt enc s (jmJ k) r = true := by
  unfold mSt
  cases enc
  · simp only [Bool.false_eq_true, if_false]
    unfold dSt
    simp [jmJ]
  · simp only [if_true]
    unfold eSt
    simp [jmJ]
variable {enc : Bool}
def JQ (enc : Bool) (k : Nat) (C : List In) (e : Int) (p : Nat × St) : Prop := (∃ i, i < C.length ∧ p.1 = nwI k i ∧ Hd enc C e i p.2) ∨ (p.1 = k + 1 ∧ nxT (inA C k).op = true ∧ ∃ s0, Hd enc C e k s0 ∧ p.2 = mHd enc s0 (inA C k) 0 ∧ (waysP C k)[0]? = some ((k : Int) + 1))
theorem hd_step (h : Apt k C) {e : Int} {i : Nat} (hi : i < C.length) {s : St} (hd : Hd enc C e i s) {w : Nat} {z : Int} (hz : (waysP (jmC k C) (nwI k i))[w]? = some z) (hin : Inn C i) : JQ enc k C e (z.toNat, mHd enc s (jmI k (inA C i)) (w : Int)) := by
  obtain ⟨y, hy, hc⟩ := cor_b h hi hz
  have hy0 := hin y (List.mem_of_getElem? hy)
  rw [mHd_jm]
  rcases hc with ⟨e1, -⟩ | ⟨e1, e2, e3, e4, e5⟩
  · left
    refine ⟨y.toNat, by omega, ?_, hd.step hy⟩
    show z.toNat = _
    rw [e1, mv_nw hy0.1]
    omega
  · right
    subst e1 e2
    rw [e4] at hy
    exact ⟨by show z.toNat = _; omega, e3, s, hd, rfl, hy⟩
theorem hd_back (h : Apt k C) {e : Int} (he : 0 ≤ e ∧ e < (C.length : Int)) (hin : ∀ i s, Hd enc C e i s → Inn C i) {j : Nat} {s : St} (hd : Hd enc (jmC k C) (mvI k e) j s) : JQ enc k C e (j, s) := by
  have hk : k < C.length := by have := h.lt; omega
  refine Wy.keep (Q := JQ enc k C e) (fun p q hp hpq => ?_) hd (.inl ⟨e.toNat, by omega, ?_, Wy.refl _ _⟩)
  · obtain ⟨w, z, hz, eq⟩ := hpq
    rw [eq]
    rcases hp with ⟨i, hi, e1, hd⟩ | ⟨e1, e2, s0, hd, e3, e4⟩
    · rw [e1] at hz ⊢
      rw [jm_at hk hi]
      exact hd_step h hi hd hz (hin i _ hd)
    · rw [e1, ways_j hk] at hz
      rw [e1, jm_j hk, mHd_j]
      cases w with
      | zero =>
        simp at hz
        left
        refine ⟨k + 1, h.lt, ?_, ?_⟩
        · show z.toNat = _
          unfold nwI
          rw [if_pos (by omega)]
          omega
        · rw [e3]
          have := hd.step e4
          exact this
      | succ w => simp at hz
  · show (mvI k e).toNat = _
    rw [mv_nw he.1]
    omega
theorem hd_fwd (h : Apt k C) {e : Int} (he : 0 ≤ e ∧ e < (C.length : Int)) (hin : ∀ j s, Hd enc (jmC k C) (mvI k e) j s → Inn (jmC k C) j) {i : Nat} {s : St} (hd : Hd enc C e i s) : i < C.length ∧ Hd enc (jmC k C) (mvI k e) (nwI k i) s := by
  have hk : k < C.length := by have := h.lt; omega
  refine Wy.keep (Q := fun p : Nat × St => p.1 < C.length ∧ Hd enc (jmC k C) (mvI k e) (nwI k p.1) p.2) (fun p q hp hpq => ?_) hd ⟨by show e.toNat < C.length; omega, ?_⟩
  · obtain ⟨w, y, hy, eq⟩ := hpq
    rw [eq]
    obtain ⟨z, hz, hc⟩ := cor_f h hp.1 hy
    have hz0 := hin _ _ hp.2 z (List.mem_of_getElem? hz)
    rw [jm_len hk] at hz0
    have hst := hp.2.step hz
    rw [jm_at hk hp.1, mHd_jm] at hst
    rcases hc with ⟨e1, -⟩ | ⟨e1, e2, e3, e4, e5⟩
    · have hy0 : 0 ≤ y := by
        unfold mvI at e1
        split at e1 <;> omega
      have hzn : z.toNat = nwI k y.toNat := by rw [e1, mv_nw hy0]; omega
      rw [hzn] at hst
      refine ⟨?_, hst⟩
      show y.toNat < C.length
      rw [← nw_lt (n := C.length) hk, ← hzn]
      omega
    · have h1 : z.toNat = k + 1 := by omega
      rw [h1] at hst
      have h2 := hst.step (w := 0) (y := (k : Int) + 2) (by rw [ways_j hk]; rfl)
      rw [jm_j hk, mHd_j] at h2
      have h3 : ((k : Int) + 2).toNat = nwI k y.toNat := by
        unfold nwI
        rw [if_pos (by omega)]
        omega
      rw [h3] at h2
      refine ⟨?_, h2⟩
      show y.toNat < C.length
      have := h.lt
      omega
  · show Wy (HR enc (jmC k C)) _ _
    rw [mv_nw he.1]
    exact Wy.refl _ _
theorem jme_get {r : Nat} (hr : r < E.length) : (jmE k E).getD r 0 = mvI k (E.getD r 0) := by
  unfold jmE
  simp [List.getD, hr]
theorem same_jm (h : Apt k C) {i : Nat} (hi : i < C.length) {s t : St} : sameH enc (jmC k C) (nwI k i) s t = true ↔ sameH enc C i s t = true := by
  have hk : k < C.length := by have := h.lt; omega
  rw [sameH_iff, sameH_iff, (ways_cor h hi).1, jm_at hk hi]
  constructor
  · intro q w hw
    have := q w hw
    rwa [mHd_jm, mHd_jm] at this
  · intro q w hw
    rw [mHd_jm, mHd_jm]
    exact q w hw
theorem fs_jm (h : Apt k C) (hE : ∀ i, i < E.length → 0 ≤ E.getD i 0 ∧ E.getD i 0 < (C.length : Int)) : FsOk enc (jmC k C) (jmE k E) ↔ FsOk enc C E := by
  have hk : k < C.length := by have := h.lt; omega
  have hel : (jmE k E).length = E.length := by simp [jmE]
  have hwj : ∀ {i : Nat}, i < C.length → (Inn (jmC k C) (nwI k i) ↔ Inn C i) := fun {i} hi => by
    constructor
    · intro hin y hy
      obtain ⟨w, hw⟩ := List.mem_iff_getElem?.1 hy
      obtain ⟨z, hz, hc⟩ := cor_f h hi hw
      have h1 := hin z (List.mem_of_getElem? hz)
      rw [jm_len hk] at h1
      have := h.lt
      rcases hc with ⟨e1, -⟩ | ⟨e1, e2, e3, e4, e5⟩
      · unfold mvI at e1
        split at e1 <;> omega
      · omega
    · intro hin z hz
      obtain ⟨w, hw⟩ := List.mem_iff_getElem?.1 hz
      obtain ⟨y, hy, hc⟩ := cor_b h hi hw
      have h1 := hin y (List.mem_of_getElem? hy)
      rw [jm_len hk]
      rcases hc with ⟨e1, -⟩ | ⟨e1, e2, e3, e4, e5⟩
      · unfold mvI at e1
        split at e1 <;> omega
      · omega
  constructor
  · intro hF
    have hf : ∀ r, r < E.length → ∀ i s, Hd enc C (E.getD r 0) i s → i < C.length ∧ Hd enc (jmC k C) ((jmE k E).getD r 0) (nwI k i) s := fun r hr i s hd => by
      rw [jme_get hr]
      refine hd_fwd h (hE r hr) (fun j t hj => ?_) hd
      rw [← jme_get hr] at hj
      exact (hF.st r j t (by omega) hj).2
    refine ⟨fun r i s hr hd => ?_, fun q r i s t hq hr hs ht => ?_⟩
    · obtain ⟨h1, h2⟩ := hf r hr i s hd
      obtain ⟨h3, h4⟩ := hF.st r _ _ (by omega) h2
      rw [jm_at hk h1, mSt_jm] at h3
      exact ⟨h3, (hwj h1).1 h4⟩
    · obtain ⟨h1, h2⟩ := hf q hq i s hs
      obtain ⟨-, h3⟩ := hf r hr i t ht
      exact (same_jm h h1).1 (hF.sm q r _ _ _ (by omega) (by omega) h2 h3)
  · intro hF
    have hb : ∀ r, r < E.length → ∀ j s, Hd enc (jmC k C) ((jmE k E).getD r 0) j s → JQ enc k C (E.getD r 0) (j, s) := fun r hr j s hd => by
      rw [jme_get hr] at hd
      exact hd_back h (hE r hr) (fun i t hi => (hF.st r i t hr hi).2) hd
    refine ⟨fun r j s hr hd => ?_, fun q r j s t hq hr hs ht => ?_⟩
    · rcases hb r (by omega) j s hd with ⟨i, hi, e1, hd⟩ | ⟨e1, -⟩
      · have e1 : j = nwI k i := e1
        subst e1
        obtain ⟨h3, h4⟩ := hF.st r i s (by omega) hd
        rw [jm_at hk hi, mSt_jm]
        exact ⟨h3, (hwj hi).2 h4⟩
      · have e1 : j = k + 1 := e1
        subst e1
        rw [jm_j hk, mSt_j]
        refine ⟨rfl, fun y hy => ?_⟩
        rw [ways_j hk, List.mem_singleton] at hy
        rw [jm_len hk]
        have := h.lt
        omega
    · rcases hb q (by omega) j s hs with ⟨i, hi, e1, hd⟩ | ⟨e1, -, s0, hd, e2, e3⟩
      · have e1 : j = nwI k i := e1
        subst e1
        rcases hb r (by omega) _ t ht with ⟨i2, hi2, e2, hd2⟩ | ⟨e2, -⟩
        · have e2 := nw_inj e2
          subst e2
          exact (same_jm h hi).2 (hF.sm q r i s t (by omega) (by omega) hd hd2)
        · exact absurd e2 nw_not
      · have e1 : j = k + 1 := e1
        subst e1
        rcases hb r (by omega) _ t ht with ⟨i2, hi2, e4, -⟩ | ⟨-, -, t0, hd2, e4, -⟩
        · exact absurd e4.symm nw_not
        · have e5 := sameH_iff.1 (hF.sm q r k s0 t0 (by omega) (by omega) hd hd2) 0 (List.getElem?_eq_some_iff.1 e3).1
          have e2 : s = mHd enc s0 (inA C k) 0 := e2
          have e4 : t = mHd enc t0 (inA C k) 0 := e4
          have : s = t := by rw [e2, e4]; exact e5
          rw [this]
          exact sameH.refl _ _ _ _
end
end Go.Proofs.Ytiojpohmgjdgfaa
