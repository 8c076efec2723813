import Derived.Test.YtjamfbpdepahnaaGreatPart40
namespace Go.Proofs.YtjamfbpdepahnaaGreat
open Go.RowKit
set_option linter.unusedVariables false
set_option linter.unusedSimpArgs false
theorem addE_mem (k : Nat) : ∀ (ys : List Int) (U : List (List Int)), Stn U.length ys → ∀ i z, z ∈ uA (addE k ys U) i ↔ z ∈ uA U i ∨ (z = (k : Int) ∧ (i : Int) ∈ ys)
  | [], U, _, i, z => by simp [addE]
  | y :: ys, U, h, i, z => by
    have hy := h y (by simp)
    rw [addE, addE_mem k ys _ (by rw [List.length_set]; exact fun x hx => h x (by simp [hx])), uA_set U y.toNat _ (by omega)]
    by_cases e : i = y.toNat
    · rw [if_pos e]
      subst e
      rw [show ((y.toNat : Nat) : Int) = y by omega]
      constructor
      · rintro (a | ⟨a, -⟩)
        · rcases List.mem_append.1 a with a | a
          · exact .inl a
          · exact .inr ⟨List.mem_singleton.1 a, by simp⟩
        · exact .inr ⟨a, by simp⟩
      · rintro (a | ⟨a, -⟩)
        · exact .inl (List.mem_append.2 (.inl a))
        · exact .inl (List.mem_append.2 (.inr (List.mem_singleton.2 a)))
    · rw [if_neg e]
      have : ¬ (i : Int) = y := fun h => e (by omega)
      simp [this]
theorem revF_mem {ed : Nat → List Int} {S : List St} {n : Nat} (he : ∀ k, k < n → cameP S k = true → Stn n (ed k)) : ∀ (f j : Nat) (U : List (List Int)), j + f = n → U.length = n → (∀ i z, z ∈ uA U i ↔ ∃ q : Nat, z = (q : Int) ∧ q < j ∧ cameP S q = true ∧ (i : Int) ∈ ed q) →
    ∀ i z, z ∈ uA (revF ed S f j U) i ↔ ∃ q : Nat, z = (q : Int) ∧ q < n ∧ cameP S q = true ∧ (i : Int) ∈ ed q
  | 0, j, U, hj, hl, h, i, z => by
    have : j = n := by omega
    subst this
    exact h i z
  | f + 1, j, U, hj, hl, h, i, z => by
    rw [revF]
    by_cases hc : cameP S j = true
    · rw [if_pos hc]
      have hs := he j (by omega) hc
      refine revF_mem he f (j + 1) _ (by omega) (by rw [addE_len]; exact hl) (fun i z => ?_) i z
      rw [addE_mem j _ _ (by rw [hl]; exact hs), h]
      constructor
      · rintro (⟨q, a, b, c⟩ | ⟨a, b⟩)
        · exact ⟨q, a, by omega, c⟩
        · exact ⟨j, a, by omega, hc, b⟩
      · rintro ⟨q, a, b, c, d⟩
        by_cases e : q = j
        · subst e; exact .inr ⟨a, d⟩
        · exact .inl ⟨q, a, by omega, c, d⟩
    · rw [if_neg hc]
      refine revF_mem he f (j + 1) _ (by omega) hl (fun i z => ?_) i z
      rw [h]
      constructor
      · rintro ⟨q, a, b, c⟩; exact ⟨q, a, by omega, c⟩
      · rintro ⟨q, a, b, c, d⟩
        by_cases e : q = j
        · subst e; exact absurd c hc
        · exact ⟨q, a, by omega, c, d⟩
theorem uA_new (n i : Nat) : uA (List.replicate n []) i = [] := by
  unfold uA
  by_cases hk : i < n <;> simp [List.getD, hk]
theorem rev_mem {ed : Nat → List Int} {S : List St} {n : Nat} (he : ∀ k, k < n → cameP S k = true → Stn n (ed k)) (i : Nat) (z : Int) : z ∈ uA (revF ed S n 0 (List.replicate n [])) i ↔ ∃ q : Nat, z = (q : Int) ∧ q < n ∧ cameP S q = true ∧ (i : Int) ∈ ed q :=
  revF_mem he n 0 _ (by omega) (by simp) (fun i z => by
    rw [uA_new]
    constructor
    · intro h; cases h
    · rintro ⟨q, -, h, -⟩; omega) i z
def bareI (C : List In) (b : Bool) (k : Nat) : List Int :=
  if (inA C k).op = 1 ∨ (inA C k).op = 2 ∨ (inA C k).op = 3 ∨ (inA C k).op = 4 ∨ (inA C k).op = 7 ∨ (inA C k).op = 8 ∨ (inA C k).op = 10 then [] else
  if (33 ≤ (inA C k).op ∧ (inA C k).op ≤ 41) ∨ (44 ≤ (inA C k).op ∧ (inA C k).op ≤ 46) then [] else
  if (inA C k).op = 11 then [(inA C k).b] else
  if (inA C k).op = 17 ∧ (inA C k).a = -1 then [] else
  if (inA C k).op = 16 ∧ b = false then [] else waysP C k
theorem bareP_eq (C : List In) (E : List Int) (S : List St) (Q : List Bool) (k : Nat) : bareP C E S Q k = bareI C (idleP C E S Q k) k := rfl
theorem bareI_not {C : List In} {k : Nat} (b : Bool) (h : (inA C k).op ≠ 16) : bareI C b k = bareI C false k := by
  unfold bareI
  simp only [h, false_and, if_false]
theorem bareI_call {C : List In} {k : Nat} (h : (inA C k).op = 16) : bareI C false k = [] ∧ bareI C true k = waysP C k := by
  unfold bareI
  simp [h]
def beX (C : List In) (E : List Int) (X : Nat → Prop) (k : Nat) (y : Int) : Prop := y ∈ bareI C false k ∨ ((inA C k).op = 16 ∧ X (enA E (inA C k).c).toNat ∧ y ∈ waysP C k)
def qtStep (C : List In) (E : List Int) (X : Nat → Prop) (k : Nat) : Prop := (inA C k).op = 20 ∨ ∃ y, (((inA C k).op = 17 ∧ y ∈ waysP C k) ∨ ((inA C k).op ≠ 17 ∧ beX C E X k y)) ∧ X y.toNat
def Qt (C : List In) (E : List Int) (M : Nat → Prop) (k : Nat) : Prop := ∀ X : Nat → Prop, (∀ j, M j → qtStep C E X j → X j) → X k
theorem beX.mono {C : List In} {E : List Int} {X Y : Nat → Prop} (h : ∀ k, X k → Y k) {k : Nat} {y : Int} (hb : beX C E X k y) : beX C E Y k y := by
  rcases hb with h1 | ⟨h1, h2, h3⟩
  · exact .inl h1
  · exact .inr ⟨h1, h _ h2, h3⟩
theorem qtStep.mono {C : List In} {E : List Int} {X Y : Nat → Prop} (h : ∀ k, X k → Y k) {k : Nat} (hb : qtStep C E X k) : qtStep C E Y k := by
  rcases hb with h1 | ⟨y, h1, h2⟩
  · exact .inl h1
  · refine .inr ⟨y, ?_, h _ h2⟩
    rcases h1 with h1 | ⟨h1, h3⟩
    · exact .inl h1
    · exact .inr ⟨h1, h3.mono h⟩
theorem Qt.intro {C : List In} {E : List Int} {M : Nat → Prop} {k : Nat} (hm : M k) (h : qtStep C E (Qt C E M) k) : Qt C E M k := fun X hX => hX k hm (h.mono fun j hj => hj X hX)
theorem Qt.open {C : List In} {E : List Int} {M : Nat → Prop} {k : Nat} (h : Qt C E M k) : M k ∧ qtStep C E (Qt C E M) k :=
  h (fun k => M k ∧ qtStep C E (Qt C E M) k) (fun j hm hj => ⟨hm, hj.mono fun i hi => Qt.intro hi.1 hi.2⟩)
def beR (C : List In) (E : List Int) (M : Nat → Prop) (a b : Nat) : Prop := M a ∧ beX C E (Qt C E M) a (b : Int)
def idR (C : List In) (E : List Int) (M : Nat → Prop) (k : Nat) : Prop := (inA C k).op = 16 ∧ M k ∧ Qt C E M (enA E (inA C k).c).toNat
structure SlH (C : List In) (E : List Int) (S : List St) : Prop where
  n9 : C.length ≤ 1048576
  sl : S.length = C.length
  in_ : ∀ k, k < C.length → cameP S k = true → Stn C.length (waysP C k) ∧ ∀ y ∈ waysP C k, cameP S y.toNat = true
  cal : ∀ k, k < C.length → cameP S k = true → (inA C k).op = 16 → 0 ≤ enA E (inA C k).c ∧ enA E (inA C k).c < (C.length : Int)
  ent : ∀ e ∈ E, 0 ≤ e ∧ e < (C.length : Int) ∧ cameP S e.toNat = true
  src : ∀ k, cameP S k = true → ∃ e ∈ E, Wy (eR (edW C S)) e.toNat k
def cmP (S : List St) (k : Nat) : Prop := cameP S k = true
theorem came_ltS {C : List In} {E : List Int} {S : List St} (h : SlH C E S) {k : Nat} (hk : cameP S k = true) : k < C.length := by
  unfold cameP stA at hk
  by_cases hl : k < S.length
  · rw [h.sl] at hl; exact hl
  · simp [List.getD, List.getElem?_eq_none (by omega : S.length ≤ k), st0] at hk
theorem bareI_sub {C : List In} {b : Bool} {k : Nat} {y : Int} (hy : y ∈ bareI C b k) : y ∈ waysP C k := by
  unfold bareI at hy
  split at hy
  · cases hy
  split at hy
  · cases hy
  split at hy
  · rename_i h
    rw [List.mem_singleton] at hy
    unfold waysP
    simp [h, hy]
  split at hy
  · cases hy
  split at hy
  · cases hy
  · exact hy
theorem beX_way {C : List In} {E : List Int} {X : Nat → Prop} {k : Nat} {y : Int} (h : beX C E X k y) : y ∈ waysP C k := by
  rcases h with h | ⟨-, -, h⟩
  · exact bareI_sub h
  · exact h
theorem bareP_mem {C : List In} {E : List Int} {S : List St} {Q : List Bool} {k : Nat} (hc : cameP S k = true) (y : Int) : y ∈ bareP C E S Q k ↔ beX C E (fun j => qAt Q j = true) k y := by
  rw [bareP_eq]
  by_cases h16 : (inA C k).op = 16
  · obtain ⟨b1, b2⟩ := bareI_call h16
    unfold beX
    rw [b1]
    have hi : idleP C E S Q k = qAt Q (enA E (inA C k).c).toNat := by
      unfold idleP
      rw [hc, h16]
      rfl
    rw [hi]
    cases hq : qAt Q (enA E (inA C k).c).toNat with
    | true =>
      rw [b2]
      constructor
      · intro hy; exact .inr ⟨h16, hq, hy⟩
      · rintro (hy | ⟨-, -, hy⟩)
        · cases hy
        · exact hy
    | false =>
      rw [b1]
      constructor
      · intro hy; cases hy
      · rintro (hy | ⟨-, hy, -⟩)
        · cases hy
        · have hy : qAt Q (enA E (inA C k).c).toNat = true := hy
          rw [hq] at hy; cases hy
  · unfold beX
    rw [bareI_not _ h16]
    simp [h16]
theorem isqP_iff {C : List In} {E : List Int} {S : List St} {Q : List Bool} {k : Nat} (hc : cameP S k = true) : isqP C E S Q k = true ↔ qtStep C E (fun j => qAt Q j = true) k := by
  unfold isqP qtStep
  simp only [Bool.or_eq_true, beq_iff_eq, List.any_eq_true]
  by_cases h17 : (inA C k).op = 17
  · rw [if_pos h17]
    constructor
    · rintro (h | ⟨y, h1, h2⟩)
      · exact .inl h
      · exact .inr ⟨y, .inl ⟨h17, h1⟩, h2⟩
    · rintro (h | ⟨y, (⟨-, h1⟩ | ⟨h1, -⟩), h2⟩)
      · exact .inl h
      · exact .inr ⟨y, h1, h2⟩
      · exact absurd h17 h1
  · rw [if_neg h17]
    constructor
    · rintro (h | ⟨y, h1, h2⟩)
      · exact .inl h
      · exact .inr ⟨y, .inr ⟨h17, (bareP_mem hc y).1 h1⟩, h2⟩
    · rintro (h | ⟨y, (⟨h1, -⟩ | ⟨-, h1⟩), h2⟩)
      · exact .inl h
      · exact absurd h1 h17
      · exact .inr ⟨y, (bareP_mem hc y).2 h1, h2⟩
theorem retF_mem (C : List In) (S : List St) : ∀ (f j : Nat) (W : List Int) (z : Int), z ∈ retF C S f j W ↔ z ∈ W ∨ ∃ q : Nat, z = (q : Int) ∧ j ≤ q ∧ q < j + f ∧ (inA C q).op = 20 ∧ cameP S q = true
  | 0, j, W, z => by
    rw [retF]
    constructor
    · exact .inl
    · rintro (h | ⟨q, -, h1, h2, -⟩)
      · exact h
      · omega
  | f + 1, j, W, z => by
    rw [retF, retF_mem C S f (j + 1)]
    by_cases hc : (inA C j).op = 20 ∧ cameP S j = true
    · rw [if_pos hc]
      simp only [List.mem_append, List.mem_singleton]
      constructor
      · rintro ((h | h) | ⟨q, a, b, c, d⟩)
        · exact .inl h
        · exact .inr ⟨j, h, by omega, by omega, hc⟩
        · exact .inr ⟨q, a, by omega, by omega, d⟩
      · rintro (h | ⟨q, a, b, c, d⟩)
        · exact .inl (.inl h)
        · by_cases e : q = j
          · subst e; exact .inl (.inr a)
          · exact .inr ⟨q, a, by omega, by omega, d⟩
    · rw [if_neg hc]
      constructor
      · rintro (h | ⟨q, a, b, c, d⟩)
        · exact .inl h
        · exact .inr ⟨q, a, by omega, by omega, d⟩
      · rintro (h | ⟨q, a, b, c, d⟩)
        · exact .inl h
        · by_cases e : q = j
          · subst e; exact absurd d hc
          · exact .inr ⟨q, a, by omega, by omega, d⟩
theorem fq_sem {C : List In} {E : List Int} {S : List St} (h : SlH C E S) {us : Nat → List Int} (hus : ∀ k, k < C.length → Stn C.length (us k)) (husm : ∀ k (z : Int), z ∈ us k ↔ ∃ q : Nat, z = (q : Int) ∧ q < C.length ∧ cameP S q = true ∧ (k : Int) ∈ qbyP C E q) :
    ∀ (f : Nat) {wk : List Int} {Q : List Bool}, (∀ y ∈ wk, 0 ≤ y ∧ y < (C.length : Int) ∧ cameP S y.toNat = true) → Q.length = C.length → wk.length + tot us Q C.length < f → (∀ k, qAt Q k = true → Qt C E (cmP S) k) →
    (∀ k, cameP S k = true → qtStep C E (fun j => qAt Q j = true) k → qAt Q k = true ∨ (k : Int) ∈ wk) →
    ∀ k, qAt (fqF C E S us f wk Q) k = true ↔ Qt C E (cmP S) k
  | 0, wk, Q, _, _, h1, _, _ => by omega
  | f + 1, wk, Q, hw, hQl, hf, hs, hcp => by
    have husc : ∀ k, ∀ y ∈ us k, 0 ≤ y ∧ y < (C.length : Int) ∧ cameP S y.toNat = true := fun k y hy => by
      obtain ⟨q, a, b, c, d⟩ := (husm k y).1 hy
      subst a
      exact ⟨by omega, by omega, by simpa using c⟩
    rw [fqF]
    by_cases h0 : wk = []
    · rw [if_pos h0]
      subst h0
      intro k
      refine ⟨hs k, fun hq => ?_⟩
      refine hq (fun j => qAt Q j = true) (fun j hm hj => ?_)
      rcases hcp j hm hj with h1 | h1
      · exact h1
      · cases h1
    · rw [if_neg h0]
      have hl : 0 < wk.length := List.length_pos_iff.2 h0
      have hT := take_lastS h0
      obtain ⟨y, hy⟩ : ∃ y, hAt wk (wk.length - 1) = y := ⟨_, rfl⟩
      rw [hy] at hT ⊢
      have hyw : y ∈ wk := by rw [← hT]; simp
      obtain ⟨y1, y2, y3⟩ := hw y hyw
      have ht : (wk.take (wk.length - 1)).length = wk.length - 1 := by simp
      have hwt : ∀ z ∈ wk.take (wk.length - 1), 0 ≤ z ∧ z < (C.length : Int) ∧ cameP S z.toNat = true := fun z hz => hw z (List.mem_of_mem_take hz)
      have hmem : ∀ z ∈ wk, z ∈ wk.take (wk.length - 1) ∨ z = y := fun z hz => by
        rw [← hT] at hz
        rcases List.mem_append.1 hz with h | h
        · exact .inl h
        · exact .inr (List.mem_singleton.1 h)
      have hyn : y.toNat < C.length := by omega
      by_cases hq : (!qAt Q y.toNat && isqP C E S Q y.toNat) = true
      · rw [if_pos hq]
        rw [Bool.and_eq_true] at hq
        have hq1 : qAt Q y.toNat = false := by simpa using hq.1
        have hq2 := (isqP_iff y3).1 hq.2
        have h3 := tot_set us Q y.toNat (by omega) hq1 C.length hyn
        have hset : ∀ j, qAt (Q.set y.toNat true) j = if j = y.toNat then true else qAt Q j := qAt_set Q y.toNat (by omega)
        refine fq_sem h hus husm f (fun z hz => ?_) (by simp [hQl]) (by rw [List.length_append]; omega) (fun k hk => ?_) (fun k hc hk => ?_)
        · rcases List.mem_append.1 hz with h1 | h1
          · exact hwt z h1
          · exact husc _ z h1
        · rw [hset] at hk
          by_cases e : k = y.toNat
          · subst e
            exact Qt.intro y3 (hq2.mono hs)
          · rw [if_neg e] at hk
            exact hs k hk
        · by_cases hold : qtStep C E (fun j => qAt Q j = true) k
          · rcases hcp k hc hold with h1 | h1
            · left; rw [hset]; split
              · rfl
              · exact h1
            · rcases hmem _ h1 with h2 | h2
              · exact .inr (List.mem_append.2 (.inl h2))
              · left; rw [hset, if_pos (by omega)]
          · right
            refine List.mem_append.2 (.inr ((husm _ _).2 ⟨k, rfl, came_ltS h hc, hc, ?_⟩))
            have hnew : ∀ j, qAt (Q.set y.toNat true) j = true → qAt Q j = true ∨ j = y.toNat := fun j hj => by
              rw [hset] at hj
              by_cases e : j = y.toNat
              · exact .inr e
              · rw [if_neg e] at hj; exact .inl hj
            have hin := (h.in_ k (came_ltS h hc) hc).1
            have hye : ((y.toNat : Nat) : Int) = y := by omega
            rw [hye]
            have hway : ∀ z, z ∈ waysP C k → z.toNat = y.toNat → y ∈ qbyP C E k := fun z hz e => by
              have := hin z hz
              have e2 : z = y := by omega
              rw [← e2]
              unfold qbyP
              split
              · exact List.mem_append.2 (.inl hz)
              · exact hz
            rcases hk with h5 | ⟨z, h5, h6⟩
            · exact absurd (.inl h5) hold
            · rcases hnew _ h6 with h7 | h7
              · rcases h5 with h5 | ⟨h5, h8⟩
                · exact absurd (.inr ⟨z, .inl h5, h7⟩) hold
                · rcases h8 with h8 | ⟨h8, h9, h10⟩
                  · exact absurd (.inr ⟨z, .inr ⟨h5, .inl h8⟩, h7⟩) hold
                  · rcases hnew _ h9 with h11 | h11
                    · exact absurd (.inr ⟨z, .inr ⟨h5, .inr ⟨h8, h11, h10⟩⟩, h7⟩) hold
                    · have := h.cal k (came_ltS h hc) hc h8
                      have e2 : enA E (inA C k).c = y := by omega
                      unfold qbyP
                      rw [if_pos h8, e2]
                      simp
              · rcases h5 with ⟨-, h5⟩ | ⟨-, h8⟩
                · exact hway z h5 h7
                · exact hway z (beX_way h8) h7
      · rw [if_neg hq]
        refine fq_sem h hus husm f hwt hQl (by omega) hs (fun k hc hk => ?_)
        rcases hcp k hc hk with h1 | h1
        · exact .inl h1
        · rcases hmem _ h1 with h2 | h2
          · exact .inr h2
          · left
            have e : y.toNat = k := by omega
            rw [e] at hq
            have := (isqP_iff (Q := Q) (E := E) hc).2 hk
            rw [this, Bool.and_true] at hq
            simpa using hq
theorem retF_len (C : List In) (S : List St) : ∀ (f j : Nat) (W : List Int), (retF C S f j W).length ≤ W.length + f
  | 0, j, W => by simp [retF]
  | f + 1, j, W => by
    rw [retF]
    have := retF_len C S f (j + 1) (if (inA C j).op = 20 ∧ cameP S j = true then W ++ [(j : Int)] else W)
    have h2 : (if (inA C j).op = 20 ∧ cameP S j = true then W ++ [(j : Int)] else W).length ≤ W.length + 1 := by split <;> simp
    omega
theorem qu_sem {C : List In} {E : List Int} {S : List St} (h : SlH C E S) (k : Nat) : qAt (quP C E S) k = true ↔ Qt C E (cmP S) k := by
  have hqb : ∀ k, k < C.length → cameP S k = true → Stn C.length (qbyP C E k) := fun k hk hc y hy => by
    unfold qbyP at hy
    split at hy
    · rename_i h16
      rcases List.mem_append.1 hy with h1 | h1
      · exact (h.in_ k hk hc).1 y h1
      · rw [List.mem_singleton] at h1
        rw [h1]
        exact h.cal k hk hc h16
    · exact (h.in_ k hk hc).1 y hy
  have hm : ∀ k (z : Int), z ∈ usP C E S C.length k ↔ ∃ q : Nat, z = (q : Int) ∧ q < C.length ∧ cameP S q = true ∧ (k : Int) ∈ qbyP C E q := fun k z => rev_mem hqb k z
  have hr : ∀ z, z ∈ retF C S C.length 0 [] ↔ ∃ q : Nat, z = (q : Int) ∧ q < C.length ∧ (inA C q).op = 20 ∧ cameP S q = true := fun z => by
    rw [retF_mem]
    constructor
    · rintro (a | ⟨q, a, b, c, d⟩)
      · cases a
      · exact ⟨q, a, by omega, d⟩
    · rintro ⟨q, a, b, c⟩
      exact .inr ⟨q, a, by omega, by omega, c⟩
  unfold quP quietP
  have hrl : (retF C S C.length 0 []).length ≤ C.length := by
    have := retF_len C S C.length 0 []
    simpa using this
  refine fq_sem h (fun k hk y hy => ?_) hm _ (fun y hy => ?_) (by simp) (by omega) (fun k hk => by rw [qAt_rep] at hk; cases hk) (fun k hc hk => .inr ?_) k
  · obtain ⟨q, a, b, -⟩ := (hm k y).1 hy
    omega
  · obtain ⟨q, a, b, c, d⟩ := (hr y).1 hy
    subst a
    exact ⟨by omega, by omega, by simpa using d⟩
  · rw [hr]
    refine ⟨k, rfl, came_ltS h hc, ?_, hc⟩
    rcases hk with h1 | ⟨y, -, h1⟩
    · exact h1
    · have h1 : qAt (List.replicate C.length false) y.toNat = true := h1
      rw [qAt_rep] at h1
      cases h1
end Go.Proofs.YtjamfbpdepahnaaGreat
