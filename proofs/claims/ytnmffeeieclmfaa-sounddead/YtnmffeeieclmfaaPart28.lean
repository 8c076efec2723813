import Derived.Test.YtnmffeeieclmfaaPart27

/- sound, plain: what was come to stands; faults lie among the instructions. -/
namespace Go.Proofs.Ytnmffeeieclmfaa
open Go.RowKit
set_option linter.unusedVariables false
set_option linter.unusedSimpArgs false

/-- What has a state is pending, or stands in it. -/
def Std (enc : Bool) (C : List In) (S : List St) (P : List Int) : Prop := ∀ k, k < C.length → (stA S k).pl ≠ 0 → (k : Int) ∈ P ∨ ∃ r, mSt enc (stA S k) (inA C k) r = true
theorem handP_std {enc : Bool} {C : List In} {r : Int} {S : List St} {P : List Int} (hN : Pnd C.length S P) (h : Std enc C S P) {k : Nat} (hk : k < C.length) (s : St) : Std enc C (handP enc C r S P k s).2.1 (handP enc C r S P k s).2.2 := by
  unfold handP
  split
  · exact h
  split
  · intro j hj hp
    show (j : Int) ∈ pushH P (k : Int) ∨ ∃ r, mSt enc (stA (S.set k s) j) (inA C j) r = true
    rw [push_mem hN.hp]
    have hp : (stA (S.set k s) j).pl ≠ 0 := hp
    rw [stA_set (by rw [hN.len]; exact hk)] at hp ⊢
    by_cases e : j = k
    · exact .inl (.inl (by rw [e]))
    · rw [if_neg e] at hp ⊢
      rcases h j hj hp with h1 | h1
      · exact .inl (.inr h1)
      · exact .inr h1
  · exact h
theorem handsP_std {enc : Bool} {C : List In} {r : Int} {s : St} (hs : s.pl ≠ 0) (x : In) : ∀ (ws : List Int) (way : Nat) {S : List St} {P : List Int}, Pnd C.length S P → (∀ y ∈ ws, 0 ≤ y ∧ y < (C.length : Int)) → Std enc C S P → Std enc C (handsP enc C r s x ws way S P).2.1 (handsP enc C r s x ws way S P).2.2
  | [], _, S, P, _, _, h => h
  | n :: ws, way, S, P, hN, hw, h => by
    rw [handsP]
    have h1 := hw n (by simp)
    have hk : n.toNat < C.length := by omega
    split
    · exact handsP_std hs x ws (way + 1) (handP_ok (enc := enc) (r := r) hN hk (mHd_pl enc hs x _)).1 (fun y hy => hw y (by simp [hy])) (handP_std hN h hk _)
    · exact h
theorem handsP_rng {enc : Bool} {C : List In} {r : Int} {s : St} (x : In) : ∀ (ws : List Int) (way : Nat) (S : List St) (P : List Int), (∀ y ∈ ws, 0 ≤ y ∧ y < (C.length : Int)) → (handsP enc C r s x ws way S P).1 = 1048576 ∨ (0 ≤ (handsP enc C r s x ws way S P).1 ∧ (handsP enc C r s x ws way S P).1 < (C.length : Int))
  | [], _, S, P, _ => .inl rfl
  | n :: ws, way, S, P, hw => by
    rw [handsP]
    split
    · exact handsP_rng x ws (way + 1) _ _ (fun y hy => hw y (by simp [hy]))
    · exact .inr (hw n (by simp))
theorem lookP_rng {enc : Bool} {C : List In} {r : Int} (hW : WIn C) (S : List St) (P : List Int) {k : Nat} (hk : k < C.length) : (lookP enc C r S P k).1 = 1048576 ∨ (0 ≤ (lookP enc C r S P k).1 ∧ (lookP enc C r S P k).1 < (C.length : Int)) := by
  unfold lookP
  split
  · exact .inr ⟨by simp, by simp; omega⟩
  · rename_i hq
    refine handsP_rng _ _ _ _ _ (fun y hy => ?_)
    have h2 := hW _ hk y hy
    have h3 : y ≠ (C.length : Int) := fun e => hq (.inr (e ▸ hy))
    omega
theorem goP_rng {enc : Bool} {C : List In} {r : Int} (hW : WIn C) : ∀ (f : Nat) {S : List St} {P : List Int}, Pnd C.length S P → (goP enc C r f S P).1 = 1048576 ∨ (0 ≤ (goP enc C r f S P).1 ∧ (goP enc C r f S P).1 < (C.length : Int))
  | 0, S, P, _ => .inl rfl
  | f + 1, S, P, hN => by
    by_cases h0 : P = []
    · subst h0
      exact .inl (by rw [goP_nil])
    · rw [goP, if_neg h0]
      obtain ⟨q1, q2, q3, q4, q5⟩ := pop_ok hN h0
      have hk : (popH P).1.toNat < C.length := by omega
      by_cases hz : (lookP enc C r S (popH P).2 (popH P).1.toNat).1 = 1048576
      · rw [if_pos hz]
        exact goP_rng hW f (lookP_ok (enc := enc) (r := r) hW q1 hk q5).1
      · rw [if_neg hz]
        exact lookP_rng hW _ _ hk
theorem thruP_rng {enc : Bool} {C : List In} {r : Int} (hW : WIn C) {S : List St} (hN : Pnd C.length S []) {k : Nat} (hk : k < C.length) : (thruP enc C r S [] k).1 = 1048576 ∨ (0 ≤ (thruP enc C r S [] k).1 ∧ (thruP enc C r S [] k).1 < (C.length : Int)) := by
  unfold thruP
  split
  · exact goP_rng hW _ (handP_ok (enc := enc) (C := C) (r := r) hN hk (mBg_pl enc)).1
  · exact .inr ⟨by simp, by simp; omega⟩
theorem goP_std {enc : Bool} {C : List In} {r : Int} (hW : WIn C) (hn : C.length ≤ 1048576) : ∀ (f : Nat) {S : List St} {P : List Int}, Pnd C.length S P → msr S P < f → Std enc C S P → (goP enc C r f S P).1 = 1048576 → Std enc C (goP enc C r f S P).2.1 []
  | 0, S, P, _, h, _, _ => by omega
  | f + 1, S, P, hN, hm, hL, h1 => by
    by_cases h0 : P = []
    · subst h0
      rw [goP_nil]
      exact hL
    · rw [goP] at h1 ⊢
      rw [if_neg h0] at h1 ⊢
      have hl0 : 0 < P.length := List.length_pos_iff.2 h0
      obtain ⟨q1, q2, q3, q4, q5⟩ := pop_ok hN h0
      have hk : (popH P).1.toNat < C.length := by omega
      have l1 := lookP_ok (enc := enc) (r := r) hW q1 hk q5
      by_cases hz : (lookP enc C r S (popH P).2 (popH P).1.toNat).1 = 1048576
      · rw [if_pos hz] at h1 ⊢
        refine goP_std hW hn f l1.1 (by omega) ?_ h1
        unfold lookP at hz ⊢
        by_cases hq : mSt enc (stA S (popH P).1.toNat) (inA C (popH P).1.toNat) r = false ∨ (C.length : Int) ∈ waysP C (popH P).1.toNat
        · rw [if_pos hq] at hz
          have hz : ((popH P).1.toNat : Int) = 1048576 := hz
          omega
        · rw [if_neg hq]
          have hq2 : (C.length : Int) ∉ waysP C (popH P).1.toNat := fun e => hq (.inr e)
          have hq1 : mSt enc (stA S (popH P).1.toNat) (inA C (popH P).1.toNat) r = true := by
            cases hb : mSt enc (stA S (popH P).1.toNat) (inA C (popH P).1.toNat) r
            · exact absurd (.inl hb) hq
            · rfl
          refine handsP_std q5 _ _ _ q1 (fun y hy => ?_) (fun j hj hp => ?_)
          · have h2 := hW _ hk y hy
            have h3 : y ≠ (C.length : Int) := fun e => hq2 (e ▸ hy)
            omega
          · rcases hL j hj hp with h2 | h2
            · rcases pop_rest hN.hp hl0 h2 with h3 | h3
              · right
                rw [← h3, Int.toNat_natCast] at hq1
                exact ⟨r, hq1⟩
              · exact .inl h3
            · exact .inr h2
      · rw [if_neg hz] at h1
        exact absurd h1 hz
theorem thruP_std {enc : Bool} {C : List In} {r : Int} (hW : WIn C) (hC : CdOk enc C) {S : List St} (hl : S.length = C.length) (hN : Pnd C.length S []) (hL : Std enc C S []) {k : Nat} (hk : k < C.length) (h : (thruP enc C r S [] k).1 = 1048576) : Std enc C (thruP enc C r S [] k).2.1 [] := by
  unfold thruP at h ⊢
  by_cases hz : (handP enc C r S [] k (mBg enc)).1 = true
  · rw [if_pos hz] at h ⊢
    have h1 := handP_ok (enc := enc) (C := C) (r := r) hN hk (mBg_pl enc)
    refine goP_std hW hC.nc _ h1.1 ?_ (handP_std hN hL hk _) h
    have h2 : msr S [] ≤ 2 * C.length := by have := bare_le S; unfold msr; simp; omega
    have h3 := h1.2.1
    omega
  · rw [if_neg hz] at h
    have := hC.nc
    simp at h
    omega
theorem firstP_std {enc : Bool} {C : List In} (hW : WIn C) (hC : CdOk enc C) : ∀ (E : List Int) (r : Nat) {S : List St}, (∀ e ∈ E, 0 ≤ e ∧ e < (C.length : Int)) → S.length = C.length → Pnd C.length S [] → SAll S → Std enc C S [] → (firstP enc C E r S).1 = 1048576 → Std enc C (firstP enc C E r S).2 []
  | [], r, S, _, hl, _, hS, hL, _ => hL
  | e :: es, r, S, he, hl, hN, hS, hL, h => by
    have h1 := he e (by simp)
    have hk : e.toNat < C.length := by omega
    rw [firstP] at h ⊢
    by_cases hz : (thruP enc C (r : Int) S [] e.toNat).1 = 1048576
    · rw [if_pos hz] at h ⊢
      obtain ⟨f1, f2, f3⟩ := thruP_fin hW hC hl hN hS hk hz
      exact firstP_std hW hC es (r + 1) (fun y hy => he y (by simp [hy])) f2.len f2 f3 (thruP_std hW hC hl hN hL hk hz) h
    · rw [if_neg hz] at h
      exact absurd h hz
theorem firstP_rng {enc : Bool} {C : List In} (hW : WIn C) (hC : CdOk enc C) : ∀ (E : List Int) (r : Nat) {S : List St}, (∀ e ∈ E, 0 ≤ e ∧ e < (C.length : Int)) → S.length = C.length → Pnd C.length S [] → SAll S → (firstP enc C E r S).1 = 1048576 ∨ (0 ≤ (firstP enc C E r S).1 ∧ (firstP enc C E r S).1 < (C.length : Int))
  | [], r, S, _, hl, _, hS => .inl rfl
  | e :: es, r, S, he, hl, hN, hS => by
    have h1 := he e (by simp)
    have hk : e.toNat < C.length := by omega
    rw [firstP]
    by_cases hz : (thruP enc C (r : Int) S [] e.toNat).1 = 1048576
    · rw [if_pos hz]
      obtain ⟨f1, f2, f3⟩ := thruP_fin hW hC hl hN hS hk hz
      exact firstP_rng hW hC es (r + 1) (fun y hy => he y (by simp [hy])) f2.len f2 f3
    · rw [if_neg hz]
      exact thruP_rng hW hN hk
/-- None, or an instruction's number. -/
def Non (n : Nat) (v : Int) : Prop := 0 ≤ v ∧ (v = 1048576 ∨ v < (n : Int))
theorem setA_non {n j : Nat} (hj : j < n) : ∀ (fd L : List Int), (∀ v ∈ L, Non n v) → ∀ v ∈ setA L fd j, Non n v
  | [], L, h => h
  | x :: fd, L, h => by
    refine setA_non hj fd (L.set x.toNat (j : Int)) (fun v hv => ?_)
    rcases List.mem_or_eq_of_mem_set hv with h1 | h1
    · exact h v h1
    · rw [h1]; exact ⟨by omega, .inr (by omega)⟩
theorem ldF_non {ed : Nat → List Int} {ip : Nat → Bool} {n : Nat} : ∀ (f j : Nat) (s : List Bool) (L : List Int), j + f ≤ n → (∀ v ∈ L, Non n v) → ∀ v ∈ ldF ed ip n f j s L, Non n v
  | 0, j, s, L, _, h => h
  | f + 1, j, s, L, hj, h => by
    unfold ldF
    split
    · exact ldF_non f (j + 1) _ _ (by omega) (setA_non (by omega) _ _ h)
    · exact ldF_non f (j + 1) s L (by omega) h
theorem lsP_non {n : Nat} {rg : List Bool} {ld : List Int} {ip : Nat → Bool} (hl : ∀ k, k < n → ip k = true → k + 1 < ld.length) (hd : ∀ v ∈ ld, Non n v) : ∀ (fd : List Int) (l : Int), Stn n fd → n ≤ 1048576 → Non n l → Non n (fd.foldl (lsP rg ld ip) l)
  | [], l, _, _, h => h
  | x :: fd, l, hf, hn, h => by
    refine lsP_non hl hd fd _ (fun y hy => hf y (by simp [hy])) hn ?_
    have hx := hf x (by simp)
    have h1 : Non n (if qAt rg x.toNat = true then min l x else l) := by
      split
      · unfold Non at h ⊢
        omega
      · exact h
    unfold lsP
    split
    · rename_i hi
      have h2 := hd _ (hAt_mem (hl x.toNat (by omega) hi))
      unfold Non at h1 h2 ⊢
      omega
    · exact h1
theorem seF_non {ed : Nat → List Int} {n : Nat} {rg : List Bool} {ld : List Int} {ip : Nat → Bool} (he : ∀ k, k < n → Stn n (ed k)) (hn : n ≤ 1048576) (hll : ld.length = n) (hl : ∀ k, k < n → ip k = true → k + 1 < n) (hd : ∀ v ∈ ld, Non n v) : ∀ (E : List Int) (s : List Bool), Stn n E → s.length = n → Non n (seF ed n rg ld ip E s)
  | [], s, _, _ => ⟨by simp [seF], .inl rfl⟩
  | e :: es, s, hE, hs => by
    have h1 := hE e (by simp)
    obtain ⟨b1, b2, -⟩ := spF_ok he (tot ed s n + 2) [e] s [] (fun y hy => by rw [List.mem_singleton] at hy; rw [hy]; exact h1) hs (fun y hy => by cases hy)
    rw [seF]
    split
    · exact lsP_non (fun k hk h => by rw [hll]; exact hl k hk h) hd _ _ b1 hn (hd _ (hAt_mem (by rw [hll]; omega)))
    · exact seF_non he hn hll hl hd es _ (fun y hy => hE y (by simp [hy])) b2
theorem ldF_len {ed : Nat → List Int} {ip : Nat → Bool} {n : Nat} : ∀ (f j : Nat) (s : List Bool) (L : List Int), (ldF ed ip n f j s L).length = L.length
  | 0, j, s, L => rfl
  | f + 1, j, s, L => by
    unfold ldF
    split
    · rw [ldF_len f, setA_len]
    · exact ldF_len f (j + 1) s L
/-- A fault of a program that has its form. -/
theorem vf_rng {enc : Bool} {C : List In} {E : List Int} (hK : Chk enc C E) : vfP enc C E = (0, 0) ∨ ((vfP enc C E).1 = 150 ∧ 0 ≤ (vfP enc C E).2 ∧ (vfP enc C E).2 < (C.length : Int)) := by
  have hE : ∀ e ∈ E, 0 ≤ e ∧ e < (C.length : Int) := fun e he => by
    obtain ⟨i, hi, rfl⟩ := List.mem_iff_getElem.1 he
    have := hK.ent i hi
    simpa [List.getD, hi] using this
  have hc : (chk enc C E).1 = 0 := by rw [chk_ok.2 hK]
  unfold vfP
  rw [if_neg (fun h => h hc)]
  split
  · rename_i h1
    rcases firstP_rng (S := List.replicate C.length st0) hK.win hK.cdok E 0 hE (by simp) (pnd_new _ _ (by simp)) (SAll.new _) with h2 | h2
    · exact absurd h2 h1
    · exact .inr ⟨rfl, h2⟩
  split
  · rename_i h1 h2
    have h1 : (firstP enc C E 0 (List.replicate C.length st0)).1 = 1048576 := Decidable.not_not.1 h1
    obtain ⟨-, a2, a3, a4⟩ := firstP_all hK h1
    have hN : Non C.length (secondP C E (stP enc C E)) := by
      unfold secondP
      refine seF_non (fun k hk y hy => ?_) hK.nc ?_ (fun k hk h => idle_next (fun hc => (a3 k hk hc).1) h) ?_ E _ hE (by simp)
      · unfold edW at hy
        split at hy
        · rename_i hc
          exact (a3 k hk hc).1 y hy
        · cases hy
      · unfold ldP
        rw [ldF_len]
        simp
      · unfold ldP
        refine ldF_non _ _ _ _ (by omega) (fun v hv => ?_)
        rw [List.eq_of_mem_replicate hv]
        exact ⟨by omega, .inl rfl⟩
    refine .inr ⟨rfl, hN.1, ?_⟩
    rcases hN.2 with h3 | h3
    · exact absurd h3 h2
    · exact h3
  · exact .inl rfl
/-- In a program that is taken: what was come to stands in its state. -/
theorem taken_std {enc : Bool} {C : List In} {E : List Int} (hK : Chk enc C E) (h : (firstP enc C E 0 (List.replicate C.length st0)).1 = 1048576) : ∀ k, k < C.length → cameP (stP enc C E) k = true → ∃ r, mSt enc (stA (stP enc C E) k) (inA C k) r = true := by
  have hz : ∀ k, (stA (List.replicate C.length st0) k).pl = 0 := fun k => by
    unfold stA
    by_cases hk : k < C.length <;> simp [List.getD, hk, st0]
  have hE : ∀ e ∈ E, 0 ≤ e ∧ e < (C.length : Int) := fun e he => by
    obtain ⟨i, hi, rfl⟩ := List.mem_iff_getElem.1 he
    have := hK.ent i hi
    simpa [List.getD, hi] using this
  have h1 := firstP_std hK.win hK.cdok E 0 hE (by simp) (pnd_new _ _ (by simp)) (SAll.new _) (fun k hk hp => absurd (hz k) hp) h
  intro k hk hc
  have h4 : (stA (stP enc C E) k).pl ≠ 0 := by
    unfold cameP at hc
    simpa using hc
  rcases h1 k hk h4 with h5 | h5
  · cases h5
  · exact h5
end Go.Proofs.Ytnmffeeieclmfaa

/- sound, plain: the first look reads only what it comes to: a program that is the same there, with more behind. -/
namespace Go.Proofs.Ytnmffeeieclmfaa
open Go.RowKit
set_option linter.unusedVariables false
set_option linter.unusedSimpArgs false

/-- The same at what has a state. -/
def Agr (C C' : List In) (S : List St) : Prop := ∀ k, k < C.length → (stA S k).pl ≠ 0 → inA C' k = inA C k ∧ waysP C' k = waysP C k
theorem Agr.of {C C' : List In} {S S' : List St} (h : Agr C C' S') (hk : Kpp S S') : Agr C C' S := fun k h1 h2 => h k h1 (hk k h2)
theorem stA_tl (S : List St) (m k : Nat) : stA (S ++ List.replicate m st0) k = stA S k := by
  unfold stA
  by_cases h : k < S.length
  · simp only [List.getD, List.getElem?_append_left h]
  · have h := Nat.le_of_not_lt h
    have h1 : S[k]? = none := List.getElem?_eq_none h
    simp only [List.getD, List.getElem?_append_right h, h1, List.getElem?_replicate]
    split <;> rfl
theorem handP_tl {enc : Bool} {C C' : List In} {r : Int} {S : List St} {P : List Int} {m k : Nat} {s : St} (hk : k < S.length) (ha : (stA S k).pl ≠ 0 → inA C' k = inA C k ∧ waysP C' k = waysP C k) : handP enc C' r (S ++ List.replicate m st0) P k s = ((handP enc C r S P k s).1, (handP enc C r S P k s).2.1 ++ List.replicate m st0, (handP enc C r S P k s).2.2) := by
  unfold handP
  rw [stA_tl]
  by_cases h1 : stEq (stA S k) s = true
  · rw [if_pos h1, if_pos h1]
  · rw [if_neg h1, if_neg h1]
    by_cases h2 : (stA S k).pl = 0
    · rw [if_pos h2, if_pos h2, List.set_append_left _ _ hk]
    · rw [if_neg h2, if_neg h2]
      obtain ⟨a1, a2⟩ := ha h2
      unfold sameH
      rw [a1, a2]
theorem handsP_cons (enc : Bool) (C : List In) (r : Int) (s : St) (x : In) (n : Int) (ws : List Int) (way : Nat) (S : List St) (P : List Int) : handsP enc C r s x (n :: ws) way S P = if (handP enc C r S P n.toNat (mHd enc s x (way : Int))).1 then handsP enc C r s x ws (way + 1) (handP enc C r S P n.toNat (mHd enc s x (way : Int))).2.1 (handP enc C r S P n.toNat (mHd enc s x (way : Int))).2.2 else (n, S, P) := by rw [handsP]
theorem handsP_tl {enc : Bool} {C C' : List In} {r : Int} {s : St} {m : Nat} (hn : C.length ≤ 1048576) (hs : s.pl ≠ 0) (x : In) : ∀ (ws : List Int) (way : Nat) {S : List St} {P : List Int}, Pnd C.length S P → (∀ y ∈ ws, 0 ≤ y ∧ y < (C.length : Int)) → Agr C C' (handsP enc C r s x ws way S P).2.1 → (handsP enc C r s x ws way S P).1 = 1048576 → handsP enc C' r s x ws way (S ++ List.replicate m st0) P = (1048576, (handsP enc C r s x ws way S P).2.1 ++ List.replicate m st0, (handsP enc C r s x ws way S P).2.2)
  | [], _, S, P, _, _, _, _ => rfl
  | n :: ws, way, S, P, hN, hw, ha, h => by
    have h1 := hw n (by simp)
    have hk : n.toNat < C.length := by omega
    have hK := (handsP_keep (enc := enc) (r := r) hn hs x (n :: ws) way hN hw).1
    have hA := ha.of hK
    rw [handsP_cons enc C] at ha h ⊢
    rw [handsP_cons enc C', handP_tl (C := C) (by rw [hN.len]; exact hk) (hA _ hk)]
    by_cases hz : (handP enc C r S P n.toNat (mHd enc s x (way : Int))).1 = true
    · rw [if_pos hz] at ha h ⊢
      rw [if_pos hz]
      exact handsP_tl hn hs x ws (way + 1) (handP_ok (enc := enc) (r := r) hN hk (mHd_pl enc hs x _)).1 (fun y hy => hw y (by simp [hy])) ha h
    · rw [if_neg hz] at h
      have h : n = 1048576 := h
      omega
theorem ways_end {enc : Bool} {C : List In} {r : Int} {S : List St} {P : List Int} {k : Nat} (hW : WIn C) (hn : C.length ≤ 1048576) (hk : k < C.length) (h : (lookP enc C r S P k).1 = 1048576) : mSt enc (stA S k) (inA C k) r = true ∧ (∀ y ∈ waysP C k, 0 ≤ y ∧ y < (C.length : Int)) ∧ lookP enc C r S P k = handsP enc C r (stA S k) (inA C k) (waysP C k) 0 S P := by
  unfold lookP at h ⊢
  by_cases hq : mSt enc (stA S k) (inA C k) r = false ∨ (C.length : Int) ∈ waysP C k
  · rw [if_pos hq] at h
    have h : (k : Int) = 1048576 := h
    omega
  · rw [if_neg hq]
    refine ⟨?_, fun y hy => ?_, rfl⟩
    · cases hb : mSt enc (stA S k) (inA C k) r
      · exact absurd (.inl hb) hq
      · rfl
    · have h2 := hW _ hk y hy
      have h3 : y ≠ (C.length : Int) := fun e => hq (.inr (e ▸ hy))
      omega
theorem lookP_kpp {enc : Bool} {C : List In} {r : Int} {S : List St} {P : List Int} {k : Nat} (hW : WIn C) (hn : C.length ≤ 1048576) (hN : Pnd C.length S P) (hk : k < C.length) (hs : (stA S k).pl ≠ 0) : Kpp S (lookP enc C r S P k).2.1 := by
  unfold lookP
  by_cases hq : mSt enc (stA S k) (inA C k) r = false ∨ (C.length : Int) ∈ waysP C k
  · rw [if_pos hq]
    exact Kpp.refl S
  · rw [if_neg hq]
    refine (handsP_keep (enc := enc) (r := r) hn hs _ _ 0 hN (fun y hy => ?_)).1
    have h2 := hW _ hk y hy
    have h3 : y ≠ (C.length : Int) := fun e => hq (.inr (e ▸ hy))
    omega
theorem lookP_tl {enc : Bool} {C C' : List In} {r : Int} {S : List St} {P : List Int} {m k : Nat} (hW : WIn C) (hn : C.length ≤ 1048576) (hL : C'.length = C.length + m) (hN : Pnd C.length S P) (hk : k < C.length) (hs : (stA S k).pl ≠ 0) (ha : Agr C C' (lookP enc C r S P k).2.1) (h : (lookP enc C r S P k).1 = 1048576) : lookP enc C' r (S ++ List.replicate m st0) P k = (1048576, (lookP enc C r S P k).2.1 ++ List.replicate m st0, (lookP enc C r S P k).2.2) := by
  obtain ⟨w1, w2, w3⟩ := ways_end hW hn hk h
  obtain ⟨a1, a2⟩ := ha.of (lookP_kpp hW hn hN hk hs) k hk hs
  rw [w3] at ha h ⊢
  unfold lookP
  rw [stA_tl, a1, a2, if_neg]
  · exact handsP_tl hn hs _ _ _ hN w2 ha h
  · rintro (e | e)
    · rw [w1] at e; cases e
    · have := (w2 _ e).2
      omega
theorem goP_kpp {enc : Bool} {C : List In} {r : Int} (hW : WIn C) (hn : C.length ≤ 1048576) : ∀ (f : Nat) {S : List St} {P : List Int}, Pnd C.length S P → Kpp S (goP enc C r f S P).2.1
  | 0, S, P, _ => Kpp.refl S
  | f + 1, S, P, hN => by
    by_cases h0 : P = []
    · subst h0
      rw [goP_nil]
      exact Kpp.refl S
    · rw [goP, if_neg h0]
      obtain ⟨q1, q2, q3, q4, q5⟩ := pop_ok hN h0
      have hk : (popH P).1.toNat < C.length := by omega
      have k1 := lookP_kpp (enc := enc) (r := r) hW hn q1 hk q5
      by_cases hz : (lookP enc C r S (popH P).2 (popH P).1.toNat).1 = 1048576
      · rw [if_pos hz]
        exact k1.trans (goP_kpp hW hn f (lookP_ok (enc := enc) (r := r) hW q1 hk q5).1)
      · rw [if_neg hz]
        exact k1
theorem goP_succ (enc : Bool) (C : List In) (r : Int) (f : Nat) (S : List St) {P : List Int} (h0 : P ≠ []) : goP enc C r (f + 1) S P = if (lookP enc C r S (popH P).2 (popH P).1.toNat).1 = 1048576 then goP enc C r f (lookP enc C r S (popH P).2 (popH P).1.toNat).2.1 (lookP enc C r S (popH P).2 (popH P).1.toNat).2.2 else lookP enc C r S (popH P).2 (popH P).1.toNat := by rw [goP, if_neg h0]
theorem goP_tl {enc : Bool} {C C' : List In} {r : Int} {m : Nat} (hW : WIn C) (hn : C.length ≤ 1048576) (hL : C'.length = C.length + m) : ∀ (f : Nat) {S : List St} {P : List Int}, Pnd C.length S P → Agr C C' (goP enc C r f S P).2.1 → (goP enc C r f S P).1 = 1048576 → goP enc C' r f (S ++ List.replicate m st0) P = (1048576, (goP enc C r f S P).2.1 ++ List.replicate m st0, (goP enc C r f S P).2.2)
  | 0, S, P, _, _, _ => rfl
  | f + 1, S, P, hN, ha, h => by
    by_cases h0 : P = []
    · subst h0
      rw [goP_nil, goP_nil]
    · rw [goP_succ enc C r f S h0] at ha h ⊢
      rw [goP_succ enc C' r f _ h0]
      obtain ⟨q1, q2, q3, q4, q5⟩ := pop_ok hN h0
      have hk : (popH P).1.toNat < C.length := by omega
      by_cases hz : (lookP enc C r S (popH P).2 (popH P).1.toNat).1 = 1048576
      · rw [if_pos hz] at ha h ⊢
        have l1 := (lookP_ok (enc := enc) (r := r) hW q1 hk q5).1
        rw [lookP_tl hW hn hL q1 hk q5 (ha.of (goP_kpp hW hn f l1)) hz, if_pos rfl]
        exact goP_tl hW hn hL f l1 ha h
      · rw [if_neg hz] at h
        exact absurd h hz
theorem thruP_kpp {enc : Bool} {C : List In} {r : Int} (hW : WIn C) (hn : C.length ≤ 1048576) {S : List St} (hN : Pnd C.length S []) {k : Nat} (hk : k < C.length) : Kpp S (thruP enc C r S [] k).2.1 := by
  unfold thruP
  by_cases hz : (handP enc C r S [] k (mBg enc)).1 = true
  · rw [if_pos hz]
    exact (handP_keep (enc := enc) (C := C) (r := r) (by rw [hN.len]; exact hk) (mBg_pl enc)).1.trans (goP_kpp hW hn _ (handP_ok (enc := enc) (C := C) (r := r) hN hk (mBg_pl enc)).1)
  · rw [if_neg hz]
    exact Kpp.refl S
theorem thruP_tl {enc : Bool} {C C' : List In} {r : Int} {m : Nat} (hW : WIn C) (hn : C.length ≤ 1048576) (hL : C'.length = C.length + m) {S : List St} (hN : Pnd C.length S []) {k : Nat} (hk : k < C.length) (ha : Agr C C' (thruP enc C r S [] k).2.1) (h : (thruP enc C r S [] k).1 = 1048576) : thruP enc C' r (S ++ List.replicate m st0) [] k = (1048576, (thruP enc C r S [] k).2.1 ++ List.replicate m st0, (thruP enc C r S [] k).2.2) := by
  have hA := ha.of (thruP_kpp hW hn hN hk)
  unfold thruP at ha h ⊢
  rw [handP_tl (C := C) (by rw [hN.len]; exact hk) (hA k hk)]
  by_cases hz : (handP enc C r S [] k (mBg enc)).1 = true
  · rw [if_pos hz] at ha h ⊢
    rw [if_pos hz]
    have h1 := handP_ok (enc := enc) (C := C) (r := r) hN hk (mBg_pl enc)
    have h2 : msr S [] ≤ 2 * C.length := by have := bare_le S; have := hN.len; unfold msr; simp; omega
    have h3 := h1.2.1
    have hf := goP_fuel (enc := enc) (r := r) hW (2 * C.length + 2) (2 * C'.length + 2) h1.1 (by omega) (by omega)
    rw [hf] at ha h ⊢
    exact goP_tl hW hn hL _ h1.1 ha h
  · rw [if_neg hz] at h
    have h : (k : Int) = 1048576 := h
    omega
theorem firstP_cons (enc : Bool) (C : List In) (e : Int) (es : List Int) (r : Nat) (S : List St) : firstP enc C (e :: es) r S = if (thruP enc C (r : Int) S [] e.toNat).1 = 1048576 then firstP enc C es (r + 1) (thruP enc C (r : Int) S [] e.toNat).2.1 else ((thruP enc C (r : Int) S [] e.toNat).1, []) := by rw [firstP]
theorem firstP_kpp {enc : Bool} {C : List In} (hW : WIn C) (hC : CdOk enc C) : ∀ (E : List Int) (r : Nat) {S : List St}, (∀ e ∈ E, 0 ≤ e ∧ e < (C.length : Int)) → S.length = C.length → Pnd C.length S [] → SAll S → (firstP enc C E r S).1 = 1048576 → Kpp S (firstP enc C E r S).2
  | [], r, S, _, _, _, _, _ => Kpp.refl S
  | e :: es, r, S, he, hl, hN, hS, h => by
    have h1 := he e (by simp)
    have hk : e.toNat < C.length := by omega
    rw [firstP_cons] at h ⊢
    by_cases hz : (thruP enc C (r : Int) S [] e.toNat).1 = 1048576
    · rw [if_pos hz] at h ⊢
      obtain ⟨f1, f2, f3⟩ := thruP_fin hW hC hl hN hS hk hz
      exact (thruP_kpp hW hC.nc hN hk).trans (firstP_kpp hW hC es (r + 1) (fun y hy => he y (by simp [hy])) f2.len f2 f3 h)
    · rw [if_neg hz] at h
      exact absurd h hz
theorem firstP_tl {enc : Bool} {C C' : List In} {m : Nat} (hW : WIn C) (hC : CdOk enc C) (hL : C'.length = C.length + m) : ∀ (E : List Int) (r : Nat) {S : List St}, (∀ e ∈ E, 0 ≤ e ∧ e < (C.length : Int)) → S.length = C.length → Pnd C.length S [] → SAll S → Agr C C' (firstP enc C E r S).2 → (firstP enc C E r S).1 = 1048576 → firstP enc C' E r (S ++ List.replicate m st0) = (1048576, (firstP enc C E r S).2 ++ List.replicate m st0)
  | [], r, S, _, _, _, _, _, _ => rfl
  | e :: es, r, S, he, hl, hN, hS, ha, h => by
    have h1 := he e (by simp)
    have hk : e.toNat < C.length := by omega
    rw [firstP_cons enc C] at ha h ⊢
    rw [firstP_cons enc C']
    by_cases hz : (thruP enc C (r : Int) S [] e.toNat).1 = 1048576
    · rw [if_pos hz] at ha h ⊢
      obtain ⟨f1, f2, f3⟩ := thruP_fin hW hC hl hN hS hk hz
      have hE : ∀ y ∈ es, 0 ≤ y ∧ y < (C.length : Int) := fun y hy => he y (by simp [hy])
      rw [thruP_tl hW hC.nc hL hN hk (ha.of (firstP_kpp hW hC es (r + 1) hE f2.len f2 f3 h)) hz, if_pos rfl]
      exact firstP_tl hW hC hL es (r + 1) hE f2.len f2 f3 ha h
    · rw [if_neg hz] at h
      exact absurd h hz
/-- The first look over such a program. -/
theorem first_tl {enc : Bool} {C C' : List In} {E : List Int} {m : Nat} (hK : Chk enc C E) (hL : C'.length = C.length + m) (h : (firstP enc C E 0 (List.replicate C.length st0)).1 = 1048576) (ha : Agr C C' (stP enc C E)) : firstP enc C' E 0 (List.replicate C'.length st0) = (1048576, stP enc C E ++ List.replicate m st0) := by
  have hE : ∀ e ∈ E, 0 ≤ e ∧ e < (C.length : Int) := fun e he => by
    obtain ⟨i, hi, rfl⟩ := List.mem_iff_getElem.1 he
    have := hK.ent i hi
    simpa [List.getD, hi] using this
  rw [hL, ← List.replicate_append_replicate]
  exact firstP_tl hK.win hK.cdok hL E 0 hE (by simp) (pnd_new _ _ (by simp)) (SAll.new _) ha h
end Go.Proofs.Ytnmffeeieclmfaa

/- sound, plain: the second look reads only what was come to: a program that is the same there, with more behind. -/
namespace Go.Proofs.Ytnmffeeieclmfaa
open Go.RowKit
set_option linter.unusedVariables false
set_option linter.unusedSimpArgs false

theorem cameP_tl (S : List St) (m : Nat) : cameP (S ++ List.replicate m st0) = cameP S := by
  funext k
  unfold cameP
  rw [stA_tl]
theorem came_lt {S : List St} {k : Nat} (h : cameP S k = true) : k < S.length := by
  refine Classical.byContradiction fun hk => ?_
  unfold cameP stA at h
  simp [List.getD, List.getElem?_eq_none (Nat.le_of_not_lt hk), st0] at h
theorem qAt_tl (Q : List Bool) (m k : Nat) : qAt (Q ++ List.replicate m false) k = qAt Q k := by
  unfold qAt
  by_cases h : k < Q.length
  · simp only [List.getD, List.getElem?_append_left h]
  · have h := Nat.le_of_not_lt h
    have h1 : Q[k]? = none := List.getElem?_eq_none h
    simp only [List.getD, List.getElem?_append_right h, h1, List.getElem?_replicate]
    split <;> rfl
theorem uA_tl (U : List (List Int)) (m k : Nat) : uA (U ++ List.replicate m []) k = uA U k := by
  unfold uA
  by_cases h : k < U.length
  · simp only [List.getD, List.getElem?_append_left h]
  · have h := Nat.le_of_not_lt h
    have h1 : U[k]? = none := List.getElem?_eq_none h
    simp only [List.getD, List.getElem?_append_right h, h1, List.getElem?_replicate]
    split <;> rfl
theorem hAt_tl {L W : List Int} {k : Nat} (h : k < L.length) : hAt (L ++ W) k = hAt L k := by
  unfold hAt
  simp only [List.getD, List.getElem?_append_left h]
/-- What both looks read is the same. -/
structure Dd (C C' : List In) (S : List St) (m : Nat) : Prop where
  len : S.length = C.length
  ln : C'.length = C.length + m
  ag : ∀ k, cameP S k = true → inA C' k = inA C k ∧ waysP C' k = waysP C k
  inn : ∀ k, cameP S k = true → Inn C k
  cls : ∀ k, cameP S k = true → ∀ y ∈ waysP C k, cameP S y.toNat = true
theorem idle_tl {C C' : List In} {E : List Int} {S : List St} {m : Nat} (h : Dd C C' S m) (Q : List Bool) : idleP C' E (S ++ List.replicate m st0) (Q ++ List.replicate m false) = idleP C E S Q := by
  funext k
  unfold idleP
  rw [cameP_tl, qAt_tl]
  cases hc : cameP S k
  · simp
  · rw [(h.ag k hc).1]
theorem bare_tl {C C' : List In} {E : List Int} {S : List St} {m : Nat} (h : Dd C C' S m) (Q : List Bool) {k : Nat} (hc : cameP S k = true) : bareP C' E (S ++ List.replicate m st0) (Q ++ List.replicate m false) k = bareP C E S Q k := by
  unfold bareP
  rw [idle_tl h, (h.ag k hc).1, (h.ag k hc).2]
theorem qby_tl {C C' : List In} {E : List Int} {S : List St} {m : Nat} (h : Dd C C' S m) {k : Nat} (hc : cameP S k = true) : qbyP C' E k = qbyP C E k := by
  unfold qbyP
  rw [(h.ag k hc).1, (h.ag k hc).2]
theorem isq_tl {C C' : List In} {E : List Int} {S : List St} {m : Nat} (h : Dd C C' S m) (Q : List Bool) {k : Nat} (hc : cameP S k = true) : isqP C' E (S ++ List.replicate m st0) (Q ++ List.replicate m false) k = isqP C E S Q k := by
  unfold isqP
  rw [bare_tl h Q hc, (h.ag k hc).1, (h.ag k hc).2]
  simp only [qAt_tl]
theorem addE_tl (k m : Nat) : ∀ (ys : List Int) (U : List (List Int)), Stn U.length ys → addE k ys (U ++ List.replicate m []) = addE k ys U ++ List.replicate m []
  | [], U, _ => rfl
  | y :: ys, U, h => by
    have h1 := h y (by simp)
    rw [addE, addE, uA_tl, List.set_append_left _ _ (by omega)]
    exact addE_tl k m ys _ (by rw [List.length_set]; exact fun z hz => h z (by simp [hz]))
theorem revF_idle {ed : Nat → List Int} {S : List St} : ∀ (f j : Nat) (U : List (List Int)), (∀ i, j ≤ i → cameP S i = false) → revF ed S f j U = U
  | 0, j, U, _ => rfl
  | f + 1, j, U, h => by
    rw [revF, if_neg (by rw [h j (Nat.le_refl j)]; simp)]
    exact revF_idle f (j + 1) U (fun i hi => h i (by omega))
theorem came_ge {S : List St} {n j : Nat} (hS : S.length = n) (hj : n ≤ j) : ∀ i, j ≤ i → cameP S i = false := fun i hi => by
  cases hc : cameP S i
  · rfl
  · have := came_lt hc; omega
theorem revF_tl {ed ed' : Nat → List Int} {S : List St} {n m : Nat} (hS : S.length = n) (he : ∀ k, cameP S k = true → ed' k = ed k ∧ Stn n (ed k)) : ∀ (f j : Nat) (U : List (List Int)), n ≤ j + f → U.length = n → revF ed' (S ++ List.replicate m st0) (f + m) j (U ++ List.replicate m []) = revF ed S f j U ++ List.replicate m []
  | 0, j, U, hj, hU => by
    rw [revF_idle (0 + m) j _ (by rw [cameP_tl]; exact came_ge hS (by omega))]
    rfl
  | f + 1, j, U, hj, hU => by
    rw [show f + 1 + m = (f + m) + 1 by omega, revF, revF, cameP_tl]
    by_cases hc : cameP S j = true
    · rw [if_pos hc, if_pos hc, (he j hc).1, addE_tl j m _ _ (by rw [hU]; exact (he j hc).2)]
      exact revF_tl hS he f (j + 1) _ (by omega) (by rw [addE_len]; exact hU)
    · rw [if_neg hc, if_neg hc]
      exact revF_tl hS he f (j + 1) U (by omega) hU
theorem retF_idle {C : List In} {S : List St} : ∀ (f j : Nat) (W : List Int), (∀ i, j ≤ i → cameP S i = false) → retF C S f j W = W
  | 0, j, W, _ => rfl
  | f + 1, j, W, h => by
    rw [retF, if_neg (by rw [h j (Nat.le_refl j)]; simp)]
    exact retF_idle f (j + 1) W (fun i hi => h i (by omega))
theorem retF_tl {C C' : List In} {S : List St} {m : Nat} (h : Dd C C' S m) : ∀ (f j : Nat) (W : List Int), C.length ≤ j + f → retF C' (S ++ List.replicate m st0) (f + m) j W = retF C S f j W
  | 0, j, W, hj => by
    rw [retF_idle (0 + m) j _ (by rw [cameP_tl]; exact came_ge h.len (by omega))]
    rfl
  | f + 1, j, W, hj => by
    rw [show f + 1 + m = (f + m) + 1 by omega, retF, retF, cameP_tl]
    by_cases hc : cameP S j = true
    · rw [(h.ag j hc).1]
      exact retF_tl h f (j + 1) _ (by omega)
    · rw [if_neg (fun e => hc e.2), if_neg (fun e => hc e.2)]
      exact retF_tl h f (j + 1) W (by omega)
theorem fqF_succ (C : List In) (E : List Int) (S : List St) (us : Nat → List Int) (f : Nat) {wk : List Int} (Q : List Bool) (h0 : wk ≠ []) : fqF C E S us (f + 1) wk Q = if (!qAt Q (hAt wk (wk.length - 1)).toNat && isqP C E S Q (hAt wk (wk.length - 1)).toNat) = true then fqF C E S us f (wk.take (wk.length - 1) ++ us (hAt wk (wk.length - 1)).toNat) (Q.set (hAt wk (wk.length - 1)).toNat true) else fqF C E S us f (wk.take (wk.length - 1)) Q := by rw [fqF, if_neg h0]
theorem fqF_tl {C C' : List In} {E : List Int} {S : List St} {us : Nat → List Int} {m n : Nat} (hn : C.length = n) (h : Dd C C' S m) (hu : ∀ k, StC S n (us k)) : ∀ (f : Nat) (wk : List Int) (Q : List Bool), StC S n wk → Q.length = n → fqF C' E (S ++ List.replicate m st0) us f wk (Q ++ List.replicate m false) = fqF C E S us f wk Q ++ List.replicate m false
  | 0, wk, Q, _, _ => rfl
  | f + 1, wk, Q, hw, hQ => by
    by_cases h0 : wk = []
    · subst h0
      simp [fqF]
    · have hl : 0 < wk.length := List.length_pos_iff.2 h0
      obtain ⟨y1, y2, y3⟩ := hw _ (hAt_mem (l := wk) (i := wk.length - 1) (by omega))
      rw [fqF_succ _ _ _ _ _ _ h0, fqF_succ _ _ _ _ _ _ h0, qAt_tl, isq_tl h Q y3, List.set_append_left _ _ (by omega)]
      split
      · exact fqF_tl hn h hu f _ _ ((hw.take _).app (hu _)) (by rw [List.length_set]; exact hQ)
      · exact fqF_tl hn h hu f _ _ (hw.take _) hQ
theorem tot_app (ed : Nat → List Int) (s : List Bool) (m : Nat) : ∀ n, tot ed (s ++ List.replicate m false) n = tot ed s n
  | 0 => rfl
  | n + 1 => by rw [tot, tot, tot_app ed s m n, qAt_tl]
theorem tot_up (ed : Nat → List Int) (s : List Bool) (n : Nat) : ∀ m, tot ed s n ≤ tot ed s (n + m)
  | 0 => Nat.le_refl _
  | m + 1 => by
    have := tot_up ed s n m
    rw [show n + (m + 1) = (n + m) + 1 by omega, tot]
    omega
theorem tot_tl {ed : Nat → List Int} {n : Nat} (h : ∀ k, n ≤ k → ed k = []) (s : List Bool) : ∀ m, tot ed s (n + m) = tot ed s n
  | 0 => rfl
  | m + 1 => by
    rw [show n + (m + 1) = (n + m) + 1 by omega, tot, tot_tl h s m, h (n + m) (by omega)]
    split <;> rfl
theorem us_tl {enc : Bool} {C C' : List In} {E : List Int} {S : List St} {m : Nat} (hC : CeOk enc C E) (h : Dd C C' S m) : usP C' E (S ++ List.replicate m st0) (C.length + m) = usP C E S C.length := by
  funext k
  unfold usP
  rw [← List.replicate_append_replicate, revF_tl (ed := qbyP C E) h.len (fun j hc => ⟨qby_tl h hc, qby_in hC (by have := came_lt hc; have := h.len; omega) (h.inn j hc)⟩) _ _ _ (by omega) (by simp), uA_tl]
theorem us_in {enc : Bool} {C : List In} {E : List Int} {S : List St} (hC : CeOk enc C E) (hI : ∀ k, cameP S k = true → Inn C k) (k : Nat) : StC S C.length (usP C E S C.length k) := by
  obtain ⟨rU, rS, rM⟩ := revF_ok (ed := qbyP C E) (S := S) (n := C.length) (fun k hk hc => qby_in hC hk (hI k hc)) (fun k hk => qby_len hC hk) C.length 0 (List.replicate C.length []) (by omega) (by simp) (usr_new _ _ _)
  intro y hy
  unfold usP at hy
  obtain ⟨j, hj, e, hc, -⟩ := rM k y hy
  rw [e]
  exact ⟨by omega, by omega, by rw [Int.toNat_natCast]; exact hc⟩
/-- The quiet ones. -/
theorem qu_tl {enc : Bool} {C C' : List In} {E : List Int} {S : List St} {m : Nat} (hC : CeOk enc C E) (h : Dd C C' S m) : quP C' E (S ++ List.replicate m st0) = quP C E S ++ List.replicate m false := by
  obtain ⟨rW, rL⟩ := retF_ok (C := C) (S := S) (n := C.length) C.length 0 [] (by omega) (fun y hy => by cases hy) (by simp)
  unfold quP quietP
  rw [h.ln, us_tl hC h, ← List.replicate_append_replicate (n := C.length), retF_tl h _ _ _ (by omega), tot_app, fqF_tl rfl h (us_in hC h.inn) _ _ _ rW (by simp)]
  have := tot_up (usP C E S C.length) (List.replicate C.length false) C.length m
  rw [fqF_fuel (n := C.length) (fun k hk => (us_in hC h.inn k).stn) _ (C.length + tot (usP C E S C.length) (List.replicate C.length false) C.length + 2) rW.stn (by simp) (by omega) (by omega)]
theorem edB_tl {C C' : List In} {E : List Int} {S : List St} {m : Nat} (h : Dd C C' S m) (Q : List Bool) : edB C' E (S ++ List.replicate m st0) (Q ++ List.replicate m false) = edB C E S Q := by
  funext k
  unfold edB
  rw [cameP_tl]
  by_cases hc : cameP S k = true
  · rw [if_pos hc, if_pos hc, bare_tl h Q hc]
  · rw [if_neg hc, if_neg hc]
theorem edW_tl {C C' : List In} {S : List St} {m : Nat} (h : Dd C C' S m) : edW C' (S ++ List.replicate m st0) = edW C S := by
  funext k
  unfold edW
  rw [cameP_tl]
  by_cases hc : cameP S k = true
  · rw [if_pos hc, if_pos hc, (h.ag k hc).2]
  · rw [if_neg hc, if_neg hc]
theorem bk_tl {enc : Bool} {C C' : List In} {E : List Int} {S : List St} {m : Nat} (hC : CeOk enc C E) (h : Dd C C' S m) : uA (bkP C' E (S ++ List.replicate m st0)) = uA (bkP C E S) := by
  funext k
  unfold bkP
  rw [qu_tl hC h, h.ln, ← List.replicate_append_replicate, revF_tl (ed := bareP C E S (quP C E S)) h.len (fun j hc => ⟨bare_tl h _ hc, bare_in hC (by have := came_lt hc; have := h.len; omega) (h.inn j hc) S _⟩) _ _ _ (by omega) (by simp), uA_tl]
/-! ### Walks over more room -/
theorem spF_succ (ed : Nat → List Int) (f : Nat) {wk : List Int} (s : List Bool) (fd : List Int) (h0 : wk ≠ []) : spF ed (f + 1) wk s fd = if qAt s (hAt wk (wk.length - 1)).toNat then spF ed f (wk.take (wk.length - 1)) s fd else spF ed f (wk.take (wk.length - 1) ++ ed (hAt wk (wk.length - 1)).toNat) (s.set (hAt wk (wk.length - 1)).toNat true) (fd ++ [hAt wk (wk.length - 1)]) := by rw [spF, if_neg h0]
theorem Stn.app2 {n : Nat} {a c : List Int} (h : Stn n a) (k : Stn n c) : Stn n (a ++ c) := fun y hy => by
  rcases List.mem_append.1 hy with hy | hy
  · exact h y hy
  · exact k y hy
theorem Stn.take2 {n : Nat} {a : List Int} (h : Stn n a) (m : Nat) : Stn n (a.take m) := fun y hy => h y (List.mem_of_mem_take hy)
theorem spF_tl {ed : Nat → List Int} {n m : Nat} (he : ∀ k, k < n → Stn n (ed k)) : ∀ (f : Nat) (wk : List Int) (s : List Bool) (fd : List Int), Stn n wk → s.length = n → spF ed f wk (s ++ List.replicate m false) fd = ((spF ed f wk s fd).1, (spF ed f wk s fd).2 ++ List.replicate m false)
  | 0, wk, s, fd, _, _ => rfl
  | f + 1, wk, s, fd, hw, hs => by
    by_cases h0 : wk = []
    · subst h0
      simp [spF]
    · have hl : 0 < wk.length := List.length_pos_iff.2 h0
      obtain ⟨y1, y2⟩ := hw _ (hAt_mem (l := wk) (i := wk.length - 1) (by omega))
      rw [spF_succ ed f _ _ h0, spF_succ ed f s fd h0, qAt_tl, List.set_append_left _ _ (by omega)]
      by_cases hq : qAt s (hAt wk (wk.length - 1)).toNat = true
      · rw [if_pos hq, if_pos hq]
        exact spF_tl he f _ s fd (hw.take2 _) hs
      · rw [if_neg hq, if_neg hq]
        exact spF_tl he f _ _ _ ((hw.take2 _).app2 (he _ (by omega))) (by rw [List.length_set]; exact hs)
theorem fnF_succ (ed : Nat → List Int) (f : Nat) {wk : List Int} (s : List Bool) (o : List Int) (h0 : wk ≠ []) : fnF ed (f + 1) wk s o = if hAt wk (wk.length - 1) < 0 then fnF ed f (wk.take (wk.length - 1)) s (o ++ [-hAt wk (wk.length - 1) - 1]) else if qAt s (hAt wk (wk.length - 1)).toNat then fnF ed f (wk.take (wk.length - 1)) s o else fnF ed f (wk.take (wk.length - 1) ++ [-hAt wk (wk.length - 1) - 1] ++ ed (hAt wk (wk.length - 1)).toNat) (s.set (hAt wk (wk.length - 1)).toNat true) o := by rw [fnF, if_neg h0]
theorem Stm.take2 {n : Nat} {a : List Int} (h : Stm n a) (m : Nat) : Stm n (a.take m) := fun y hy => h y (List.mem_of_mem_take hy)
theorem fnF_tl {ed : Nat → List Int} {n m : Nat} (he : ∀ k, k < n → Stn n (ed k)) : ∀ (f : Nat) (wk : List Int) (s : List Bool) (o : List Int), Stm n wk → s.length = n → fnF ed f wk (s ++ List.replicate m false) o = ((fnF ed f wk s o).1 ++ List.replicate m false, (fnF ed f wk s o).2)
  | 0, wk, s, o, _, _ => rfl
  | f + 1, wk, s, o, hw, hs => by
    by_cases h0 : wk = []
    · subst h0
      simp [fnF]
    · have hl : 0 < wk.length := List.length_pos_iff.2 h0
      obtain ⟨y1, y2⟩ := hw _ (hAt_mem (l := wk) (i := wk.length - 1) (by omega))
      rw [fnF_succ ed f _ _ h0, fnF_succ ed f s o h0]
      by_cases hz : hAt wk (wk.length - 1) < 0
      · rw [if_pos hz, if_pos hz]
        exact fnF_tl he f _ s _ (hw.take2 _) hs
      rw [if_neg hz, if_neg hz, qAt_tl, List.set_append_left _ _ (by omega)]
      by_cases hq : qAt s (hAt wk (wk.length - 1)).toNat = true
      · rw [if_pos hq, if_pos hq]
        exact fnF_tl he f _ s o (hw.take2 _) hs
      · rw [if_neg hq, if_neg hq]
        refine fnF_tl he f _ _ _ (((hw.take2 _).app (fun y hy => ?_)).app (he _ (by omega)).stm) (by rw [List.length_set]; exact hs)
        rw [List.mem_singleton] at hy
        omega
theorem fnO_idle {ed : Nat → List Int} {S : List St} {n : Nat} : ∀ (f j : Nat) (s : List Bool) (o : List Int), (∀ i, j ≤ i → cameP S i = false) → fnO ed S n f j s o = o
  | 0, j, s, o, _ => rfl
  | f + 1, j, s, o, h => by
    rw [fnO, if_neg (by rw [h j (Nat.le_refl j)]; simp)]
    exact fnO_idle f (j + 1) s o (fun i hi => h i (by omega))
theorem fnO_tl {ed : Nat → List Int} {S : List St} {n m : Nat} (hS : S.length = n) (he : ∀ k, k < n → Stn n (ed k)) : ∀ (f j : Nat) (s : List Bool) (o : List Int), n ≤ j + f → s.length = n → Stn n o → fnO ed (S ++ List.replicate m st0) (n + m) (f + m) j (s ++ List.replicate m false) o = fnO ed S n f j s o
  | 0, j, s, o, hj, hs, _ => by
    rw [fnO_idle (0 + m) j _ _ (by rw [cameP_tl]; exact came_ge hS (by omega))]
    rfl
  | f + 1, j, s, o, hj, hs, ho => by
    rw [show f + 1 + m = (f + m) + 1 by omega, fnO, fnO, cameP_tl]
    by_cases hc : cameP S j = true
    · have hjn := came_lt hc
      have hw : Stm n [(j : Int)] := fun y hy => by rw [List.mem_singleton] at hy; omega
      have h1 := tot_up (ed1 ed) s n m
      rw [if_pos hc, if_pos hc, tot_app, fnF_tl he _ _ _ _ hw hs, fnF_fuel he (tot (ed1 ed) s (n + m) + 2) (tot (ed1 ed) s n + 2) hw hs (by simp; omega) (by simp; omega)]
      obtain ⟨b1, b2, -⟩ := fnF_ok he (tot (ed1 ed) s n + 2) [(j : Int)] s o hw hs ho
      exact fnO_tl hS he f (j + 1) _ _ (by omega) b2 b1
    · rw [if_neg hc, if_neg hc]
      exact fnO_tl hS he f (j + 1) s o (by omega) hs ho
theorem setB_tl (n m : Nat) : ∀ (fd : List Int) (r : List Bool), Stn n fd → r.length = n → setB (r ++ List.replicate m false) fd = setB r fd ++ List.replicate m false
  | [], r, _, _ => rfl
  | x :: fd, r, h, hr => by
    have h1 := h x (by simp)
    have := setB_tl n m fd (r.set x.toNat true) (fun y hy => h y (by simp [hy])) (by rw [List.length_set]; exact hr)
    unfold setB at this ⊢
    rw [List.foldl_cons, List.foldl_cons, List.set_append_left _ _ (by omega)]
    exact this
theorem rgS_tl {ed : Nat → List Int} {n m : Nat} (he : ∀ k, k < n → Stn n (ed k)) (h0 : ∀ k, n ≤ k → ed k = []) : ∀ (l : List Int) (p : List Bool × List Bool), Stn n l → p.1.length = n → p.2.length = n → l.foldl (rgS ed (n + m)) (p.1 ++ List.replicate m false, p.2 ++ List.replicate m false) = ((l.foldl (rgS ed n) p).1 ++ List.replicate m false, (l.foldl (rgS ed n) p).2 ++ List.replicate m false)
  | [], p, _, _, _ => rfl
  | x :: l, p, hl, h1, h2 => by
    have hw : Stn n [x] := fun y hy => by rw [List.mem_singleton] at hy; rw [hy]; exact hl x (by simp)
    obtain ⟨b1, b2, -⟩ := spF_ok he (tot ed p.2 n + 2) [x] p.2 [] hw h2 (fun y hy => by cases hy)
    have hst : rgS ed (n + m) (p.1 ++ List.replicate m false, p.2 ++ List.replicate m false) x = ((rgS ed n p x).1 ++ List.replicate m false, (rgS ed n p x).2 ++ List.replicate m false) := by
      unfold rgS
      simp only []
      rw [tot_app, tot_tl h0, spF_tl he _ _ _ _ hw h2]
      simp only []
      by_cases hq : (spF ed (tot ed p.2 n + 2) [x] p.2 []).1.length = 1 ∧ ¬ x ∈ ed x.toNat
      · rw [if_pos hq, if_pos hq]
      · rw [if_neg hq, if_neg hq, setB_tl n m _ _ b1 h1]
    have hl1 : (rgS ed n p x).1.length = n := by
      unfold rgS
      simp only []
      split
      · exact h1
      · rw [setB_len]; exact h1
    rw [List.foldl_cons, List.foldl_cons, hst]
    exact rgS_tl he h0 l _ (fun y hy => hl y (by simp [hy])) hl1 b2
theorem rgF_tl {ed : Nat → List Int} {n m : Nat} (he : ∀ k, k < n → Stn n (ed k)) (h0 : ∀ k, n ≤ k → ed k = []) {o : List Int} (ho : Stn n o) : rgF ed (n + m) o = rgF ed n o ++ List.replicate m false := by
  unfold rgF
  rw [← List.replicate_append_replicate, rgS_tl he h0 o.reverse (List.replicate n false, List.replicate n false) (fun y hy => ho y (List.mem_reverse.1 hy)) (by simp) (by simp)]
theorem setA_tl (n j : Nat) (W : List Int) : ∀ (fd L : List Int), Stn n fd → L.length = n → setA (L ++ W) fd j = setA L fd j ++ W
  | [], L, _, _ => rfl
  | x :: fd, L, h, hL => by
    have h1 := h x (by simp)
    have := setA_tl n j W fd (L.set x.toNat (j : Int)) (fun y hy => h y (by simp [hy])) (by rw [List.length_set]; exact hL)
    unfold setA at this ⊢
    rw [List.foldl_cons, List.foldl_cons, List.set_append_left _ _ (by omega)]
    exact this
theorem ldF_idle {ed : Nat → List Int} {ip : Nat → Bool} {n : Nat} : ∀ (f j : Nat) (s : List Bool) (L : List Int), (∀ i, j ≤ i → ip i = false) → ldF ed ip n f j s L = L
  | 0, j, s, L, _ => rfl
  | f + 1, j, s, L, h => by
    rw [ldF, if_neg (by rw [h j (Nat.le_refl j)]; simp)]
    exact ldF_idle f (j + 1) s L (fun i hi => h i (by omega))
theorem ldF_tl {ed : Nat → List Int} {ip : Nat → Bool} {n m : Nat} (he : ∀ k, k < n → Stn n (ed k)) (h0 : ∀ k, n ≤ k → ed k = []) (hi : ∀ i, n ≤ i → ip i = false) (W : List Int) : ∀ (f j : Nat) (s : List Bool) (L : List Int), n ≤ j + f → s.length = n → L.length = n → ldF ed ip (n + m) (f + m) j (s ++ List.replicate m false) (L ++ W) = ldF ed ip n f j s L ++ W
  | 0, j, s, L, hj, hs, hL => by
    rw [ldF_idle (0 + m) j _ _ (fun i h => hi i (by omega))]
    rfl
  | f + 1, j, s, L, hj, hs, hL => by
    rw [show f + 1 + m = (f + m) + 1 by omega, ldF, ldF]
    by_cases hc : ip j = true
    · have hjn : j < n := Classical.byContradiction fun h => by rw [hi j (by omega)] at hc; cases hc
      have hw : Stn n [(j : Int)] := fun y hy => by rw [List.mem_singleton] at hy; omega
      obtain ⟨b1, b2, -⟩ := spF_ok he (tot ed s n + 2) [(j : Int)] s [] hw hs (fun y hy => by cases hy)
      rw [if_pos hc, if_pos hc, tot_app, tot_tl h0, spF_tl he _ _ _ _ hw hs]
      simp only []
      rw [setA_tl n j W _ _ b1 hL]
      exact ldF_tl he h0 hi W f (j + 1) _ _ (by omega) b2 (by rw [setA_len]; exact hL)
    · rw [if_neg hc, if_neg hc]
      exact ldF_tl he h0 hi W f (j + 1) s L (by omega) hs hL
theorem ls_tl {n m : Nat} {rg : List Bool} {ld W : List Int} {ip : Nat → Bool} (hl : ld.length = n) (hi : ∀ k, ip k = true → k + 1 < n) : ∀ (fd : List Int) (l : Int), fd.foldl (lsP (rg ++ List.replicate m false) (ld ++ W) ip) l = fd.foldl (lsP rg ld ip) l
  | [], l => rfl
  | x :: fd, l => by
    have : lsP (rg ++ List.replicate m false) (ld ++ W) ip l x = lsP rg ld ip l x := by
      unfold lsP
      rw [qAt_tl]
      by_cases h : ip x.toNat = true
      · rw [if_pos h, if_pos h, hAt_tl (by rw [hl]; exact hi _ h)]
      · rw [if_neg h, if_neg h]
    rw [List.foldl_cons, List.foldl_cons, this]
    exact ls_tl hl hi fd _
theorem seF_tl {ed : Nat → List Int} {n m : Nat} {rg : List Bool} {ld W : List Int} {ip : Nat → Bool} (he : ∀ k, k < n → Stn n (ed k)) (h0 : ∀ k, n ≤ k → ed k = []) (hl : ld.length = n) (hi : ∀ k, ip k = true → k + 1 < n) : ∀ (E : List Int) (s : List Bool), Stn n E → s.length = n → seF ed (n + m) (rg ++ List.replicate m false) (ld ++ W) ip E (s ++ List.replicate m false) = seF ed n rg ld ip E s
  | [], s, _, _ => rfl
  | e :: es, s, hE, hs => by
    have h1 := hE e (by simp)
    have hw : Stn n [e] := fun y hy => by rw [List.mem_singleton] at hy; rw [hy]; exact h1
    obtain ⟨b1, b2, -⟩ := spF_ok he (tot ed s n + 2) [e] s [] hw hs (fun y hy => by cases hy)
    rw [seF, seF, tot_app, tot_tl h0, spF_tl he _ _ _ _ hw hs]
    simp only []
    rw [ls_tl hl hi, hAt_tl (by rw [hl]; omega), seF_tl he h0 hl hi es _ (fun y hy => hE y (by simp [hy])) b2]
/-- The second look over such a program. -/
theorem second_tl {enc : Bool} {C C' : List In} {E : List Int} {S : List St} {m : Nat} (hC : CeOk enc C E) (hE : Stn C.length E) (h : Dd C C' S m) : secondP C' E (S ++ List.replicate m st0) = secondP C E S := by
  have hB : ∀ k, k < C.length → Stn C.length (edB C E S (quP C E S) k) := fun k hk y hy => by
    unfold edB at hy
    split at hy
    · rename_i hc
      exact bare_in hC hk (h.inn k hc) S _ y hy
    · cases hy
  have hWy : ∀ k, k < C.length → Stn C.length (edW C S k) := fun k hk y hy => by
    unfold edW at hy
    split at hy
    · rename_i hc
      exact h.inn k hc y hy
    · cases hy
  have hW0 : ∀ k, C.length ≤ k → edW C S k = [] := fun k hk => by
    unfold edW
    rw [came_ge h.len (Nat.le_refl _) k hk]
    rfl
  obtain ⟨rU, rS, rM⟩ := revF_ok (ed := bareP C E S (quP C E S)) (S := S) (n := C.length) (fun k hk hc => bare_in hC hk (h.inn k hc) S _) (fun k hk => Nat.le_trans (bare_len (E := E) hC.cd hk S _) (by omega)) C.length 0 (List.replicate C.length []) (by omega) (by simp) (usr_new _ _ _)
  have hU : ∀ k, k < C.length → Stn C.length (uA (bkP C E S) k) := fun k _ y hy => by
    obtain ⟨j, hj, e, -, -⟩ := rM k y hy
    omega
  have hU0 : ∀ k, C.length ≤ k → uA (bkP C E S) k = [] := fun k hk => by
    have : (bkP C E S)[k]? = none := List.getElem?_eq_none (by unfold bkP; rw [rU]; exact hk)
    unfold uA
    simp [List.getD, this]
  have hip : ∀ k, idleP C E S (quP C E S) k = true → k + 1 < C.length := fun k hk => idle_next (h.inn k) hk
  have hi0 : ∀ i, C.length ≤ i → idleP C E S (quP C E S) i = false := fun i hi => by
    cases hc : idleP C E S (quP C E S) i
    · rfl
    · have := hip i hc; omega
  have hl : (ldP C E S).length = C.length := by unfold ldP; rw [ldF_len]; simp
  have hO := (fnO_ok (S := S) hB C.length 0 (List.replicate C.length false) [] (by omega) (by simp) (fun y hy => by cases hy)).1
  have hrg : rgP C' E (S ++ List.replicate m st0) = rgP C E S ++ List.replicate m false := by
    unfold rgP
    rw [bk_tl hC h, qu_tl hC h, edB_tl h, h.ln, ← List.replicate_append_replicate, fnO_tl h.len hB _ _ _ _ (by omega) (by simp) (fun y hy => by cases hy), rgF_tl hU hU0 hO]
  have hld : ldP C' E (S ++ List.replicate m st0) = ldP C E S ++ List.replicate m 1048576 := by
    unfold ldP
    rw [bk_tl hC h, qu_tl hC h, idle_tl h, h.ln, ← List.replicate_append_replicate, ← List.replicate_append_replicate, ldF_tl hU hU0 hi0 _ _ _ _ _ (by omega) (by simp) (by simp)]
  unfold secondP
  rw [hrg, hld, qu_tl hC h, idle_tl h, edW_tl h, h.ln, ← List.replicate_append_replicate, seF_tl hWy hW0 hl hip E _ hE (by simp)]
/-- Programs that are the same where a look comes to, the second one longer: taken alike, with the same states. -/
theorem dead_tl {enc : Bool} {C C' : List In} {E : List Int} {m : Nat} (hK : Chk enc C E) (hK' : Chk enc C' E) (hL : C'.length = C.length + m) (h : vfP enc C E = (0, 0)) (ha : Agr C C' (stP enc C E)) : vfP enc C' E = (0, 0) ∧ stP enc C' E = stP enc C E ++ List.replicate m st0 := by
  have hE : Stn C.length E := fun e he => by
    obtain ⟨i, hi, rfl⟩ := List.mem_iff_getElem.1 he
    have := hK.ent i hi
    simpa [List.getD, hi] using this
  have hc : (chk enc C E).1 = 0 := by rw [chk_ok.2 hK]
  have hc' : (chk enc C' E).1 = 0 := by rw [chk_ok.2 hK']
  unfold vfP at h
  rw [if_neg (fun e => e hc)] at h
  by_cases h1 : (firstP enc C E 0 (List.replicate C.length st0)).1 = 1048576
  · rw [if_neg (fun e => e h1)] at h
    by_cases h2 : secondP C E (stP enc C E) = 1048576
    · obtain ⟨a1, a2, a3, a4⟩ := firstP_all hK h1
      have hf := first_tl hK hL h1 ha
      have hs : stP enc C' E = stP enc C E ++ List.replicate m st0 := by
        unfold stP
        rw [hf]
        rfl
      refine ⟨?_, hs⟩
      have hlt : ∀ k, cameP (stP enc C E) k = true → k < C.length := fun k hk => by have := came_lt hk; omega
      have hD : Dd C C' (stP enc C E) m := ⟨a2, hL, fun k hk => ha k (hlt k hk) (by unfold cameP at hk; simpa using hk), fun k hk => (a3 k (hlt k hk) hk).1, fun k hk => (a3 k (hlt k hk) hk).2⟩
      unfold vfP
      rw [if_neg (fun e => e hc'), hf, if_neg (fun e => e rfl), hs, second_tl hK.ceok hE hD, if_neg (fun e => e h2)]
    · rw [if_pos h2] at h
      cases h
  · rw [if_pos h1] at h
    cases h
end Go.Proofs.Ytnmffeeieclmfaa

/- sound's laws: ints, the first calls, made. -/
namespace Go.Proofs.Ytnmffeeieclmfaa
open Go.RowKit
set_option linter.unusedVariables false
set_option linter.unusedSimpArgs false

set_option maxRecDepth 100000 in
set_option maxHeartbeats 4000000 in
theorem ints_any (a1 a2 : Option Addr) (c1 c2 : Nat) (l1 l2 : List Int) (w : World) (h1 : l1.length ≤ 9223372036854775807) (h2 : l2.length ≤ 9223372036854775807) (r1 : Hid (Row .i64 w a1 l1)) (r2 : Hid (Row .i64 w a2 l2)) :
    Calls Try.prog 11 #[.slice a1 l1.length c1, .slice a2 l2.length c2] w fun e w' => e = .returned (.bool (decide (l1 = l2))) ∧ Below w.heap.size w w' := by
  obtain ⟨R, hR⟩ : ∃ R, decide (l1 = l2) = R := ⟨_, rfl⟩
  rw [hR]
  have HR := hide_ hR
  clear hR
  by_cases hl : l1.length = l2.length
  · have hl' : ((l1.length : Int) != (l2.length : Int)) = false := by simp; omega
    have HL := hide_ hl
    go_enter Try.func11, Try.ntmps11
    go_wp2_with fail
    go_loopw [5] (fun x5 wr => ∃ i : Nat, i ≤ l1.length ∧ x5 = .int .i64 (i : Int) ∧ Hid (l1.take i = l2.take i) ∧ Hid (Below w.heap.size w wr)) (fun x5 _ => l1.length - (intOf x5).toNat)
    case atStart => exact ⟨0, Nat.zero_le _, rfl, hide_ rfl, hide_ (Below.refl _ _)⟩
    case round =>
      obtain ⟨i, hi, rfl, HT, HB⟩ := hrel
      generalize wr = wq at *
      by_cases hlt : i < l1.length
      · have hlt' : (i : Int) < l1.length := by omega
        have hlt2 : i < l2.length := by have := HL.out; omega
        have hlt2' : (i : Int) < l2.length := by omega
        obtain ⟨b1, o1, rfl, hb1, hc1⟩ := (r1.out.later HB.out).open (by omega)
        obtain ⟨b2, o2, rfl, hb2, hc2⟩ := (r2.out.later HB.out).open (by omega)
        have d1 := hc1 i hlt
        have d2 := hc2 i hlt2
        have e1 : l1.getD i 0 = l1[i]'hlt := by simp [List.getD, hlt]
        have e2 : l2.getD i 0 = l2[i]'hlt2 := by simp [List.getD, hlt2]
        have ht1 : l1.take (i + 1) = l1.take i ++ [l1[i]'hlt] := List.take_succ_eq_append_getElem hlt
        have ht2 : l2.take (i + 1) = l2.take i ++ [l2[i]'hlt2] := List.take_succ_eq_append_getElem hlt2
        rw [← e1] at ht1
        rw [← e2] at ht2
        generalize l1.getD i 0 = x at *
        generalize l2.getD i 0 = y at *
        have HT1 := hide_ ht1
        have HT2 := hide_ ht2
        clear hc1 hc2 ht1 ht2 e1 e2 hl
        have hdr : Hid (Below w.heap.size w wq.drew) := hide_ HB.out.drew
        by_cases he : x = y
        · have he' : (x != y) = false := by simp [he]
          have HT3 : Hid (l1.take (i + 1) = l2.take (i + 1)) := hide_ (by rw [HT1.out, HT2.out, HT.out, he])
          clear he
          go_wp2_with fail
          go_region
          go_wp2_with fail
          go_roundw
          case rel => exact ⟨i + 1, by omega, by go_num, HT3, hdr⟩
          case measure => simp [intOf]; omega
        · have he' : (x != y) = true := by simpa using he
          have HV : Hid (R = false) := hide_ (by
            rw [← HR.out]
            refine decide_eq_false fun e => he ?_
            have h1 := HT1.out
            rw [e, HT2.out, ← e, HT.out] at h1
            simpa using h1.symm)
          clear he
          go_wp2_with fail
          go_region
          go_wp2
          go_ret
          exact ⟨by rw [HV.out]; rfl, hdr.out⟩
      · obtain rfl : i = l1.length := by omega
        have HV : Hid (R = true) := hide_ (by
          rw [← HR.out]
          have h := HT.out
          rw [List.take_length, HL.out, List.take_length] at h
          exact decide_eq_true h)
        clear hl
        go_wp2
        go_ret
        exact ⟨by rw [HV.out]; rfl, HB.out⟩
  · have hl' : ((l1.length : Int) != (l2.length : Int)) = true := by simp; omega
    have HV : Hid (R = false) := hide_ (by rw [← HR.out]; exact decide_eq_false (fun e => hl (by rw [e])))
    go_enter Try.func11, Try.ntmps11
    go_wp2
    go_ret
    exact ⟨by rw [HV.out]; rfl, Below.refl _ _⟩
def pC1 : List In := [⟨6, 0, 0, 0⟩, ⟨1, 1, 1, 0⟩, ⟨1, 0, 1, 0⟩, ⟨20, 0, 0, 0⟩]
def pC2 : List In := [⟨1, -1, 2, 0⟩, ⟨1, -1, 2, 0⟩, ⟨20, 0, 0, 0⟩]
def pC3 : List In := [⟨38, 3, 0, 0⟩, ⟨33, -1, 1, 0⟩, ⟨47, 0, 1, 0⟩, ⟨20, 0, 0, 0⟩]
theorem vf1 : vfP false pC1 [0] = (0, 0) := by decide +kernel
theorem sh1 : shP false pC1 [0] = [0, 2, 3, 4] := by decide +kernel
theorem vf2 : vfP false pC2 [0] = (150, 1) := by decide +kernel
theorem vf3 : vfP true pC3 [0] = (150, 1) := by decide +kernel
theorem first_shape (gc ge : Nat) (w : World) (hc : Blk w gc 36 (cellsG inc pC1)) (he : Blk w ge 3 [.int .i64 0]) :
    Calls Try.prog 10 #[.agg #[.bool false, .slice (some ⟨gc, 0, none⟩) 4 4, .slice (some ⟨ge, 0, none⟩) 1 1]] w fun e w' => ∃ g, e = .returned (.tuple #[.slice (some ⟨g, 0, none⟩) 4 4, .agg #[.int .i64 0, .int .i64 0]]) ∧ Hid (Blk w' g 3 (cellsL .i64 [0, 2, 3, 4])) ∧ Hid (Below w.heap.size w w') := by
  have h := shape_any false (some ⟨gc, 0, none⟩) (some ⟨ge, 0, none⟩) 4 1 pC1 [0] w (by decide) (by decide) (by decide) (by decide) (by decide) (hide_ (blk_grow inc_len hc)) (hide_ (Blk.row (k := .i64) (l := [0]) he))
  refine Calls.mono h ?_
  rintro e w' ⟨h1, ⟨-, -, -, -, g, rfl, -, hb⟩ | ⟨hv, -⟩⟩
  · rw [sh1] at hb
    exact ⟨g, rfl, hide_ hb, hide_ h1⟩
  · rw [vf1] at hv
    exact absurd rfl hv
theorem first_p (gc ge : Nat) (w : World) (hc : Blk w gc 36 (cellsG inc pC1)) (he : Blk w ge 3 [.int .i64 0]) :
    Calls Try.prog 14 #[.agg #[.bool false, .slice (some ⟨gc, 0, none⟩) 4 4, .slice (some ⟨ge, 0, none⟩) 1 1]] w fun e w' => e = .returned (.agg #[.int .i64 0, .int .i64 0]) ∧ Below w.heap.size w w' := by
  have h := verify_any false (some ⟨gc, 0, none⟩) (some ⟨ge, 0, none⟩) 4 1 pC1 [0] w (by decide) (by decide) (by decide) (by decide) (by decide) (hide_ (blk_grow inc_len hc)) (hide_ (Blk.row (k := .i64) (l := [0]) he))
  rw [vf1] at h
  exact h
theorem first_q (gc ge : Nat) (w : World) (hc : Blk w gc 36 (cellsG inc pC2)) (he : Blk w ge 3 [.int .i64 0]) :
    Calls Try.prog 14 #[.agg #[.bool false, .slice (some ⟨gc, 0, none⟩) 3 3, .slice (some ⟨ge, 0, none⟩) 1 1]] w fun e w' => e = .returned (.agg #[.int .i64 150, .int .i64 1]) ∧ Below w.heap.size w w' := by
  have h := verify_any false (some ⟨gc, 0, none⟩) (some ⟨ge, 0, none⟩) 3 1 pC2 [0] w (by decide) (by decide) (by decide) (by decide) (by decide) (hide_ (blk_grow inc_len hc)) (hide_ (Blk.row (k := .i64) (l := [0]) he))
  rw [vf2] at h
  exact h
theorem first_e (gc ge : Nat) (w : World) (hc : Blk w gc 36 (cellsG inc pC3)) (he : Blk w ge 3 [.int .i64 0]) :
    Calls Try.prog 14 #[.agg #[.bool true, .slice (some ⟨gc, 0, none⟩) 4 4, .slice (some ⟨ge, 0, none⟩) 1 1]] w fun e w' => e = .returned (.agg #[.int .i64 150, .int .i64 1]) ∧ Below w.heap.size w w' := by
  have h := verify_any true (some ⟨gc, 0, none⟩) (some ⟨ge, 0, none⟩) 4 1 pC3 [0] w (by decide) (by decide) (by decide) (by decide) (by decide) (hide_ (blk_grow inc_len hc)) (hide_ (Blk.row (k := .i64) (l := [0]) he))
  rw [vf3] at h
  exact h
/-- Three things made one behind the other. -/
theorem blk3w (w : World) (xs ys zs : Array Value) (t t' t'' : TypeId) {w' : World} (h : ((w.alloc (.cells xs t)).alloc (.cells ys t')).alloc (.cells zs t'') = w') : Blk w' w.heap.size t xs.toList ∧ Blk w' (w.heap.size + 1) t' ys.toList ∧ Blk w' (w.heap.size + 1 + 1) t'' zs.toList ∧ Below w.heap.size w w' := by
  obtain ⟨a, b⟩ := blk2 w xs ys t t'
  rw [← h]
  refine ⟨a.alloc _, b.alloc _, ?_, (below2 _ _ _).alloc (by simp; omega) _⟩
  have := Blk.newA ((w.alloc (.cells xs t)).alloc (.cells ys t')) zs t''
  simpa using this
set_option maxRecDepth 100000 in
set_option maxHeartbeats 16000000 in
theorem first15_any (w : World) : Calls Try.prog 8 #[] w fun e w' => e = .returned (.bool true) ∧ Below w.heap.size w w' := by
  obtain ⟨w1, hw1⟩ : ∃ wx, ((w.alloc (.cells #[.int .i64 6, .int .i64 0, .int .i64 0, .int .i64 0, .int .i64 1, .int .i64 1, .int .i64 1, .int .i64 0, .int .i64 1, .int .i64 0, .int .i64 1, .int .i64 0, .int .i64 20, .int .i64 0, .int .i64 0, .int .i64 0] 36)).alloc (.cells #[.int .i64 0] 3)).alloc (.cells #[.bool false, .slice (some ⟨w.heap.size, 0, none⟩) 4 4, .slice (some ⟨w.heap.size + 1, 0, none⟩) 1 1] 25) = wx := ⟨_, rfl⟩
  obtain ⟨a1, a2, a3, a4⟩ := blk3w _ _ _ _ _ _ _ hw1
  have p0 := a3.cell 0; have p1 := a3.cell 1; have p2 := a3.cell 2
  simp at p0 p1 p2
  have HSh := hide_ (first_shape w.heap.size (w.heap.size + 1) w1 a1 a2)
  have HA1 := hide_ a1
  have HA2 := hide_ a2
  have HA3 := hide_ a3
  have HB1 := hide_ a4
  clear a1 a2 a3 a4
  go_enter Try.func8, Try.ntmps8
  go_upto_region 2 with fail
  try rw [hw1]
  clear hw1
  go_wp2_with fail
  refine HSh.out.mono ?_
  rintro e w2 ⟨g, rfl, HG2, HB2⟩
  clear HSh p0 p1 p2
  go_upto_region 3 with fail
  obtain ⟨w3, hw3⟩ : ∃ wx, w2.alloc (.cells #[.int .i64 0, .int .i64 0] 30) = wx := ⟨_, rfl⟩
  have hB3 : Below w2.heap.size w2 w3 := by rw [← hw3]; exact below1 _ _
  have hK3 : Blk w3 w2.heap.size 30 [.int .i64 0, .int .i64 0] := by rw [← hw3]; exact Blk.newA _ _ _
  try rw [hw3]
  clear hw3
  have HK3 := hide_ hK3
  have HG3 := hide_ (HG2.out.later hB3)
  have HA13 := hide_ ((HA1.out.later HB2.out).later hB3)
  have HA23 := hide_ ((HA2.out.later HB2.out).later hB3)
  have HA33 := hide_ ((HA3.out.later HB2.out).later hB3)
  have HB3 := hide_ (below_to (below_to HB1.out HB2.out) hB3)
  obtain ⟨qf, hqf⟩ : ∃ qf, w2.heap.size = qf := ⟨_, rfl⟩
  rw [hqf] at HK3 ⊢
  clear hK3 hB3 hqf HG2 HA1 HA2 HA3 HB1 HB2
  go_upto_region 4 with fail
  obtain ⟨w4, hw4⟩ : ∃ wx, ((w3.alloc (.cells #[.int .i64 1, .int .i64 (-1), .int .i64 2, .int .i64 0, .int .i64 1, .int .i64 (-1), .int .i64 2, .int .i64 0, .int .i64 20, .int .i64 0, .int .i64 0, .int .i64 0] 36)).alloc (.cells #[.int .i64 0] 3)).alloc (.cells #[.bool false, .slice (some ⟨w3.heap.size, 0, none⟩) 3 3, .slice (some ⟨w3.heap.size + 1, 0, none⟩) 1 1] 25) = wx := ⟨_, rfl⟩
  obtain ⟨b1, b2, b3, b4⟩ := blk3w _ _ _ _ _ _ _ hw4
  try rw [hw4]
  clear hw4
  obtain ⟨q3, hq3⟩ : ∃ q3, w3.heap.size = q3 := ⟨_, rfl⟩
  rw [hq3] at b1 b2 b3 ⊢
  have HK4 := hide_ (HK3.out.later b4)
  have HG4 := hide_ (HG3.out.later b4)
  have HA14 := hide_ (HA13.out.later b4)
  have HA24 := hide_ (HA23.out.later b4)
  have HA34 := hide_ (HA33.out.later b4)
  have HB4 := hide_ (below_to HB3.out b4)
  have Hb1 := hide_ b1
  have Hb2 := hide_ b2
  have Hb3 := hide_ b3
  clear b1 b2 b3 b4 hq3 HK3 HG3 HA13 HA23 HA33 HB3
  go_upto_region 5 with fail
  obtain ⟨w5, hw5⟩ : ∃ wx, ((w4.alloc (.cells #[.int .i64 38, .int .i64 3, .int .i64 0, .int .i64 0, .int .i64 33, .int .i64 (-1), .int .i64 1, .int .i64 0, .int .i64 47, .int .i64 0, .int .i64 1, .int .i64 0, .int .i64 20, .int .i64 0, .int .i64 0, .int .i64 0] 36)).alloc (.cells #[.int .i64 0] 3)).alloc (.cells #[.bool true, .slice (some ⟨w4.heap.size, 0, none⟩) 4 4, .slice (some ⟨w4.heap.size + 1, 0, none⟩) 1 1] 25) = wx := ⟨_, rfl⟩
  obtain ⟨b1, b2, b3, b4⟩ := blk3w _ _ _ _ _ _ _ hw5
  try rw [hw5]
  clear hw5
  obtain ⟨q4, hq4⟩ : ∃ q4, w4.heap.size = q4 := ⟨_, rfl⟩
  rw [hq4] at b1 b2 b3 ⊢
  have f0 := (HK4.out.later b4).cell 0
  have f1 := (HK4.out.later b4).cell 1
  simp at f0 f1
  obtain ⟨w6, hw6⟩ : ∃ wx, w5.alloc (.cells #[.int .i64 0, .int .i64 2, .int .i64 3, .int .i64 4] 3) = wx := ⟨_, rfl⟩
  have hB6 : Below w5.heap.size w5 w6 := by rw [← hw6]; exact below1 _ _
  have hK6 : Blk w6 w5.heap.size 3 (cellsL .i64 [0, 2, 3, 4]) := by rw [← hw6]; exact Blk.newA _ _ _
  have hBA := below_to b4 hB6
  have HIn := hide_ (ints_any (some ⟨g, 0, none⟩) (some ⟨w5.heap.size, 0, none⟩) 4 4 [0, 2, 3, 4] [0, 2, 3, 4] w6 (by decide) (by decide) (hide_ ((HG4.out.later hBA).row)) (hide_ hK6.row))
  have HB6 := hide_ (below_to HB4.out hBA)
  have HA16 := hide_ (HA14.out.later hBA)
  have HA26 := hide_ (HA24.out.later hBA)
  have HA36 := hide_ (HA34.out.later hBA)
  have HC1 := hide_ (Hb1.out.later hBA)
  have HC2 := hide_ (Hb2.out.later hBA)
  have HC3 := hide_ (Hb3.out.later hBA)
  have HD1 := hide_ (b1.later hB6)
  have HD2 := hide_ (b2.later hB6)
  have HD3 := hide_ (b3.later hB6)
  clear b1 b2 b3 b4 hq4 hB6 hK6 hBA HK4 HG4 HA14 HA24 HA34 HB4 Hb1 Hb2 Hb3
  go_wp2_with fail
  try rw [hw6]
  clear hw6 f0 f1
  refine HIn.out.mono ?_
  rintro e w7 ⟨rfl, hB7⟩
  have p0 := (HA36.out.later hB7).cell 0; have p1 := (HA36.out.later hB7).cell 1; have p2 := (HA36.out.later hB7).cell 2
  simp at p0 p1 p2
  have HV1 := hide_ (first_p w.heap.size (w.heap.size + 1) w7 (HA16.out.later hB7) (HA26.out.later hB7))
  have HB7 := hide_ (below_to HB6.out hB7)
  have HE1 := hide_ (HC1.out.later hB7)
  have HE2 := hide_ (HC2.out.later hB7)
  have HE3 := hide_ (HC3.out.later hB7)
  have HF1 := hide_ (HD1.out.later hB7)
  have HF2 := hide_ (HD2.out.later hB7)
  have HF3 := hide_ (HD3.out.later hB7)
  clear hB7 HIn HA16 HA26 HA36 HB6 HC1 HC2 HC3 HD1 HD2 HD3
  go_wp2_with fail
  refine HV1.out.mono ?_
  rintro e w8 ⟨rfl, hB8⟩
  clear p0 p1 p2
  have p0 := (HE3.out.later hB8).cell 0; have p1 := (HE3.out.later hB8).cell 1; have p2 := (HE3.out.later hB8).cell 2
  simp at p0 p1 p2
  have HV2 := hide_ (first_q q3 (q3 + 1) w8 (HE1.out.later hB8) (HE2.out.later hB8))
  have HB8 := hide_ (below_to HB7.out hB8)
  have HH1 := hide_ (HF1.out.later hB8)
  have HH2 := hide_ (HF2.out.later hB8)
  have HH3 := hide_ (HF3.out.later hB8)
  clear hB8 HV1 HE1 HE2 HE3 HF1 HF2 HF3 HB7
  go_wp2_with fail
  refine HV2.out.mono ?_
  rintro e w9 ⟨rfl, hB9⟩
  clear p0 p1 p2
  have p0 := (HH3.out.later hB9).cell 0; have p1 := (HH3.out.later hB9).cell 1; have p2 := (HH3.out.later hB9).cell 2
  simp at p0 p1 p2
  have HV3 := hide_ (first_e q4 (q4 + 1) w9 (HH1.out.later hB9) (HH2.out.later hB9))
  have HB9 := hide_ (below_to HB8.out hB9)
  clear hB9 HV2 HH1 HH2 HH3 HB8
  go_wp2_with fail
  refine HV3.out.mono ?_
  rintro e w10 ⟨rfl, hB10⟩
  have HB10 := hide_ (below_to HB9.out hB10)
  clear hB10 p0 p1 p2
  go_wp2_with fail
  go_ret
  exact ⟨rfl, HB10.out⟩
end Go.Proofs.Ytnmffeeieclmfaa
