import Derived.Test.YtiojpohmgjdgfaaPart28

/- sound, plain: what was come to stands; faults lie among the instructions. -/
namespace Go.Proofs.Ytiojpohmgjdgfaa
open Go.RowKit
set_option linter.unusedVariables false
set_option linter.unusedSimpArgs false

/-- What has a state is pending, or stands in it. -/
def Std (enc : Bool) (C : List In) (S : List St) (P : List Int) : Prop := ∀ k, k < C.length → (stA S k).pl ≠ 0 → (k : Int) ∈ P ∨ ∃ r, mSt enc (stA S k) (inA C k) r = true
theorem handP_std {enc : Bool} {C : List In} {r : Int} {S : List St} {P : List Int} (hN : Pnd C.length S P) (h : Std enc C S P) {k : Nat} (hk : k < C.length) (s : St) : Std enc C (handP enc C r S P k s).2.1 (handP enc C r S P k s).2.2 := by
  unfold handP
  split
  · exact h
  split
  · intro j hj hp
    show (j : Int) ∈ pushH P (k : Int) ∨ ∃ r, mSt enc (stA (S.set k s) j) (inA C j) r = true
    rw [push_mem hN.hp]
    have hp : (stA (S.set k s) j).pl ≠ 0 := hp
    rw [stA_set (by rw [hN.len]; exact hk)] at hp ⊢
    by_cases e : j = k
    · exact .inl (.inl (by rw [e]))
    · rw [if_neg e] at hp ⊢
      rcases h j hj hp with h1 | h1
      · exact .inl (.inr h1)
      · exact .inr h1
  · exact h
theorem handsP_std {enc : Bool} {C : List In} {r : Int} {s : St} (hs : s.pl ≠ 0) (x : In) : ∀ (ws : List Int) (way : Nat) {S : List St} {P : List Int}, Pnd C.length S P → (∀ y ∈ ws, 0 ≤ y ∧ y < (C.length : Int)) → Std enc C S P → Std enc C (handsP enc C r s x ws way S P).2.1 (handsP enc C r s x ws way S P).2.2
  | [], _, S, P, _, _, h => h
  | n :: ws, way, S, P, hN, hw, h => by
    rw [handsP]
    have h1 := hw n (by simp)
    have hk : n.toNat < C.length := by omega
    split
    · exact handsP_std hs x ws (way + 1) (handP_ok (enc := enc) (r := r) hN hk (mHd_pl enc hs x _)).1 (fun y hy => hw y (by simp [hy])) (handP_std hN h hk _)
    · exact h
theorem handsP_rng {enc : Bool} {C : List In} {r : Int} {s : St} (x : In) : ∀ (ws : List Int) (way : Nat) (S : List St) (P : List Int), (∀ y ∈ ws, 0 ≤ y ∧ y < (C.length : Int)) → (handsP enc C r s x ws way S P).1 = 1048576 ∨ (0 ≤ (handsP enc C r s x ws way S P).1 ∧ (handsP enc C r s x ws way S P).1 < (C.length : Int))
  | [], _, S, P, _ => .inl rfl
  | n :: ws, way, S, P, hw => by
    rw [handsP]
    split
    · exact handsP_rng x ws (way + 1) _ _ (fun y hy => hw y (by simp [hy]))
    · exact .inr (hw n (by simp))
theorem lookP_rng {enc : Bool} {C : List In} {r : Int} (hW : WIn C) (S : List St) (P : List Int) {k : Nat} (hk : k < C.length) : (lookP enc C r S P k).1 = 1048576 ∨ (0 ≤ (lookP enc C r S P k).1 ∧ (lookP enc C r S P k).1 < (C.length : Int)) := by
  unfold lookP
  split
  · exact .inr ⟨by simp, by simp; omega⟩
  · rename_i hq
    refine handsP_rng _ _ _ _ _ (fun y hy => ?_)
    have h2 := hW _ hk y hy
    have h3 : y ≠ (C.length : Int) := fun e => hq (.inr (e ▸ hy))
    omega
theorem goP_rng {enc : Bool} {C : List In} {r : Int} (hW : WIn C) : ∀ (f : Nat) {S : List St} {P : List Int}, Pnd C.length S P → (goP enc C r f S P).1 = 1048576 ∨ (0 ≤ (goP enc C r f S P).1 ∧ (goP enc C r f S P).1 < (C.length : Int))
  | 0, S, P, _ => .inl rfl
  | f + 1, S, P, hN => by
    by_cases h0 : P = []
    · subst h0
      exact .inl (by rw [goP_nil])
    · rw [goP, if_neg h0]
      obtain ⟨q1, q2, q3, q4, q5⟩ := pop_ok hN h0
      have hk : (popH P).1.toNat < C.length := by omega
      by_cases hz : (lookP enc C r S (popH P).2 (popH P).1.toNat).1 = 1048576
      · rw [if_pos hz]
        exact goP_rng hW f (lookP_ok (enc := enc) (r := r) hW q1 hk q5).1
      · rw [if_neg hz]
        exact lookP_rng hW _ _ hk
theorem thruP_rng {enc : Bool} {C : List In} {r : Int} (hW : WIn C) {S : List St} (hN : Pnd C.length S []) {k : Nat} (hk : k < C.length) : (thruP enc C r S [] k).1 = 1048576 ∨ (0 ≤ (thruP enc C r S [] k).1 ∧ (thruP enc C r S [] k).1 < (C.length : Int)) := by
  unfold thruP
  split
  · exact goP_rng hW _ (handP_ok (enc := enc) (C := C) (r := r) hN hk (mBg_pl enc)).1
  · exact .inr ⟨by simp, by simp; omega⟩
theorem goP_std {enc : Bool} {C : List In} {r : Int} (hW : WIn C) (hn : C.length ≤ 1048576) : ∀ (f : Nat) {S : List St} {P : List Int}, Pnd C.length S P → msr S P < f → Std enc C S P → (goP enc C r f S P).1 = 1048576 → Std enc C (goP enc C r f S P).2.1 []
  | 0, S, P, _, h, _, _ => by omega
  | f + 1, S, P, hN, hm, hL, h1 => by
    by_cases h0 : P = []
    · subst h0
      rw [goP_nil]
      exact hL
    · rw [goP] at h1 ⊢
      rw [if_neg h0] at h1 ⊢
      have hl0 : 0 < P.length := List.length_pos_iff.2 h0
      obtain ⟨q1, q2, q3, q4, q5⟩ := pop_ok hN h0
      have hk : (popH P).1.toNat < C.length := by omega
      have l1 := lookP_ok (enc := enc) (r := r) hW q1 hk q5
      by_cases hz : (lookP enc C r S (popH P).2 (popH P).1.toNat).1 = 1048576
      · rw [if_pos hz] at h1 ⊢
        refine goP_std hW hn f l1.1 (by omega) ?_ h1
        unfold lookP at hz ⊢
        by_cases hq : mSt enc (stA S (popH P).1.toNat) (inA C (popH P).1.toNat) r = false ∨ (C.length : Int) ∈ waysP C (popH P).1.toNat
        · rw [if_pos hq] at hz
          have hz : ((popH P).1.toNat : Int) = 1048576 := hz
          omega
        · rw [if_neg hq]
          have hq2 : (C.length : Int) ∉ waysP C (popH P).1.toNat := fun e => hq (.inr e)
          have hq1 : mSt enc (stA S (popH P).1.toNat) (inA C (popH P).1.toNat) r = true := by
            cases hb : mSt enc (stA S (popH P).1.toNat) (inA C (popH P).1.toNat) r
            · exact absurd (.inl hb) hq
            · rfl
          refine handsP_std q5 _ _ _ q1 (fun y hy => ?_) (fun j hj hp => ?_)
          · have h2 := hW _ hk y hy
            have h3 : y ≠ (C.length : Int) := fun e => hq2 (e ▸ hy)
            omega
          · rcases hL j hj hp with h2 | h2
            · rcases pop_rest hN.hp hl0 h2 with h3 | h3
              · right
                rw [← h3, Int.toNat_natCast] at hq1
                exact ⟨r, hq1⟩
              · exact .inl h3
            · exact .inr h2
      · rw [if_neg hz] at h1
        exact absurd h1 hz
theorem thruP_std {enc : Bool} {C : List In} {r : Int} (hW : WIn C) (hC : CdOk enc C) {S : List St} (hl : S.length = C.length) (hN : Pnd C.length S []) (hL : Std enc C S []) {k : Nat} (hk : k < C.length) (h : (thruP enc C r S [] k).1 = 1048576) : Std enc C (thruP enc C r S [] k).2.1 [] := by
  unfold thruP at h ⊢
  by_cases hz : (handP enc C r S [] k (mBg enc)).1 = true
  · rw [if_pos hz] at h ⊢
    have h1 := handP_ok (enc := enc) (C := C) (r := r) hN hk (mBg_pl enc)
    refine goP_std hW hC.nc _ h1.1 ?_ (handP_std hN hL hk _) h
    have h2 : msr S [] ≤ 2 * C.length := by have := bare_le S; unfold msr; simp; omega
    have h3 := h1.2.1
    omega
  · rw [if_neg hz] at h
    have := hC.nc
    simp at h
    omega
theorem firstP_std {enc : Bool} {C : List In} (hW : WIn C) (hC : CdOk enc C) : ∀ (E : List Int) (r : Nat) {S : List St}, (∀ e ∈ E, 0 ≤ e ∧ e < (C.length : Int)) → S.length = C.length → Pnd C.length S [] → SAll S → Std enc C S [] → (firstP enc C E r S).1 = 1048576 → Std enc C (firstP enc C E r S).2 []
  | [], r, S, _, hl, _, hS, hL, _ => hL
  | e :: es, r, S, he, hl, hN, hS, hL, h => by
    have h1 := he e (by simp)
    have hk : e.toNat < C.length := by omega
    rw [firstP] at h ⊢
    by_cases hz : (thruP enc C (r : Int) S [] e.toNat).1 = 1048576
    · rw [if_pos hz] at h ⊢
      obtain ⟨f1, f2, f3⟩ := thruP_fin hW hC hl hN hS hk hz
      exact firstP_std hW hC es (r + 1) (fun y hy => he y (by simp [hy])) f2.len f2 f3 (thruP_std hW hC hl hN hL hk hz) h
    · rw [if_neg hz] at h
      exact absurd h hz
theorem firstP_rng {enc : Bool} {C : List In} (hW : WIn C) (hC : CdOk enc C) : ∀ (E : List Int) (r : Nat) {S : List St}, (∀ e ∈ E, 0 ≤ e ∧ e < (C.length : Int)) → S.length = C.length → Pnd C.length S [] → SAll S → (firstP enc C E r S).1 = 1048576 ∨ (0 ≤ (firstP enc C E r S).1 ∧ (firstP enc C E r S).1 < (C.length : Int))
  | [], r, S, _, hl, _, hS => .inl rfl
  | e :: es, r, S, he, hl, hN, hS => by
    have h1 := he e (by simp)
    have hk : e.toNat < C.length := by omega
    rw [firstP]
    by_cases hz : (thruP enc C (r : Int) S [] e.toNat).1 = 1048576
    · rw [if_pos hz]
      obtain ⟨f1, f2, f3⟩ := thruP_fin hW hC hl hN hS hk hz
      exact firstP_rng hW hC es (r + 1) (fun y hy => he y (by simp [hy])) f2.len f2 f3
    · rw [if_neg hz]
      exact thruP_rng hW hN hk
/-- None, or an instruction's number. -/
def Non (n : Nat) (v : Int) : Prop := 0 ≤ v ∧ (v = 1048576 ∨ v < (n : Int))
theorem setA_non {n j : Nat} (hj : j < n) : ∀ (fd L : List Int), (∀ v ∈ L, Non n v) → ∀ v ∈ setA L fd j, Non n v
  | [], L, h => h
  | x :: fd, L, h => by
    refine setA_non hj fd (L.set x.toNat (j : Int)) (fun v hv => ?_)
    rcases List.mem_or_eq_of_mem_set hv with h1 | h1
    · exact h v h1
    · rw [h1]; exact ⟨by omega, .inr (by omega)⟩
theorem ldF_non {ed : Nat → List Int} {ip : Nat → Bool} {n : Nat} : ∀ (f j : Nat) (s : List Bool) (L : List Int), j + f ≤ n → (∀ v ∈ L, Non n v) → ∀ v ∈ ldF ed ip n f j s L, Non n v
  | 0, j, s, L, _, h => h
  | f + 1, j, s, L, hj, h => by
    unfold ldF
    split
    · exact ldF_non f (j + 1) _ _ (by omega) (setA_non (by omega) _ _ h)
    · exact ldF_non f (j + 1) s L (by omega) h
theorem lsP_non {n : Nat} {rg : List Bool} {ld : List Int} {ip : Nat → Bool} (hl : ∀ k, k < n → ip k = true → k + 1 < ld.length) (hd : ∀ v ∈ ld, Non n v) : ∀ (fd : List Int) (l : Int), Stn n fd → n ≤ 1048576 → Non n l → Non n (fd.foldl (lsP rg ld ip) l)
  | [], l, _, _, h => h
  | x :: fd, l, hf, hn, h => by
    refine lsP_non hl hd fd _ (fun y hy => hf y (by simp [hy])) hn ?_
    have hx := hf x (by simp)
    have h1 : Non n (if qAt rg x.toNat = true then min l x else l) := by
      split
      · unfold Non at h ⊢
        omega
      · exact h
    unfold lsP
    split
    · rename_i hi
      have h2 := hd _ (hAt_mem (hl x.toNat (by omega) hi))
      unfold Non at h1 h2 ⊢
      omega
    · exact h1
theorem seF_non {ed : Nat → List Int} {n : Nat} {rg : List Bool} {ld : List Int} {ip : Nat → Bool} (he : ∀ k, k < n → Stn n (ed k)) (hn : n ≤ 1048576) (hll : ld.length = n) (hl : ∀ k, k < n → ip k = true → k + 1 < n) (hd : ∀ v ∈ ld, Non n v) : ∀ (E : List Int) (s : List Bool), Stn n E → s.length = n → Non n (seF ed n rg ld ip E s)
  | [], s, _, _ => ⟨by simp [seF], .inl rfl⟩
  | e :: es, s, hE, hs => by
    have h1 := hE e (by simp)
    obtain ⟨b1, b2, -⟩ := spF_ok he (tot ed s n + 2) [e] s [] (fun y hy => by rw [List.mem_singleton] at hy; rw [hy]; exact h1) hs (fun y hy => by cases hy)
    rw [seF]
    split
    · exact lsP_non (fun k hk h => by rw [hll]; exact hl k hk h) hd _ _ b1 hn (hd _ (hAt_mem (by rw [hll]; omega)))
    · exact seF_non he hn hll hl hd es _ (fun y hy => hE y (by simp [hy])) b2
theorem ldF_len {ed : Nat → List Int} {ip : Nat → Bool} {n : Nat} : ∀ (f j : Nat) (s : List Bool) (L : List Int), (ldF ed ip n f j s L).length = L.length
  | 0, j, s, L => rfl
  | f + 1, j, s, L => by
    unfold ldF
    split
    · rw [ldF_len f, setA_len]
    · exact ldF_len f (j + 1) s L
/-- A fault of a program that has its form. -/
theorem vf_rng {enc : Bool} {C : List In} {E : List Int} (hK : Chk enc C E) : vfP enc C E = (0, 0) ∨ ((vfP enc C E).1 = 150 ∧ 0 ≤ (vfP enc C E).2 ∧ (vfP enc C E).2 < (C.length : Int)) := by
  have hE : ∀ e ∈ E, 0 ≤ e ∧ e < (C.length : Int) := fun e he => by
    obtain ⟨i, hi, rfl⟩ := List.mem_iff_getElem.1 he
    have := hK.ent i hi
    simpa [List.getD, hi] using this
  have hc : (chk enc C E).1 = 0 := by rw [chk_ok.2 hK]
  unfold vfP
  rw [if_neg (fun h => h hc)]
  split
  · rename_i h1
    rcases firstP_rng (S := List.replicate C.length st0) hK.win hK.cdok E 0 hE (by simp) (pnd_new _ _ (by simp)) (SAll.new _) with h2 | h2
    · exact absurd h2 h1
    · exact .inr ⟨rfl, h2⟩
  split
  · rename_i h1 h2
    have h1 : (firstP enc C E 0 (List.replicate C.length st0)).1 = 1048576 := Decidable.not_not.1 h1
    obtain ⟨-, a2, a3, a4⟩ := firstP_all hK h1
    have hN : Non C.length (secondP C E (stP enc C E)) := by
      unfold secondP
      refine seF_non (fun k hk y hy => ?_) hK.nc ?_ (fun k hk h => idle_next (fun hc => (a3 k hk hc).1) h) ?_ E _ hE (by simp)
      · unfold edW at hy
        split at hy
        · rename_i hc
          exact (a3 k hk hc).1 y hy
        · cases hy
      · unfold ldP
        rw [ldF_len]
        simp
      · unfold ldP
        refine ldF_non _ _ _ _ (by omega) (fun v hv => ?_)
        rw [List.eq_of_mem_replicate hv]
        exact ⟨by omega, .inl rfl⟩
    refine .inr ⟨rfl, hN.1, ?_⟩
    rcases hN.2 with h3 | h3
    · exact absurd h3 h2
    · exact h3
  · exact .inl rfl
/-- In a program that is taken: what was come to stands in its state. -/
theorem taken_std {enc : Bool} {C : List In} {E : List Int} (hK : Chk enc C E) (h : (firstP enc C E 0 (List.replicate C.length st0)).1 = 1048576) : ∀ k, k < C.length → cameP (stP enc C E) k = true → ∃ r, mSt enc (stA (stP enc C E) k) (inA C k) r = true := by
  have hz : ∀ k, (stA (List.replicate C.length st0) k).pl = 0 := fun k => by
    unfold stA
    by_cases hk : k < C.length <;> simp [List.getD, hk, st0]
  have hE : ∀ e ∈ E, 0 ≤ e ∧ e < (C.length : Int) := fun e he => by
    obtain ⟨i, hi, rfl⟩ := List.mem_iff_getElem.1 he
    have := hK.ent i hi
    simpa [List.getD, hi] using this
  have h1 := firstP_std hK.win hK.cdok E 0 hE (by simp) (pnd_new _ _ (by simp)) (SAll.new _) (fun k hk hp => absurd (hz k) hp) h
  intro k hk hc
  have h4 : (stA (stP enc C E) k).pl ≠ 0 := by
    unfold cameP at hc
    simpa using hc
  rcases h1 k hk h4 with h5 | h5
  · cases h5
  · exact h5
end Go.Proofs.Ytiojpohmgjdgfaa

/- sound's laws: ints, the first calls, made. -/
namespace Go.Proofs.Ytiojpohmgjdgfaa
open Go.RowKit
set_option linter.unusedVariables false
set_option linter.unusedSimpArgs false

set_option maxRecDepth 100000 in
set_option maxHeartbeats 4000000 in
theorem ints_any (a1 a2 : Option Addr) (c1 c2 : Nat) (l1 l2 : List Int) (w : World) (h1 : l1.length ≤ 9223372036854775807) (h2 : l2.length ≤ 9223372036854775807) (r1 : Hid (Row .i64 w a1 l1)) (r2 : Hid (Row .i64 w a2 l2)) :
    Calls Try.prog 11 #[.slice a1 l1.length c1, .slice a2 l2.length c2] w fun e w' => e = .returned (.bool (decide (l1 = l2))) ∧ Below w.heap.size w w' := by
  obtain ⟨R, hR⟩ : ∃ R, decide (l1 = l2) = R := ⟨_, rfl⟩
  rw [hR]
  have HR := hide_ hR
  clear hR
  by_cases hl : l1.length = l2.length
  · have hl' : ((l1.length : Int) != (l2.length : Int)) = false := by simp; omega
    have HL := hide_ hl
    go_enter Try.func11, Try.ntmps11
    go_wp2_with fail
    go_loopw [5] (fun x5 wr => ∃ i : Nat, i ≤ l1.length ∧ x5 = .int .i64 (i : Int) ∧ Hid (l1.take i = l2.take i) ∧ Hid (Below w.heap.size w wr)) (fun x5 _ => l1.length - (intOf x5).toNat)
    case atStart => exact ⟨0, Nat.zero_le _, rfl, hide_ rfl, hide_ (Below.refl _ _)⟩
    case round =>
      obtain ⟨i, hi, rfl, HT, HB⟩ := hrel
      generalize wr = wq at *
      by_cases hlt : i < l1.length
      · have hlt' : (i : Int) < l1.length := by omega
        have hlt2 : i < l2.length := by have := HL.out; omega
        have hlt2' : (i : Int) < l2.length := by omega
        obtain ⟨b1, o1, rfl, hb1, hc1⟩ := (r1.out.later HB.out).open (by omega)
        obtain ⟨b2, o2, rfl, hb2, hc2⟩ := (r2.out.later HB.out).open (by omega)
        have d1 := hc1 i hlt
        have d2 := hc2 i hlt2
        have e1 : l1.getD i 0 = l1[i]'hlt := by simp [List.getD, hlt]
        have e2 : l2.getD i 0 = l2[i]'hlt2 := by simp [List.getD, hlt2]
        have ht1 : l1.take (i + 1) = l1.take i ++ [l1[i]'hlt] := List.take_succ_eq_append_getElem hlt
        have ht2 : l2.take (i + 1) = l2.take i ++ [l2[i]'hlt2] := List.take_succ_eq_append_getElem hlt2
        rw [← e1] at ht1
        rw [← e2] at ht2
        generalize l1.getD i 0 = x at *
        generalize l2.getD i 0 = y at *
        have HT1 := hide_ ht1
        have HT2 := hide_ ht2
        clear hc1 hc2 ht1 ht2 e1 e2 hl
        have hdr : Hid (Below w.heap.size w wq.drew) := hide_ HB.out.drew
        by_cases he : x = y
        · have he' : (x != y) = false := by simp [he]
          have HT3 : Hid (l1.take (i + 1) = l2.take (i + 1)) := hide_ (by rw [HT1.out, HT2.out, HT.out, he])
          clear he
          go_wp2_with fail
          go_region
          go_wp2_with fail
          go_roundw
          case rel => exact ⟨i + 1, by omega, by go_num, HT3, hdr⟩
          case measure => simp [intOf]; omega
        · have he' : (x != y) = true := by simpa using he
          have HV : Hid (R = false) := hide_ (by
            rw [← HR.out]
            refine decide_eq_false fun e => he ?_
            have h1 := HT1.out
            rw [e, HT2.out, ← e, HT.out] at h1
            simpa using h1.symm)
          clear he
          go_wp2_with fail
          go_region
          go_wp2
          go_ret
          exact ⟨by rw [HV.out]; rfl, hdr.out⟩
      · obtain rfl : i = l1.length := by omega
        have HV : Hid (R = true) := hide_ (by
          rw [← HR.out]
          have h := HT.out
          rw [List.take_length, HL.out, List.take_length] at h
          exact decide_eq_true h)
        clear hl
        go_wp2
        go_ret
        exact ⟨by rw [HV.out]; rfl, HB.out⟩
  · have hl' : ((l1.length : Int) != (l2.length : Int)) = true := by simp; omega
    have HV : Hid (R = false) := hide_ (by rw [← HR.out]; exact decide_eq_false (fun e => hl (by rw [e])))
    go_enter Try.func11, Try.ntmps11
    go_wp2
    go_ret
    exact ⟨by rw [HV.out]; rfl, Below.refl _ _⟩
def pC1 : List In := [⟨6, 0, 0, 0⟩, ⟨1, 1, 1, 0⟩, ⟨1, 0, 1, 0⟩, ⟨20, 0, 0, 0⟩]
def pC2 : List In := [⟨1, -1, 2, 0⟩, ⟨1, -1, 2, 0⟩, ⟨20, 0, 0, 0⟩]
def pC3 : List In := [⟨38, 3, 0, 0⟩, ⟨33, -1, 1, 0⟩, ⟨47, 0, 1, 0⟩, ⟨20, 0, 0, 0⟩]
theorem vf1 : vfP false pC1 [0] = (0, 0) := by decide +kernel
theorem sh1 : shP false pC1 [0] = [0, 2, 3, 4] := by decide +kernel
theorem vf2 : vfP false pC2 [0] = (150, 1) := by decide +kernel
theorem vf3 : vfP true pC3 [0] = (150, 1) := by decide +kernel
theorem first_shape (gc ge : Nat) (w : World) (hc : Blk w gc 37 (cellsG inc pC1)) (he : Blk w ge 3 [.int .i64 0]) :
    Calls Try.prog 7 #[.agg #[.bool false, .slice (some ⟨gc, 0, none⟩) 4 4, .slice (some ⟨ge, 0, none⟩) 1 1]] w fun e w' => ∃ g, e = .returned (.tuple #[.slice (some ⟨g, 0, none⟩) 4 4, .agg #[.int .i64 0, .int .i64 0]]) ∧ Hid (Blk w' g 3 (cellsL .i64 [0, 2, 3, 4])) ∧ Hid (Below w.heap.size w w') := by
  have h := shape_any false (some ⟨gc, 0, none⟩) (some ⟨ge, 0, none⟩) 4 1 pC1 [0] w (by decide) (by decide) (by decide) (by decide) (by decide) (hide_ (blk_grow inc_len hc)) (hide_ (Blk.row (k := .i64) (l := [0]) he))
  refine Calls.mono h ?_
  rintro e w' ⟨h1, ⟨-, -, -, -, g, rfl, -, hb⟩ | ⟨hv, -⟩⟩
  · rw [sh1] at hb
    exact ⟨g, rfl, hide_ hb, hide_ h1⟩
  · rw [vf1] at hv
    exact absurd rfl hv
theorem first_p (gc ge : Nat) (w : World) (hc : Blk w gc 37 (cellsG inc pC1)) (he : Blk w ge 3 [.int .i64 0]) :
    Calls Try.prog 8 #[.agg #[.bool false, .slice (some ⟨gc, 0, none⟩) 4 4, .slice (some ⟨ge, 0, none⟩) 1 1]] w fun e w' => e = .returned (.agg #[.int .i64 0, .int .i64 0]) ∧ Below w.heap.size w w' := by
  have h := verify_any false (some ⟨gc, 0, none⟩) (some ⟨ge, 0, none⟩) 4 1 pC1 [0] w (by decide) (by decide) (by decide) (by decide) (by decide) (hide_ (blk_grow inc_len hc)) (hide_ (Blk.row (k := .i64) (l := [0]) he))
  rw [vf1] at h
  exact h
theorem first_q (gc ge : Nat) (w : World) (hc : Blk w gc 37 (cellsG inc pC2)) (he : Blk w ge 3 [.int .i64 0]) :
    Calls Try.prog 8 #[.agg #[.bool false, .slice (some ⟨gc, 0, none⟩) 3 3, .slice (some ⟨ge, 0, none⟩) 1 1]] w fun e w' => e = .returned (.agg #[.int .i64 150, .int .i64 1]) ∧ Below w.heap.size w w' := by
  have h := verify_any false (some ⟨gc, 0, none⟩) (some ⟨ge, 0, none⟩) 3 1 pC2 [0] w (by decide) (by decide) (by decide) (by decide) (by decide) (hide_ (blk_grow inc_len hc)) (hide_ (Blk.row (k := .i64) (l := [0]) he))
  rw [vf2] at h
  exact h
theorem first_e (gc ge : Nat) (w : World) (hc : Blk w gc 37 (cellsG inc pC3)) (he : Blk w ge 3 [.int .i64 0]) :
    Calls Try.prog 8 #[.agg #[.bool true, .slice (some ⟨gc, 0, none⟩) 4 4, .slice (some ⟨ge, 0, none⟩) 1 1]] w fun e w' => e = .returned (.agg #[.int .i64 150, .int .i64 1]) ∧ Below w.heap.size w w' := by
  have h := verify_any true (some ⟨gc, 0, none⟩) (some ⟨ge, 0, none⟩) 4 1 pC3 [0] w (by decide) (by decide) (by decide) (by decide) (by decide) (hide_ (blk_grow inc_len hc)) (hide_ (Blk.row (k := .i64) (l := [0]) he))
  rw [vf3] at h
  exact h
/-- Three things made one behind the other. -/
theorem blk3w (w : World) (xs ys zs : Array Value) (t t' t'' : TypeId) {w' : World} (h : ((w.alloc (.cells xs t)).alloc (.cells ys t')).alloc (.cells zs t'') = w') : Blk w' w.heap.size t xs.toList ∧ Blk w' (w.heap.size + 1) t' ys.toList ∧ Blk w' (w.heap.size + 1 + 1) t'' zs.toList ∧ Below w.heap.size w w' := by
  obtain ⟨a, b⟩ := blk2 w xs ys t t'
  rw [← h]
  refine ⟨a.alloc _, b.alloc _, ?_, (below2 _ _ _).alloc (by simp; omega) _⟩
  have := Blk.newA ((w.alloc (.cells xs t)).alloc (.cells ys t')) zs t''
  simpa using this
set_option maxRecDepth 100000 in
set_option maxHeartbeats 16000000 in
theorem first15_any (w : World) : Calls Try.prog 5 #[] w fun e w' => e = .returned (.bool true) ∧ Below w.heap.size w w' := by
  obtain ⟨w1, hw1⟩ : ∃ wx, ((w.alloc (.cells #[.int .i64 6, .int .i64 0, .int .i64 0, .int .i64 0, .int .i64 1, .int .i64 1, .int .i64 1, .int .i64 0, .int .i64 1, .int .i64 0, .int .i64 1, .int .i64 0, .int .i64 20, .int .i64 0, .int .i64 0, .int .i64 0] 37)).alloc (.cells #[.int .i64 0] 3)).alloc (.cells #[.bool false, .slice (some ⟨w.heap.size, 0, none⟩) 4 4, .slice (some ⟨w.heap.size + 1, 0, none⟩) 1 1] 25) = wx := ⟨_, rfl⟩
  obtain ⟨a1, a2, a3, a4⟩ := blk3w _ _ _ _ _ _ _ hw1
  have p0 := a3.cell 0; have p1 := a3.cell 1; have p2 := a3.cell 2
  simp at p0 p1 p2
  have HSh := hide_ (first_shape w.heap.size (w.heap.size + 1) w1 a1 a2)
  have HA1 := hide_ a1
  have HA2 := hide_ a2
  have HA3 := hide_ a3
  have HB1 := hide_ a4
  clear a1 a2 a3 a4
  go_enter Try.func5, Try.ntmps5
  go_upto_region 2 with fail
  try rw [hw1]
  clear hw1
  go_wp2_with fail
  refine HSh.out.mono ?_
  rintro e w2 ⟨g, rfl, HG2, HB2⟩
  clear HSh p0 p1 p2
  go_upto_region 3 with fail
  obtain ⟨w3, hw3⟩ : ∃ wx, w2.alloc (.cells #[.int .i64 0, .int .i64 0] 30) = wx := ⟨_, rfl⟩
  have hB3 : Below w2.heap.size w2 w3 := by rw [← hw3]; exact below1 _ _
  have hK3 : Blk w3 w2.heap.size 30 [.int .i64 0, .int .i64 0] := by rw [← hw3]; exact Blk.newA _ _ _
  try rw [hw3]
  clear hw3
  have HK3 := hide_ hK3
  have HG3 := hide_ (HG2.out.later hB3)
  have HA13 := hide_ ((HA1.out.later HB2.out).later hB3)
  have HA23 := hide_ ((HA2.out.later HB2.out).later hB3)
  have HA33 := hide_ ((HA3.out.later HB2.out).later hB3)
  have HB3 := hide_ (below_to (below_to HB1.out HB2.out) hB3)
  obtain ⟨qf, hqf⟩ : ∃ qf, w2.heap.size = qf := ⟨_, rfl⟩
  rw [hqf] at HK3 ⊢
  clear hK3 hB3 hqf HG2 HA1 HA2 HA3 HB1 HB2
  go_upto_region 4 with fail
  obtain ⟨w4, hw4⟩ : ∃ wx, ((w3.alloc (.cells #[.int .i64 1, .int .i64 (-1), .int .i64 2, .int .i64 0, .int .i64 1, .int .i64 (-1), .int .i64 2, .int .i64 0, .int .i64 20, .int .i64 0, .int .i64 0, .int .i64 0] 37)).alloc (.cells #[.int .i64 0] 3)).alloc (.cells #[.bool false, .slice (some ⟨w3.heap.size, 0, none⟩) 3 3, .slice (some ⟨w3.heap.size + 1, 0, none⟩) 1 1] 25) = wx := ⟨_, rfl⟩
  obtain ⟨b1, b2, b3, b4⟩ := blk3w _ _ _ _ _ _ _ hw4
  try rw [hw4]
  clear hw4
  obtain ⟨q3, hq3⟩ : ∃ q3, w3.heap.size = q3 := ⟨_, rfl⟩
  rw [hq3] at b1 b2 b3 ⊢
  have HK4 := hide_ (HK3.out.later b4)
  have HG4 := hide_ (HG3.out.later b4)
  have HA14 := hide_ (HA13.out.later b4)
  have HA24 := hide_ (HA23.out.later b4)
  have HA34 := hide_ (HA33.out.later b4)
  have HB4 := hide_ (below_to HB3.out b4)
  have Hb1 := hide_ b1
  have Hb2 := hide_ b2
  have Hb3 := hide_ b3
  clear b1 b2 b3 b4 hq3 HK3 HG3 HA13 HA23 HA33 HB3
  go_upto_region 5 with fail
  obtain ⟨w5, hw5⟩ : ∃ wx, ((w4.alloc (.cells #[.int .i64 38, .int .i64 3, .int .i64 0, .int .i64 0, .int .i64 33, .int .i64 (-1), .int .i64 1, .int .i64 0, .int .i64 47, .int .i64 0, .int .i64 1, .int .i64 0, .int .i64 20, .int .i64 0, .int .i64 0, .int .i64 0] 37)).alloc (.cells #[.int .i64 0] 3)).alloc (.cells #[.bool true, .slice (some ⟨w4.heap.size, 0, none⟩) 4 4, .slice (some ⟨w4.heap.size + 1, 0, none⟩) 1 1] 25) = wx := ⟨_, rfl⟩
  obtain ⟨b1, b2, b3, b4⟩ := blk3w _ _ _ _ _ _ _ hw5
  try rw [hw5]
  clear hw5
  obtain ⟨q4, hq4⟩ : ∃ q4, w4.heap.size = q4 := ⟨_, rfl⟩
  rw [hq4] at b1 b2 b3 ⊢
  have f0 := (HK4.out.later b4).cell 0
  have f1 := (HK4.out.later b4).cell 1
  simp at f0 f1
  obtain ⟨w6, hw6⟩ : ∃ wx, w5.alloc (.cells #[.int .i64 0, .int .i64 2, .int .i64 3, .int .i64 4] 3) = wx := ⟨_, rfl⟩
  have hB6 : Below w5.heap.size w5 w6 := by rw [← hw6]; exact below1 _ _
  have hK6 : Blk w6 w5.heap.size 3 (cellsL .i64 [0, 2, 3, 4]) := by rw [← hw6]; exact Blk.newA _ _ _
  have hBA := below_to b4 hB6
  have HIn := hide_ (ints_any (some ⟨g, 0, none⟩) (some ⟨w5.heap.size, 0, none⟩) 4 4 [0, 2, 3, 4] [0, 2, 3, 4] w6 (by decide) (by decide) (hide_ ((HG4.out.later hBA).row)) (hide_ hK6.row))
  have HB6 := hide_ (below_to HB4.out hBA)
  have HA16 := hide_ (HA14.out.later hBA)
  have HA26 := hide_ (HA24.out.later hBA)
  have HA36 := hide_ (HA34.out.later hBA)
  have HC1 := hide_ (Hb1.out.later hBA)
  have HC2 := hide_ (Hb2.out.later hBA)
  have HC3 := hide_ (Hb3.out.later hBA)
  have HD1 := hide_ (b1.later hB6)
  have HD2 := hide_ (b2.later hB6)
  have HD3 := hide_ (b3.later hB6)
  clear b1 b2 b3 b4 hq4 hB6 hK6 hBA HK4 HG4 HA14 HA24 HA34 HB4 Hb1 Hb2 Hb3
  go_wp2_with fail
  try rw [hw6]
  clear hw6 f0 f1
  refine HIn.out.mono ?_
  rintro e w7 ⟨rfl, hB7⟩
  have p0 := (HA36.out.later hB7).cell 0; have p1 := (HA36.out.later hB7).cell 1; have p2 := (HA36.out.later hB7).cell 2
  simp at p0 p1 p2
  have HV1 := hide_ (first_p w.heap.size (w.heap.size + 1) w7 (HA16.out.later hB7) (HA26.out.later hB7))
  have HB7 := hide_ (below_to HB6.out hB7)
  have HE1 := hide_ (HC1.out.later hB7)
  have HE2 := hide_ (HC2.out.later hB7)
  have HE3 := hide_ (HC3.out.later hB7)
  have HF1 := hide_ (HD1.out.later hB7)
  have HF2 := hide_ (HD2.out.later hB7)
  have HF3 := hide_ (HD3.out.later hB7)
  clear hB7 HIn HA16 HA26 HA36 HB6 HC1 HC2 HC3 HD1 HD2 HD3
  go_wp2_with fail
  refine HV1.out.mono ?_
  rintro e w8 ⟨rfl, hB8⟩
  clear p0 p1 p2
  have p0 := (HE3.out.later hB8).cell 0; have p1 := (HE3.out.later hB8).cell 1; have p2 := (HE3.out.later hB8).cell 2
  simp at p0 p1 p2
  have HV2 := hide_ (first_q q3 (q3 + 1) w8 (HE1.out.later hB8) (HE2.out.later hB8))
  have HB8 := hide_ (below_to HB7.out hB8)
  have HH1 := hide_ (HF1.out.later hB8)
  have HH2 := hide_ (HF2.out.later hB8)
  have HH3 := hide_ (HF3.out.later hB8)
  clear hB8 HV1 HE1 HE2 HE3 HF1 HF2 HF3 HB7
  go_wp2_with fail
  refine HV2.out.mono ?_
  rintro e w9 ⟨rfl, hB9⟩
  clear p0 p1 p2
  have p0 := (HH3.out.later hB9).cell 0; have p1 := (HH3.out.later hB9).cell 1; have p2 := (HH3.out.later hB9).cell 2
  simp at p0 p1 p2
  have HV3 := hide_ (first_e q4 (q4 + 1) w9 (HH1.out.later hB9) (HH2.out.later hB9))
  have HB9 := hide_ (below_to HB8.out hB9)
  clear hB9 HV2 HH1 HH2 HH3 HB8
  go_wp2_with fail
  refine HV3.out.mono ?_
  rintro e w10 ⟨rfl, hB10⟩
  have HB10 := hide_ (below_to HB9.out hB10)
  clear hB10 p0 p1 p2
  go_wp2_with fail
  go_ret
  exact ⟨rfl, HB10.out⟩
end Go.Proofs.Ytiojpohmgjdgfaa
