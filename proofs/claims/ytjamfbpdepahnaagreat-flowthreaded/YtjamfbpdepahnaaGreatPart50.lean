import Derived.Test.YtjamfbpdepahnaaGreatPart49
import Derived.Test.YtjamfbpdepahnaaGreatPart43
import Derived.BigQuiet
namespace Go.Proofs.YtjamfbpdepahnaaGreat
open Go.RowKit
set_option linter.unusedVariables false
set_option linter.unusedSimpArgs false
theorem PgI.take {w : World} {ac ae : Option Addr} {cc ce : Nat} {C : List In} {E : List Int} (h : PgI w ac ae cc ce C E) (m n : Nat) : PgI w ac ae cc ce (C.take m) (E.take n) := by
  have h1 := h.hcc; have h2 := h.hce; have h3 := h.hCl; have h4 := h.hel
  exact ⟨by rw [List.length_take]; omega, h.hcl, by rw [List.length_take]; omega, by rw [List.length_take]; omega, by rw [List.length_take]; omega, h.hr.take m, h.he.take n⟩
set_option maxRecDepth 100000 in
set_option maxHeartbeats 16000000 in
theorem cut18_any (enc : Bool) (ac ae : Option Addr) (cc ce : Nat) (C : List In) (E : List Int) (w : World) (h : PgI w ac ae cc ce C E) :
    Calls Tryz.prog 5 #[.agg #[.bool enc, .slice ac C.length cc, .slice ae E.length ce]] w fun e w' => e = .returned (.agg #[.bool enc, .slice ac (C.take 300).length cc, .slice ae (E.take 60).length ce]) ∧ Hid (Below w.heap.size w w') := by
  have hcc := h.hcc; have hce := h.hce; have hCl := h.hCl; have hel := h.hel; have hcl := h.hcl
  obtain ⟨n, hn⟩ : ∃ n, C.length = n := ⟨_, rfl⟩
  obtain ⟨m, hm⟩ : ∃ m, E.length = m := ⟨_, rfl⟩
  obtain ⟨n2, hn2⟩ : ∃ n2, (C.take 300).length = n2 := ⟨_, rfl⟩
  obtain ⟨m2, hm2⟩ : ∃ m2, (E.take 60).length = m2 := ⟨_, rfl⟩
  have hn3 : n2 = min 300 n := by rw [← hn2, ← hn, List.length_take]
  have hm3 : m2 = min 60 m := by rw [← hm2, ← hm, List.length_take]
  rw [hn] at hcc hCl
  rw [hm] at hce hel
  rw [hn, hm, hn2, hm2]
  have hmi1 : ∀ (ts : Array TypeId) (t : TypeId) (wx : World), (Builtin.min_ ts t #[.int .i64 (n : Int), .int .i64 300]).run Tryz.prog wx = .ok (.int .i64 (n2 : Int)) wx := fun ts t wx => by
    rw [run_min_int2]
    congr 2
    split <;> omega
  have hmi2 : ∀ (ts : Array TypeId) (t : TypeId) (wx : World), (Builtin.min_ ts t #[.int .i64 (m : Int), .int .i64 60]).run Tryz.prog wx = .ok (.int .i64 (m2 : Int)) wx := fun ts t wx => by
    rw [run_min_int2]
    congr 2
    split <;> omega
  have c1 : n2 ≤ cc := by omega
  have c2 : m2 ≤ ce := by omega
  have c1' : (n2 : Int) ≤ (cc : Int) := by omega
  have c2' : (m2 : Int) ≤ (ce : Int) := by omega
  obtain ⟨w1, hw1⟩ : ∃ wx, (w.alloc (.cells #[.bool enc, .slice ac n cc, .slice ae m ce] 25)).alloc (.cells #[.bool false, .slice none 0 0, .slice none 0 0] 25) = wx := ⟨_, rfl⟩
  have HB1 : Hid (Below w.heap.size w w1) := hide_ (by rw [← hw1]; exact below2 _ _ _)
  obtain ⟨kp, kr⟩ := blk2 w #[.bool enc, .slice ac n cc, .slice ae m ce] #[.bool false, .slice none 0 0, .slice none 0 0] 25 25
  rw [hw1] at kp kr
  have p0' := kp.cell 0; have p1' := kp.cell 1; have p2' := kp.cell 2
  simp at p0' p1' p2'
  have p0 : w1.drew.cell? ⟨w.heap.size, 0, none⟩ = some (.bool enc) := p0'
  have p1 : w1.drew.cell? ⟨w.heap.size, 1, none⟩ = some (.slice ac n cc) := p1'
  have p2 : w1.drew.cell? ⟨w.heap.size, 2, none⟩ = some (.slice ae m ce) := p2'
  have r0 := kr.cell 0; have r1 := kr.cell 1; have r2 := kr.cell 2
  have rf := fun i => kr.frozen i
  simp at r0 r1 r2
  have HR1 := hide_ kr
  have hg1 : w.heap.size ≤ w.heap.size + 1 := by omega
  clear kp kr hn hm hn2 hm2 hn3 hm3 h p0' p1' p2' hcc hce
  go_enter Tryz.func5, Tryz.ntmps5
  go_upto_region 1 with fail
  try rw [hw1]
  clear hw1
  refine wp_region_last 17 (fun w' => w'.cell? ⟨w.heap.size, 0, none⟩ = some (.bool enc) ∧ w'.cell? ⟨w.heap.size, 1, none⟩ = some (.slice ac n cc) ∧ w'.cell? ⟨w.heap.size, 2, none⟩ = some (.slice ae m ce)) (by kernel_rfl) (⟨p0, p1, p2⟩) (fun hHeld => ?_)
  refine wpAnyF_take [17] (by kernel_rfl) (i := 0) (v := ?va1) rfl (by kernel_rfl) (by kernel_rfl) (by kernel_rfl) (fun _ _ _ h => h) (Or.inl ⟨by kernel_rfl, ?hya1⟩) hHeld ?resta1
  case hya1 => intro w' hSw; (try dsimp only at hSw); go_simp; try with_reducible rfl
  simp only [Act.put]
  try dsimp only
  refine wpAnyF_take [17] (by kernel_rfl) (i := 1) (v := ?va2) rfl (by kernel_rfl) (by kernel_rfl) (by kernel_rfl) (fun _ _ _ h => h) (Or.inl ⟨by kernel_rfl, ?hya2⟩) hHeld ?resta2
  case hya2 => intro w' hSw; (try dsimp only at hSw); go_simp; try with_reducible rfl
  simp only [Act.put]
  try dsimp only
  refine wpAnyF_take [17] (by kernel_rfl) (i := 2) (v := ?va3) rfl (by kernel_rfl) (by kernel_rfl) (by kernel_rfl) (fun _ _ _ h => h) (Or.inl ⟨by kernel_rfl, ?hya3⟩) hHeld ?resta3
  case hya3 => intro w' hSw; (try dsimp only at hSw); go_simp; try with_reducible rfl
  simp only [Act.put]
  try dsimp only
  refine wpAnyF_take [17] (by kernel_rfl) (i := 3) (v := ?va4) rfl (by kernel_rfl) (by kernel_rfl) (by kernel_rfl) (fun _ _ _ h => h) (Or.inl ⟨by kernel_rfl, ?hya4⟩) hHeld ?resta4
  case hya4 => intro w' hSw; (try dsimp only at hSw); go_simp; try with_reducible rfl
  simp only [Act.put]
  try dsimp only
  refine wpAnyF_take [17] (by kernel_rfl) (i := 4) (v := ?va5) rfl (by kernel_rfl) (by kernel_rfl) (by kernel_rfl) (fun _ _ _ h => h) (Or.inl ⟨by kernel_rfl, ?hya5⟩) hHeld ?resta5
  case hya5 => intro w' hSw; (try dsimp only at hSw); go_simp; try with_reducible rfl
  simp only [Act.put]
  try dsimp only
  refine wpAnyF_take [17] (by kernel_rfl) (i := 5) (v := ?va6) rfl (by kernel_rfl) (by kernel_rfl) (by kernel_rfl) (fun _ _ _ h => h) (Or.inl ⟨by kernel_rfl, ?hya6⟩) hHeld ?resta6
  case hya6 => intro w' hSw; (try dsimp only at hSw); go_simp; try with_reducible rfl
  simp only [Act.put]
  try dsimp only
  refine wpAnyF_take [17] (by kernel_rfl) (i := 6) (v := ?va7) rfl (by kernel_rfl) (by kernel_rfl) (by kernel_rfl) (fun _ _ _ h => h) (Or.inl ⟨by kernel_rfl, ?hya7⟩) hHeld ?resta7
  case hya7 => intro w' hSw; (try dsimp only at hSw); go_simp; try with_reducible rfl
  simp only [Act.put]
  try dsimp only
  refine wpAnyF_take [17] (by kernel_rfl) (i := 7) (v := ?va8) rfl (by kernel_rfl) (by kernel_rfl) (by kernel_rfl) (fun _ _ _ h => h) (Or.inl ⟨by kernel_rfl, ?hya8⟩) hHeld ?resta8
  case hya8 => intro w' hSw; (try dsimp only at hSw); go_simp; try with_reducible rfl
  simp only [Act.put]
  try dsimp only
  refine wpAnyF_take [17] (by kernel_rfl) (i := 8) (v := ?va9) rfl (by kernel_rfl) (by kernel_rfl) (by kernel_rfl) (fun _ _ _ h => h) (Or.inl ⟨by kernel_rfl, ?hya9⟩) hHeld ?resta9
  case hya9 => intro w' hSw; (try dsimp only at hSw); go_simp; try with_reducible rfl
  simp only [Act.put]
  try dsimp only
  refine wpAnyF_take [17] (by kernel_rfl) (i := 9) (v := ?va10) rfl (by kernel_rfl) (by kernel_rfl) (by kernel_rfl) (fun _ _ _ h => h) (Or.inl ⟨by kernel_rfl, ?hya10⟩) hHeld ?resta10
  case hya10 => intro w' hSw; (try dsimp only at hSw); go_simp; try with_reducible rfl
  simp only [Act.put]
  try dsimp only
  refine wpAnyF_take [17] (by kernel_rfl) (i := 10) (v := ?va11) rfl (by kernel_rfl) (by kernel_rfl) (by kernel_rfl) (fun _ _ _ h => h) (Or.inl ⟨by kernel_rfl, ?hya11⟩) hHeld ?resta11
  case hya11 => intro w' hSw; (try dsimp only at hSw); go_simp; try with_reducible rfl
  simp only [Act.put]
  try dsimp only
  refine wpAnyF_take [17] (by kernel_rfl) (i := 11) (v := ?va12) rfl (by kernel_rfl) (by kernel_rfl) (by kernel_rfl) (fun _ _ _ h => h) (Or.inl ⟨by kernel_rfl, ?hya12⟩) hHeld ?resta12
  case hya12 => intro w' hSw; (try dsimp only at hSw); go_simp; try with_reducible rfl
  simp only [Act.put]
  try dsimp only
  refine wpAnyF_take [17] (by kernel_rfl) (i := 12) (v := ?va13) rfl (by kernel_rfl) (by kernel_rfl) (by kernel_rfl) (fun _ _ _ h => h) (Or.inl ⟨by kernel_rfl, ?hya13⟩) hHeld ?resta13
  case hya13 => intro w' hSw; (try dsimp only at hSw); go_simp; try with_reducible rfl
  simp only [Act.put]
  try dsimp only
  refine wpAnyF_take [17] (by kernel_rfl) (i := 13) (v := ?va14) rfl (by kernel_rfl) (by kernel_rfl) (by kernel_rfl) (fun _ _ _ h => h) (Or.inl ⟨by kernel_rfl, ?hya14⟩) hHeld ?resta14
  case hya14 => intro w' hSw; (try dsimp only at hSw); go_simp; try with_reducible rfl
  simp only [Act.put]
  try dsimp only
  refine wpAnyF_take [17] (by kernel_rfl) (i := 14) (v := ?va15) rfl (by kernel_rfl) (by kernel_rfl) (by kernel_rfl) (fun _ _ _ h => h) (Or.inl ⟨by kernel_rfl, ?hya15⟩) hHeld ?resta15
  case hya15 => intro w' hSw; (try dsimp only at hSw); go_simp; try with_reducible rfl
  simp only [Act.put]
  try dsimp only
  refine wpAnyF_take [17] (by kernel_rfl) (i := 15) (v := ?va16) rfl (by kernel_rfl) (by kernel_rfl) (by kernel_rfl) (fun _ _ _ h => h) (Or.inl ⟨by kernel_rfl, ?hya16⟩) hHeld ?resta16
  case hya16 => intro w' hSw; (try dsimp only at hSw); go_simp; try with_reducible rfl
  simp only [Act.put]
  try dsimp only
  refine wpAnyF_take [17] (by kernel_rfl) (i := 16) (v := ?va17) rfl (by kernel_rfl) (by kernel_rfl) (by kernel_rfl) (fun _ _ _ h => h) (Or.inl ⟨by kernel_rfl, ?hya17⟩) hHeld ?resta17
  case hya17 => intro w' hSw; (try dsimp only at hSw); go_simp; try with_reducible rfl
  simp only [Act.put]
  try dsimp only
  refine wpAnyF_ready (rs := [17]) (by kernel_rfl) (by simp) ?_
  refine AllReadyF.last rfl (fun K hK => ?_)
  go_simp
  refine hK.out _ _ ?_
  clear hK K
  refine wpAnyF_done (by kernel_rfl) ?_ _
  go_wp2_with fail
  refine retP1 rfl rfl (wr3p (HR1.out.drew) _ _ _) ?_
  exact ⟨rfl, hide_ (below_set (below_set (below_set HB1.out.drew _ _ _ hg1) _ _ _ hg1) _ _ _ hg1)⟩
def restP (n m : Int) : Int := (n.tmod m + m).tmod m
def emI (x : In) : In := if htP x.op = true then ⟨x.op, x.a, 0, x.c⟩ else x
def wkN (C : List In) (x : In) (at_ p : Int) : Int :=
  if x.op = 8 ∨ x.op = 41 then (inA C (at_ + 1 + restP p x.a).toNat).b
  else if htP x.op = true ∧ restP p 2 = 1 then x.b else at_ + 1
def wkF (C : List In) (ps : List Int) : Nat → Int → Nat → List In → List In
  | 0, _, _, o => o
  | s + 1, at_, n, o =>
    if n < ps.length ∧ n < 300 ∧ 0 ≤ at_ ∧ at_ < (C.length : Int) then
      if (inA C at_.toNat).op = 19 then wkF C ps s (inA C at_.toNat).b n o
      else if (inA C at_.toNat).op = 20 then o ++ [emI (inA C at_.toNat)]
      else wkF C ps s (wkN C (inA C at_.toNat) at_ (hAt ps n)) (n + 1) (o ++ [emI (inA C at_.toNat)])
    else o
def Sim (C : List In) (a b : Int) : Prop := a = b ∨ (0 ≤ a ∧ a < (C.length : Int) ∧ ∃ k, (∀ i, i < k → jmp C (itJ C i a.toNat) = true) ∧ b = (itJ C k a.toNat : Int))
theorem thI_ops (C : List In) (x : In) : (thI C x).op = x.op ∧ (thI C x).a = x.a ∧ (thI C x).c = x.c ∧ (tgP x.op = false → (thI C x).b = x.b) ∧ (tgP x.op = true → (thI C x).b = ((endP C x.b.toNat : Nat) : Int)) := by
  have e : tgP x.op = htP x.op := rfl
  rw [e]
  unfold thI
  by_cases h : htP x.op = true
  · rw [if_pos h]
    exact ⟨rfl, rfl, rfl, fun h2 => (by rw [h] at h2; cases h2), fun _ => rfl⟩
  · rw [if_neg h]
    exact ⟨rfl, rfl, rfl, fun _ => rfl, fun h2 => absurd h2 h⟩
section
variable {enc : Bool} {C : List In} {E : List Int}
theorem end_jm (hK : Chk enc C E) {k : Nat} (hk : k < C.length) : Wy (JmR C) k (endP C k) := by
  have hJ := chk_jin hK
  obtain ⟨m, h1, h2⟩ := end_on hJ hk
  rw [← h2]
  have key : ∀ j, j ≤ m → Wy (JmR C) k (itJ C j k) := fun j => by
    induction j with
    | zero => intro _; exact Wy.refl _ _
    | succ j ih =>
      intro hj
      refine (ih (by omega)).snoc ?_
      have hq := h1 j (by omega)
      have hin : itJ C j k < C.length := it_in hJ hk (fun i hi => h1 i (by omega))
      have h19 : (inA C (itJ C j k)).op = 19 := by unfold jmp at hq; exact of_decide_eq_true hq
      have ht := chk_tgt hK hin (by unfold htP; rw [h19]; rfl)
      refine ⟨h19, ht.1, ?_⟩
      rw [itJ_succ]
      rfl
  exact key m (Nat.le_refl _)
theorem thr_op (hK : Chk enc C E) {k : Nat} (hk : k < C.length) : (inA (thC C) k).op = (inA C k).op ∧ (inA (thC C) k).a = (inA C k).a ∧ (inA (thC C) k).c = (inA C k).c ∧ (tgP (inA C k).op = false → (inA (thC C) k).b = (inA C k).b) ∧ (tgP (inA C k).op = true → 0 ≤ (inA (thC C) k).b ∧ (inA (thC C) k).b < (C.length : Int)) := by
  rw [thC_at hk]
  obtain ⟨h1, h2, h3, h4, h5⟩ := thI_ops C (inA C k)
  refine ⟨h1, h2, h3, h4, fun h => ?_⟩
  rw [h5 h]
  have ht := chk_tgt hK hk h
  have := end_in (chk_jin hK) (k := (inA C k).b.toNat) (by omega)
  omega
theorem thE_get {i : Nat} (hi : i < E.length) : (thE C E).getD i 0 = ((endP C (E.getD i 0).toNat : Nat) : Int) := by
  simp [thE, List.getD, hi]
theorem thr_chk (hK : Chk enc C E) : Chk enc (thC C) (thE C E) := by
  refine chk_same hK (thC_len C) (fun k hk => thr_op hK hk) (thE_len C E) (fun i hi => ?_)
  rw [thE_get hi]
  have h := hK.ent i hi
  have := end_in (chk_jin hK) (k := (E.getD i 0).toNat) (by omega)
  omega
theorem thr_way (hK : Chk enc C E) {k w : Nat} {y z : Int} (hk : k < C.length) (hy : (waysP C k)[w]? = some y) (hz : (waysP (thC C) k)[w]? = some z) : z = y ∨ (0 ≤ y ∧ y < (C.length : Int) ∧ z = ((endP C y.toNat : Nat) : Int)) := by
  obtain ⟨o1, o2, o3, o4, o5⟩ := thr_op hK hk
  have hb : tgP (inA C k).op = true → 0 ≤ (inA C k).b ∧ (inA C k).b < (C.length : Int) ∧ (inA (thC C) k).b = ((endP C (inA C k).b.toNat : Nat) : Int) := fun h => by
    have ht := chk_tgt hK hk h
    refine ⟨ht.1, ht.2, ?_⟩
    rw [thC_at hk]
    exact (thI_ops C (inA C k)).2.2.2.2 h
  unfold waysP at hy hz
  rw [o1, o2] at hz
  by_cases h19 : (inA C k).op = 19
  · rw [if_pos h19] at hy hz
    obtain ⟨b1, b2, b3⟩ := hb (by rw [h19]; decide)
    cases w with
    | zero =>
      simp at hy hz
      rw [← hy, ← hz]
      exact .inr ⟨b1, b2, b3⟩
    | succ w => simp at hy
  rw [if_neg h19] at hy hz
  by_cases h20 : (inA C k).op = 20
  · rw [if_pos h20] at hy
    simp at hy
  rw [if_neg h20] at hy hz
  by_cases h8 : (inA C k).op = 8 ∨ (inA C k).op = 41
  · rw [if_pos h8] at hy hz
    rw [List.getElem?_map, Option.map_eq_some_iff] at hy hz
    obtain ⟨j, hj, rfl⟩ := hy
    obtain ⟨j2, hj2, rfl⟩ := hz
    rw [hj] at hj2
    injection hj2 with e
    subst e
    have hjl := List.mem_range.1 (List.mem_of_getElem? hj)
    have ha := hK.cdok.arm k hk h8
    have hj2 : k + 1 + j < C.length := by omega
    have h9 : (inA C (k + 1 + j)).op = 9 := by
      obtain ⟨g1, g2⟩ := frm_inA hk (hK.code k hk)
      have g3 : agr (inA C k) (C.drop (k + 1)) = arms (C.drop (k + 1)) (inA C k).a := by
        unfold agr
        rw [if_neg (by omega), if_neg (by omega), if_neg (by omega), if_pos h8]
      rw [g3] at g2
      unfold arms at g2
      rw [Bool.and_eq_true, List.all_eq_true] at g2
      have h4 := g2.2 j (List.mem_range.2 hjl)
      unfold armOk at h4
      rw [List.getElem?_drop, List.getElem?_eq_getElem hj2] at h4
      simp only [Bool.and_eq_true, beq_iff_eq] at h4
      rw [inA_at (List.getElem?_eq_getElem hj2)]
      exact h4.1
    have ht := chk_tgt hK hj2 (by unfold htP; rw [h9]; rfl)
    right
    refine ⟨ht.1, ht.2, ?_⟩
    rw [thC_at hj2]
    exact (thI_ops C (inA C (k + 1 + j))).2.2.2.2 (by rw [h9]; decide)
  rw [if_neg h8] at hy hz
  by_cases h7 : (inA C k).op = 7 ∨ (inA C k).op = 11 ∨ (inA C k).op = 12 ∨ (inA C k).op = 13 ∨ (inA C k).op = 14 ∨ (inA C k).op = 15 ∨ (inA C k).op = 40 ∨ (inA C k).op = 47
  · rw [if_pos h7] at hy hz
    match w, hy, hz with
    | 0, hy, hz =>
      simp at hy hz
      exact .inl (by rw [← hy, ← hz])
    | 1, hy, hz =>
      simp at hy hz
      obtain ⟨b1, b2, b3⟩ := hb (by rw [tgN_iff]; omega)
      rw [← hy, ← hz]
      exact .inr ⟨b1, b2, b3⟩
    | w + 2, hy, hz => simp at hy
  · rw [if_neg h7] at hy hz
    cases w with
    | zero =>
      simp at hy hz
      exact .inl (by rw [← hy, ← hz])
    | succ w => simp at hy
theorem thr_wlen (hK : Chk enc C E) {k : Nat} (hk : k < C.length) : (waysP (thC C) k).length = (waysP C k).length := by
  obtain ⟨o1, o2, -⟩ := thr_op hK hk
  unfold waysP
  rw [o1, o2]
  repeat' split
  all_goals simp
theorem thr_sm1 (hK : Chk enc C E) : Sm1 C (thC C) E (thE C E) id := by
  have hl := thC_len C
  refine ⟨fun k hk => ?_, fun k hk => thr_wlen hK (by omega), fun k w y z hk hI hy hz => ?_, by rw [thE_len C E]; exact Nat.le_refl _, fun r hr => ?_⟩
  · obtain ⟨o1, o2, o3, o4, -⟩ := thr_op hK (show k < C.length by omega)
    exact ⟨o1, o2, o3, o4⟩
  · have hy0 := hI y (List.mem_of_getElem? hy)
    rw [hl]
    rcases thr_way hK (show k < C.length by omega) hy hz with e | ⟨h1, h2, e⟩
    · rw [e]
      exact ⟨hy0.1, hy0.2, Wy.refl _ _⟩
    · have h3 := end_in (chk_jin hK) (k := y.toNat) (by omega)
      rw [e, Int.toNat_natCast]
      exact ⟨Int.natCast_nonneg _, by exact_mod_cast h3, end_jm hK (by omega)⟩
  · rw [thE_len] at hr
    rw [thE_get hr, hl, Int.toNat_natCast]
    have h := hK.ent r hr
    have h3 := end_in (chk_jin hK) (k := (E.getD r 0).toNat) (by omega)
    exact ⟨Int.natCast_nonneg _, by exact_mod_cast h3, end_jm hK (by omega)⟩
theorem thr_ok (hK : Chk enc C E) (h : (vfP enc C E).1 = 0) : (vfP enc (thC C) (thE C E)).1 = 0 := by
  obtain ⟨hF, hS⟩ := (vf_sem hK).1.1 h
  have hK' := thr_chk hK
  obtain ⟨h1, h2, -⟩ := (thr_sm1 hK).all hK.ent (fun k hk h16 => hK'.ceok.cal k hk h16) hF hS
  exact (vf_sem hK').1.2 ⟨h1, h2⟩
end
section
variable {enc : Bool} {C : List In} {E : List Int}
theorem jmp_th {k : Nat} (hk : k < C.length) : jmp (thC C) k = jmp C k := by
  unfold jmp
  rw [thC_at hk, (thI_ops C _).1]
theorem nx_th {k : Nat} (hk : k < C.length) (h : jmp C k = true) : nxJ (thC C) k = endP C (nxJ C k) := by
  unfold nxJ
  have h19 : (inA C k).op = 19 := by unfold jmp at h; exact of_decide_eq_true h
  rw [thC_at hk, (thI_ops C _).2.2.2.2 (by rw [h19]; decide), Int.toNat_natCast]
theorem ring_th (hJ : JIn C) {y : Nat} (hy : y < C.length) (h : ∀ m, jmp C (itJ C m y) = true) : ∀ m, itJ (thC C) m y = itJ C m y ∧ jmp (thC C) (itJ (thC C) m y) = true := by
  have hin : ∀ m, itJ C m y < C.length := fun m => it_in hJ hy (fun i _ => h i)
  have key : ∀ m, itJ (thC C) m y = itJ C m y := fun m => by
    induction m with
    | zero => rfl
    | succ m ih =>
      rw [itJ_succ, itJ_succ, ih, nx_th (hin m) (h m)]
      refine end_ring (fun q => ?_)
      rw [← itJ_succ, ← itJ_add]
      exact h _
  exact fun m => ⟨key m, by rw [key m, jmp_th (hin m)]; exact h m⟩
theorem end_th (hJ : JIn C) {y : Nat} (hy : y < C.length) : jmp (thC C) (endP C y) = false ∨ ∀ m, jmp (thC C) (itJ (thC C) m (endP C y)) = true := by
  have hin := end_in hJ hy
  rcases end_cases hJ hy with ⟨m, h⟩ | ⟨e, h⟩
  · left
    rw [jmp_th hin]
    exact h.2.2
  · right
    rw [e]
    exact fun m => (ring_th hJ hy h m).2
theorem end_end (hJ : JIn C) {y : Nat} (hy : y < C.length) : endP (thC C) (endP C y) = endP C y := by
  rcases end_th hJ hy with h | h
  · exact end_not h
  · exact end_ring h
theorem thr_twice (hK : Chk enc C E) : thC (thC C) = thC C ∧ thE (thC C) (thE C E) = thE C E := by
  have hJ := chk_jin hK
  constructor
  · refine List.ext_getElem? fun k => ?_
    by_cases hk : k < C.length
    · have h1 : (thC (thC C))[k]? = some (thI (thC C) (thI C (inA C k))) := by
        have h2 : (thC C)[k]? = some (thI C (inA C k)) := by
          unfold thC
          rw [List.getElem?_map, List.getElem?_eq_getElem hk, inA_at (List.getElem?_eq_getElem hk)]
          rfl
        show ((thC C).map (thI (thC C)))[k]? = _
        rw [List.getElem?_map, h2]
        rfl
      have h2 : (thC C)[k]? = some (thI C (inA C k)) := by
        unfold thC
        rw [List.getElem?_map, List.getElem?_eq_getElem hk, inA_at (List.getElem?_eq_getElem hk)]
        rfl
      rw [h1, h2]
      congr 1
      obtain ⟨a1, a2, a3, a4, a5⟩ := thI_ops C (inA C k)
      obtain ⟨b1, b2, b3, b4, b5⟩ := thI_ops (thC C) (thI C (inA C k))
      refine In.ext' b1 b2 ?_ b3
      cases ht : tgP (inA C k).op with
      | false => exact b4 (by rw [a1]; exact ht)
      | true =>
        have hb := chk_tgt hK hk ht
        rw [b5 (by rw [a1]; exact ht), a5 ht, Int.toNat_natCast, end_end hJ (by omega)]
    · rw [List.getElem?_eq_none (by rw [thC_len, thC_len]; omega), List.getElem?_eq_none (by rw [thC_len]; omega)]
  · refine List.ext_getElem? fun i => ?_
    by_cases hi : i < E.length
    · have hb := hK.ent i hi
      rw [show E.getD i 0 = E[i] by simp [List.getD, hi]] at hb
      show ((E.map fun e => ((endP C e.toNat : Nat) : Int)).map fun e => ((endP (thC C) e.toNat : Nat) : Int))[i]? = (E.map fun e => ((endP C e.toNat : Nat) : Int))[i]?
      rw [List.getElem?_map, List.getElem?_map, List.getElem?_eq_getElem hi]
      simp only [Option.map_some, Int.toNat_natCast]
      rw [end_end hJ (by omega)]
    · have h1 : (thE C E)[i]? = none := List.getElem?_eq_none (by rw [thE_len]; omega)
      have h2 : (thE (thC C) (thE C E))[i]? = none := List.getElem?_eq_none (by rw [thE_len, thE_len]; omega)
      rw [h1, h2]
theorem thr_law (hK : Chk enc C E) {k : Nat} (hk : k < C.length) (ht : tgP (inA C k).op = true) : ∃ y : Nat, (inA (thC C) k).b = (y : Int) ∧ y < C.length ∧ (jmp (thC C) y = false ∨ ∀ m, itJ (thC C) m y < C.length ∧ jmp (thC C) (itJ (thC C) m y) = true) := by
  have hJ := chk_jin hK
  have hb := chk_tgt hK hk ht
  have hy : (inA C k).b.toNat < C.length := by omega
  refine ⟨endP C (inA C k).b.toNat, ?_, end_in hJ hy, ?_⟩
  · rw [thC_at hk]
    exact (thI_ops C _).2.2.2.2 ht
  · rcases end_th hJ hy with h | h
    · exact .inl h
    · refine .inr fun m => ⟨?_, h m⟩
      have hJ' := chk_jin (thr_chk hK)
      have := it_in hJ' (k := endP C (inA C k).b.toNat) (by rw [thC_len]; exact end_in hJ hy) (m := m) (fun i _ => h i)
      rw [thC_len] at this
      exact this
end
def eqL {α : Type} (f : α → α → Bool) : List α → List α → Bool
  | [], [] => true
  | x :: l, y :: r => f x y && eqL f l r
  | _, _ => false
theorem eqL_iff {α : Type} {f : α → α → Bool} (hf : ∀ x y, f x y = true ↔ x = y) : ∀ {l r : List α}, eqL f l r = true ↔ l = r
  | [], [] => ⟨fun _ => rfl, fun _ => rfl⟩
  | x :: l, y :: r => by rw [eqL, Bool.and_eq_true, hf, eqL_iff hf]; simp
  | [], y :: r => ⟨fun h => (by cases h), fun h => (by cases h)⟩
  | x :: l, [] => ⟨fun h => (by cases h), fun h => (by cases h)⟩
def sameI (a b : Int) : Bool := a == b
def inEqS (x y : In) : Bool := x.op == y.op && (x.a == y.a && (x.b == y.b && x.c == y.c))
theorem inEqS_iff (x y : In) : inEqS x y = true ↔ x = y := by
  unfold inEqS
  cases x; cases y
  simp
def eqP (a b : Bool) (C C' : List In) (E E' : List Int) : Bool := a == b && (eqL sameI E E' && eqL inEqS C C')
theorem eqP_iff {a b : Bool} {C C' : List In} {E E' : List Int} : eqP a b C C' E E' = true ↔ a = b ∧ E = E' ∧ C = C' := by
  unfold eqP
  rw [Bool.and_eq_true, Bool.and_eq_true, eqL_iff (f := sameI) (fun x y => by simp [sameI]), eqL_iff inEqS_iff]
  simp
theorem eqP_no {a b : Bool} {C C' : List In} {E E' : List Int} (h : ¬ (a = b ∧ E = E' ∧ C = C')) : eqP a b C C' E E' = false := by
  cases e : eqP a b C C' E E' with
  | false => rfl
  | true => exact absurd (eqP_iff.1 e) h
theorem ne_at {α : Type} {l r : List α} {i : Nat} {x y : α} (hx : l[i]? = some x) (hy : r[i]? = some y) (h : ¬ x = y) : ¬ l = r := fun e => by
  subst e
  rw [hx] at hy
  injection hy with hy
  exact h hy
set_option maxRecDepth 100000 in
set_option maxHeartbeats 4000000 in
theorem rsame18_any (a b : Bool) (ac ac' ae ae' : Option Addr) (cc cc' ce ce' : Nat) (C C' : List In) (E E' : List Int) (w : World) (h1 : C.length ≤ 9223372036854775806) (h2 : C'.length ≤ 9223372036854775806) (h3 : E.length ≤ 9223372036854775806) (h4 : E'.length ≤ 9223372036854775806) (hr1 : Hid (IRow w ac C)) (hr2 : Hid (IRow w ac' C')) (he1 : Hid (Row .i64 w ae E)) (he2 : Hid (Row .i64 w ae' E')) :
    Calls Tryz.prog 9 #[.agg #[.bool a, .slice ac C.length cc, .slice ae E.length ce], .agg #[.bool b, .slice ac' C'.length cc', .slice ae' E'.length ce']] w fun e w' => e = .returned (.bool (eqP a b C C' E E')) ∧ Below w.heap.size w w' := by
  obtain ⟨w1, hw1⟩ : ∃ wx, wx = (w.alloc (.cells #[.bool a, .slice ac C.length cc, .slice ae E.length ce] 25)).alloc (.cells #[.bool b, .slice ac' C'.length cc', .slice ae' E'.length ce'] 25) := ⟨_, rfl⟩
  have hB1 : Below w.heap.size w w1 := by rw [hw1]; exact below2 _ _ _
  obtain ⟨kp, kq⟩ := blk2 w #[.bool a, .slice ac C.length cc, .slice ae E.length ce] #[.bool b, .slice ac' C'.length cc', .slice ae' E'.length ce'] 25 25
  rw [← hw1] at kp kq
  have HB1 := hide_ hB1
  have KP := hide_ kp
  have KQ := hide_ kq
  have HR1 := hide_ (hr1.out.later hB1)
  have HR2 := hide_ (hr2.out.later hB1)
  have HE1 := hide_ (he1.out.later hB1)
  have HE2 := hide_ (he2.out.later hB1)
  have p0 := kp.cell 0; have p1 := kp.cell 1; have p2 := kp.cell 2
  have q0 := kq.cell 0; have q1 := kq.cell 1; have q2 := kq.cell 2
  simp at p0 p1 p2 q0 q1 q2
  clear hB1 kp kq
  have HNo := hide_ (fun h => eqP_no (a := a) (b := b) (C := C) (C' := C') (E := E) (E' := E') h)
  have HYes := hide_ (fun h => (eqP_iff (a := a) (b := b) (C := C) (C' := C') (E := E) (E' := E')).2 h)
  generalize eqP a b C C' E E' = R at *
  by_cases hab : a = b
  case neg =>
    have hR : R = false := HNo.out (fun h => hab h.1)
    subst hR
    have hb : (a != b) = true := by simpa using hab
    have hb2 : (a == b) = false := by simpa using hab
    clear HNo HYes
    go_enter Tryz.func9, Tryz.ntmps9
    go_upto_region 1 with fail
    rw [← hw1]
    clear hw1 hab
    go_wp2
    go_ret
    exact ⟨rfl, HB1.out⟩
  subst hab
  by_cases hn : C.length = C'.length
  case neg =>
    have hR : R = false := HNo.out (fun h => hn (by rw [h.2.2]))
    subst hR
    have hb : ((C.length : Int) != (C'.length : Int)) = true := by simp; omega
    have hb2 : (C.length != C'.length) = true := by simpa using hn
    clear HNo HYes hn
    go_enter Tryz.func9, Tryz.ntmps9
    go_upto_region 1 with fail
    rw [← hw1]
    clear hw1
    go_wp2
    go_ret
    exact ⟨rfl, HB1.out⟩
  by_cases hm : E.length = E'.length
  case neg =>
    have hR : R = false := HNo.out (fun h => hm (by rw [h.2.1]))
    subst hR
    have hb : ((C.length : Int) != (C'.length : Int)) = false := by simp; omega
    have hb2 : (C.length != C'.length) = false := by simpa using hn
    have hc : ((E.length : Int) != (E'.length : Int)) = true := by simp; omega
    have hc2 : (E.length != E'.length) = true := by simpa using hm
    clear HNo HYes hn hm
    go_enter Tryz.func9, Tryz.ntmps9
    go_upto_region 1 with fail
    rw [← hw1]
    clear hw1
    go_wp2
    go_ret
    exact ⟨rfl, HB1.out⟩
  have hb : ((C.length : Int) != (C'.length : Int)) = false := by simp; omega
  have hb2 : (C.length != C'.length) = false := by simpa using hn
  have hc : ((E.length : Int) != (E'.length : Int)) = false := by simp; omega
  have hc2 : (E.length != E'.length) = false := by simpa using hm
  have HN := hide_ hn
  have HM := hide_ hm
  clear hn hm
  go_enter Tryz.func9, Tryz.ntmps9
  go_upto_region 1 with fail
  rw [← hw1]
  clear hw1
  go_wp2_with fail
  clear p0 p1 p2 q0 q1 q2 hb hb2 hc hc2
  go_loopw [5] (fun x5 wr => ∃ j : Nat, j ≤ C.length ∧ x5 = .int .i64 (j : Int) ∧ Hid (∀ (i : Nat) (x y : In), i < j → C[i]? = some x → C'[i]? = some y → x = y) ∧ Hid (Below w1.heap.size w1 wr)) (fun x5 _ => C.length - (intOf x5).toNat)
  case atStart => exact ⟨0, Nat.zero_le _, rfl, hide_ (fun i x y hi => by omega), hide_ (Below.refl _ _)⟩
  case round =>
    obtain ⟨j, hj, rfl, HA, HB⟩ := hrel
    generalize wr = wq at *
    have KPq := hide_ (KP.out.later HB.out)
    have KQq := hide_ (KQ.out.later HB.out)
    have HBq := hide_ (below_to HB1.out HB.out)
    have p1 := KPq.out.cell 1; have q1 := KQq.out.cell 1; have p2 := KPq.out.cell 2; have q2 := KQq.out.cell 2
    simp at p1 q1 p2 q2
    by_cases hlt : j < C.length
    · have hlt' : (j : Int) < C.length := by omega
      have hltr : j < C'.length := by have := HN.out; omega
      have hltr' : (j : Int) < C'.length := by omega
      obtain ⟨b, off, rfl, -⟩ := (HR1.out.later HB.out).open (by omega)
      obtain ⟨b', off', rfl, -⟩ := (HR2.out.later HB.out).open (by omega)
      have hx : C[j]? = some (C[j]'hlt) := List.getElem?_eq_getElem hlt
      have hy : C'[j]? = some (C'[j]'hltr) := List.getElem?_eq_getElem hltr
      have hq1 : IRow wq (some ⟨b, off, none⟩) C := HR1.out.later HB.out
      have hq2 : IRow wq (some ⟨b', off', none⟩) C' := HR2.out.later HB.out
      obtain ⟨x0, x1, x2, x3⟩ := hq1.at hx
      obtain ⟨y0, y1, y2, y3⟩ := hq2.at hy
      clear hq1 hq2
      have HX := hide_ hx
      have HY := hide_ hy
      generalize C[j]'hlt = x at *
      generalize C'[j]'hltr = y at *
      clear hx hy
      go_upto_region 6 with fail
      by_cases e0 : x.op = y.op
      case neg =>
        have hR : R = false := HNo.out (fun h => ne_at HX.out HY.out (fun q => e0 (by rw [q])) h.2.2)
        subst hR
        clear HNo HYes
        go_quiet (fail)
        go_wp2_with fail
        go_ret
        exact ⟨rfl, below_drewN HBq.out _⟩
      by_cases e1 : x.a = y.a
      case neg =>
        have hR : R = false := HNo.out (fun h => ne_at HX.out HY.out (fun q => e1 (by rw [q])) h.2.2)
        subst hR
        clear HNo HYes
        go_quiet (fail)
        go_wp2_with fail
        go_ret
        exact ⟨rfl, below_drewN HBq.out _⟩
      by_cases e2 : x.b = y.b
      case neg =>
        have hR : R = false := HNo.out (fun h => ne_at HX.out HY.out (fun q => e2 (by rw [q])) h.2.2)
        subst hR
        clear HNo HYes
        go_quiet (fail)
        go_wp2_with fail
        go_ret
        exact ⟨rfl, below_drewN HBq.out _⟩
      by_cases e3 : x.c = y.c
      case neg =>
        have hR : R = false := HNo.out (fun h => ne_at HX.out HY.out (fun q => e3 (by rw [q])) h.2.2)
        subst hR
        clear HNo HYes
        go_quiet (fail)
        go_wp2_with fail
        go_ret
        exact ⟨rfl, below_drewN HBq.out _⟩
      have HA2 : Hid (∀ (i : Nat) (x y : In), i < j + 1 → C[i]? = some x → C'[i]? = some y → x = y) := hide_ (fun i a b hi ha hb => by
        rcases Nat.lt_or_ge i j with h | h
        · exact HA.out i a b h ha hb
        · obtain rfl : i = j := by omega
          rw [HX.out] at ha
          rw [HY.out] at hb
          injection ha with ha
          injection hb with hb
          rw [← ha, ← hb]
          exact In.ext' e0 e1 e2 e3)
      go_quiet (fail)
      go_wp2_with fail
      go_roundw
      case rel => exact ⟨j + 1, by omega, by go_num, HA2, hide_ (below_drewN HB.out _)⟩
      case measure => simp [intOf]; omega
    · obtain rfl : j = C.length := by omega
      have HCC : Hid (C = C') := hide_ (List.ext_getElem? (fun i => by
        rcases Nat.lt_or_ge i C.length with h | h
        · have h' : i < C'.length := by have := HN.out; omega
          rw [List.getElem?_eq_getElem h, List.getElem?_eq_getElem h']
          exact congrArg some (HA.out i _ _ h (List.getElem?_eq_getElem h) (List.getElem?_eq_getElem h'))
        · rw [List.getElem?_eq_none h, List.getElem?_eq_none (by have := HN.out; omega)]))
      have HE1q := hide_ (HE1.out.later HB.out)
      have HE2q := hide_ (HE2.out.later HB.out)
      generalize hwz : wq = wz at *
      clear hwz
      go_wp2_with fail
      clear p1 p2 q1 q2
      go_loopw [6] (fun x6 wr => ∃ j : Nat, j ≤ E.length ∧ x6 = .int .i64 (j : Int) ∧ Hid (∀ (i : Nat), i < j → E.getD i 0 = E'.getD i 0) ∧ Hid (Below wz.heap.size wz wr)) (fun x6 _ => E.length - (intOf x6).toNat)
      case atStart => exact ⟨0, Nat.zero_le _, rfl, hide_ (fun i hi => by omega), hide_ (Below.refl _ _)⟩
      case round =>
        obtain ⟨j, hj, rfl, HA3, HB3⟩ := hrel
        generalize wr = wy at *
        have KPy := hide_ (KPq.out.later HB3.out)
        have KQy := hide_ (KQq.out.later HB3.out)
        have HBy := hide_ (below_to HBq.out HB3.out)
        have p2 := KPy.out.cell 2; have q2 := KQy.out.cell 2
        simp at p2 q2
        by_cases hlt : j < E.length
        · have hlt' : (j : Int) < E.length := by omega
          have hltr : j < E'.length := by have := HM.out; omega
          have hltr' : (j : Int) < E'.length := by omega
          obtain ⟨b, off, rfl, -, hcs⟩ := (HE1q.out.later HB3.out).open (by omega)
          obtain ⟨b', off', rfl, -, hcs'⟩ := (HE2q.out.later HB3.out).open (by omega)
          have x0 := hcs j hlt
          have y0 := hcs' j hltr
          obtain ⟨x, hx⟩ : ∃ x, E.getD j 0 = x := ⟨_, rfl⟩
          obtain ⟨y, hy⟩ : ∃ y, E'.getD j 0 = y := ⟨_, rfl⟩
          rw [hx] at x0
          rw [hy] at y0
          have HX := hide_ hx
          have HY := hide_ hy
          clear hcs hcs' hx hy
          by_cases hxy : x = y
          · have hne : (x != y) = false := by simpa using hxy
            have HA4 : Hid (∀ (i : Nat), i < j + 1 → E.getD i 0 = E'.getD i 0) := hide_ (fun i hi => by
              rcases Nat.lt_or_ge i j with h | h
              · exact HA3.out i h
              · obtain rfl : i = j := by omega
                rw [HX.out, HY.out, hxy])
            clear hxy
            go_wp2_with fail
            go_quiet (fail)
            go_wp2_with fail
            go_roundw
            case rel => exact ⟨j + 1, by omega, by go_num, HA4, hide_ (below_drewN HB3.out _)⟩
            case measure => simp [intOf]; omega
          · have hne : (x != y) = true := by simpa using hxy
            have hR : R = false := HNo.out (fun h => hxy (by rw [← HX.out, ← HY.out, h.2.1]))
            subst hR
            clear hxy HNo HYes
            go_wp2_with fail
            go_quiet (fail)
            go_wp2_with fail
            go_ret
            exact ⟨rfl, below_drewN HBy.out _⟩
        · obtain rfl : j = E.length := by omega
          have hR : R = true := HYes.out ⟨by first | trivial | rfl, List.ext_getElem? (fun i => by
            rcases Nat.lt_or_ge i E.length with h | h
            · have h' : i < E'.length := by have := HM.out; omega
              have := HA3.out i h
              rw [List.getD, List.getD, List.getElem?_eq_getElem h, List.getElem?_eq_getElem h'] at this
              rw [List.getElem?_eq_getElem h, List.getElem?_eq_getElem h']
              exact congrArg some this
            · rw [List.getElem?_eq_none h, List.getElem?_eq_none (by have := HM.out; omega)]), HCC.out⟩
          subst hR
          clear HNo HYes
          go_wp2
          go_ret
          exact ⟨rfl, HBy.out⟩
end Go.Proofs.YtjamfbpdepahnaaGreat
