import Derived.OrdersHeld
import Derived.Deep.RegionHeld
import Derived.Test.YtpkghpfdibnhcaaZo
import Derived.Test.YtpkghpfdibnhcaaZn
import Derived.BigQuiet
import Derived.Deep.RegionHeldLaw
import Derived.Test.YtpkghpfdibnhcaaZrd
import Derived.Test.YtpkghpfdibnhcaaZp
/- A region that draws its order and whose last operation may change what the others read: the condition S on the world is shown behind every operation but that last one, which waits for all that are taken first. Over any program. -/
namespace Go.Proofs.Ytpkghpfdibnhcaa
set_option linter.unusedVariables false

section
variable {P : Program} {ops : Array Oper} {Q : Exit → Act → World → Prop} {md : Region.Mode} {S : World → Prop} {f : Nat}
/-- Whatever order is picked from here on; S holds behind every operation but number f. -/
def wpAnyF (P : Program) (md : Region.Mode) (ops : Array Oper) (Q : Exit → Act → World → Prop) (S : World → Prop) (f : Nat) : Nat → Array Bool → Act → World → Prop
  | 0, listed, a, w => Region.ready md ops listed = [] ∧ Q .normal a w
  | fuel + 1, listed, a, w =>
    (Region.ready md ops listed = [] → Q .normal a w) ∧
    ∀ i ∈ Region.ready md ops listed, wpOp P ops Q i (fun a' w' => (i ≠ f → S w') ∧ wpAnyF P md ops Q S f fuel (listed.setIfInBounds i true) a' w') a w
theorem wpAny_of_F : ∀ (fuel : Nat) (listed : Array Bool) (a : Act) (w : World), wpAnyF P md ops Q S f fuel listed a w → wpAny P md ops Q fuel listed a w
  | 0, _, _, _, h => h
  | fuel + 1, _, _, _, h => ⟨h.1, fun i hi => wpOp_mono (fun a' w' h' => wpAny_of_F fuel _ a' w' h'.2) (h.2 i hi)⟩
/-- The operations ds wait for number i, one by another. -/
def waits (md : Region.Mode) (ops : Array Oper) (listed : Array Bool) (i f : Nat) (ds : List Nat) : Bool :=
  ds.contains f && ds.all (fun k => (listed.getD k true == false) && (match ops[k]? with | some o => o.after.any (fun e => Region.binds md e && (e.on == i || ds.contains e.on)) | none => false))
theorem unlisted_not {listed : Array Bool} {k : Nat} (h : listed.getD k true = false) : ¬ listed.getD k false = true := by
  intro h1
  rcases Nat.lt_or_ge k listed.size with h' | h'
  · simp [h'] at h h1; rw [h] at h1; cases h1
  · simp [Array.getElem?_eq_none h'] at h1
theorem wpAnyF_first {i : Nat} {oi : Oper} {v : Value} {ds : List Nat} (hi : ops[i]? = some oi) (hsel : ∀ (j : Nat) (o : Oper) cs b, ops[j]? = some o → o.op ≠ .select cs b)
    (hQ : ∀ c a w, Q (.panic c) (a.put oi.dst v) w → Q (.panic c) a w) (hf : f ∈ ds) (hcl : ∀ k ∈ ds, ∃ o, ops[k]? = some o ∧ ∃ e ∈ o.after, Region.binds md e = true ∧ (e.on = i ∨ e.on ∈ ds)) :
    ∀ (fuel : Nat) (listed : Array Bool) (a : Act) (w : World),
      (∀ k ∈ ds, listed.getD k true = false) →
      (∀ j oj, ops[j]? = some oj → j ≠ i → listed.getD j true = false → (∀ e ∈ oj.after, Region.binds md e = true → e.on ≠ i) → oi.apart ops oj = true) →
      i ∈ Region.ready md ops listed → YieldsIf P ops S oi v a → S w →
      wpAnyF P md ops Q S f fuel (listed.setIfInBounds i true) (a.put oi.dst v) w → wpAnyF P md ops Q S f (fuel + 1) listed a w := by
  intro fuel
  induction fuel with
  | zero =>
    intro listed a w _ _ hr hy hS H
    refine ⟨fun h => (by rw [h] at hr; cases hr), fun j hj => ?_⟩
    by_cases hji : j = i
    · subst hji; exact hy.wpOp hi hS ⟨fun _ => hS, H⟩
    · have := ready_mono hj hji
      rw [H.1] at this
      cases this
  | succ fuel ih =>
    intro listed a w hun hfree hr hy hS H
    refine ⟨fun h => (by rw [h] at hr; cases hr), fun j hj => ?_⟩
    by_cases hji : j = i
    · subst hji; exact hy.wpOp hi hS ⟨fun _ => hS, H⟩
    · have h1 := H.2 j (ready_mono hj hji)
      obtain ⟨hjun, oj, hoj, hall⟩ := mem_ready.1 hj
      have hiun := (mem_ready.1 hr).1
      have hnot : ∀ e ∈ oj.after, Region.binds md e = true → e.on ≠ i := fun e he hb heq => by
        have h1 := hall e he hb
        rw [heq] at h1
        exact unlisted_not hiun h1
      have hjd : ¬ j ∈ ds := fun hjd => by
        obtain ⟨o, ho, e, he, hb, hon⟩ := hcl j hjd
        rw [hoj] at ho
        injection ho with ho
        subst ho
        rcases hon with hon | hon
        · exact hnot e he hb hon
        · exact unlisted_not (hun _ hon) (hall e he hb)
      have hjf : j ≠ f := fun h => hjd (h ▸ hf)
      have h2 := wpOp_putIf hoj (hfree j oj hoj hji hjun hnot) (fun cs b => hsel i oi cs b hi) (fun cs b => hsel j oj cs b hoj) hQ hy h1
      have hfree' : ∀ k ok, ops[k]? = some ok → k ≠ i → (listed.setIfInBounds j true).getD k true = false →
          (∀ e ∈ ok.after, Region.binds md e = true → e.on ≠ i) → oi.apart ops ok = true := fun k ok hk hki hun hno => by
        refine hfree k ok hk hki ?_ hno
        by_cases hjk : j = k
        · subst hjk; exact hjun
        · rw [getD_set_ne true hjk] at hun; exact hun
      have hun' : ∀ k ∈ ds, (listed.setIfInBounds j true).getD k true = false := fun k hk => by
        have hne : j ≠ k := fun h => hjd (by rw [h]; exact hk)
        rw [getD_set_ne true hne]
        exact hun k hk
      refine wpOp_mono (fun a' w' h3 => ⟨fun _ => h3.2.1 hjf, ih (listed.setIfInBounds j true) a' w' hun' hfree' (ready_mono hr (Ne.symm hji)) h3.1 (h3.2.1 hjf) ?_⟩) h2
      rw [Array.setIfInBounds_comm _ _ hji]
      exact h3.2.2
/-- Take number i first; ds: operations that wait for it, f among them. -/
theorem wpAnyF_take {i : Nat} {oi : Oper} {v : Value} {fuel : Nat} {listed : Array Bool} {a : Act} {w : World} (ds : List Nat) (hd : waits md ops listed i f ds = true) (hi : ops[i]? = some oi)
    (hs : Region.noSelect ops = true) (hf : Region.free md ops listed i = true) (hr : (Region.ready md ops listed).contains i = true)
    (hQ : ∀ c a w, Q (.panic c) (a.put oi.dst v) w → Q (.panic c) a w) (hy : YieldsIf P ops S oi v a) (hS : S w)
    (h : wpAnyF P md ops Q S f fuel (listed.setIfInBounds i true) (a.put oi.dst v) w) : wpAnyF P md ops Q S f (fuel + 1) listed a w := by
  unfold waits at hd
  rw [Bool.and_eq_true, List.all_eq_true] at hd
  have hcl : ∀ k ∈ ds, listed.getD k true = false ∧ ∃ o, ops[k]? = some o ∧ ∃ e ∈ o.after, Region.binds md e = true ∧ (e.on = i ∨ e.on ∈ ds) := fun k hk => by
    have h1 := hd.2 k hk
    rw [Bool.and_eq_true] at h1
    refine ⟨by simpa using h1.1, ?_⟩
    have h2 := h1.2
    cases ho : ops[k]? with
    | none => rw [ho] at h2; cases h2
    | some o =>
      rw [ho] at h2
      simp only [Array.any_eq_true'] at h2
      obtain ⟨e, he, h3⟩ := h2
      rw [Bool.and_eq_true, Bool.or_eq_true] at h3
      exact ⟨o, rfl, e, he, h3.1, h3.2.imp (fun h => by simpa using h) (fun h => by simpa using h)⟩
  exact wpAnyF_first hi (Region.noSelect_spec hs) hQ (by simpa using hd.1) (fun k hk => (hcl k hk).2) fuel listed a w (fun k hk => (hcl k hk).1) (Region.free_spec hi hf) (by simpa using hr) hy hS h
def AllReadyF (P : Program) (md : Region.Mode) (ops : Array Oper) (Q : Exit → Act → World → Prop) (S : World → Prop) (f fuel : Nat) (listed : Array Bool) (a : Act) (w : World) (rs : List Nat) : Prop :=
  ∀ i ∈ rs, wpOp P ops Q i (fun a' w' => (i ≠ f → S w') ∧ wpAnyF P md ops Q S f fuel (listed.setIfInBounds i true) a' w') a w
theorem AllReadyF.nil {fuel : Nat} {listed : Array Bool} {a : Act} {w : World} : AllReadyF P md ops Q S f fuel listed a w [] := fun _ h => by cases h
theorem AllReadyF.cons {fuel : Nat} {listed : Array Bool} {a : Act} {w : World} {i : Nat} {o : Oper} {rs : List Nat} (ho : ops[i]? = some o)
    (h : ∀ K' : Act → World → Prop, Shut (∀ a w, S w → (S w → wpAnyF P md ops Q S f fuel (listed.setIfInBounds i true) a w) → K' a w) → if Region.wanted o (yielded ops a.tmps) = true then Oper.wp P o a w K' Q else K' (a.put o.dst undef) w)
    (hs : AllReadyF P md ops Q S f fuel listed a w rs) : AllReadyF P md ops Q S f fuel listed a w (i :: rs) := fun j hj => by
  rcases List.mem_cons.1 hj with rfl | hj
  · exact wpOp_step ho (fun K' hK => h K' (fun a w hS hW => hK a w ⟨fun _ => hS, hW hS⟩))
  · exact hs j hj
/-- The last one: nothing is asked of the world behind it. -/
theorem AllReadyF.last {fuel : Nat} {listed : Array Bool} {a : Act} {w : World} {o : Oper} (ho : ops[f]? = some o)
    (h : ∀ K' : Act → World → Prop, Shut (∀ a w, wpAnyF P md ops Q S f fuel (listed.setIfInBounds f true) a w → K' a w) → if Region.wanted o (yielded ops a.tmps) = true then Oper.wp P o a w K' Q else K' (a.put o.dst undef) w) :
    AllReadyF P md ops Q S f fuel listed a w [f] := fun j hj => by
  rw [List.mem_singleton] at hj
  subst hj
  exact wpOp_step ho (fun K' hK => h K' (fun a w hW => hK a w ⟨fun h => absurd rfl h, hW⟩))
theorem wpAnyF_ready {rs : List Nat} {fuel : Nat} {listed : Array Bool} {a : Act} {w : World} (hr : Region.ready md ops listed = rs) (hne : rs ≠ [])
    (h : AllReadyF P md ops Q S f fuel listed a w rs) : wpAnyF P md ops Q S f (fuel + 1) listed a w := ⟨fun h0 => absurd (hr ▸ h0) hne, hr ▸ h⟩
theorem wpAnyF_done {listed : Array Bool} {a : Act} {w : World} (hr : Region.ready md ops listed = []) (h : Q .normal a w) :
    ∀ fuel, wpAnyF P md ops Q S f fuel listed a w
  | 0 => ⟨hr, h⟩
  | _ + 1 => ⟨fun _ => h, by rw [hr]; simp⟩
theorem wp_region_last {id : Nat} {a : Act} {w : World} (f : Nat) (S : World → Prop) (hm : P.follows .mixedOrders = true) (hS : S w.drew)
    (h : S w.drew → wpAnyF P .any ops Q S f ops.size (Array.replicate ops.size false) a w.drew) : (Code.region id ops true).wp P Q a w :=
  wp_region_any hm (wpAny_of_F _ _ _ _ (h hS))
end
end Go.Proofs.Ytpkghpfdibnhcaa
/- Plain: what extents are, and how they grow. -/
namespace Go.Proofs.Ytpkghpfdibnhcaa
set_option linter.unusedVariables false

theorem plus2_eq (a b : Int) : plus2 a b = capH (sz a + sz b) := by unfold plus2; simp [tot]
theorem sz_mono {a b : Int} (h : a ≤ b) : sz a ≤ sz b := by
  unfold sz
  repeat' split
  all_goals omega
theorem capH_mono {a b : Int} (h : a ≤ b) : capH a ≤ capH b := by
  unfold capH
  repeat' split
  all_goals omega
theorem sz_id {a : Int} (h0 : 0 ≤ a) (h1 : a ≤ 4611686018427387904) : sz a = a := by
  unfold sz
  rw [if_neg (by omega), if_pos h1]
theorem plus2_mono {a b c d : Int} (h : a ≤ c) (k : b ≤ d) : plus2 a b ≤ plus2 c d := by
  rw [plus2_eq, plus2_eq]
  exact capH_mono (Int.add_le_add (sz_mono h) (sz_mono k))
theorem times2_mono {a b c d : Int} (h : a ≤ c) (k : b ≤ d) : times2 a b ≤ times2 c d := by
  unfold times2
  exact capH_mono (Int.mul_le_mul (sz_mono h) (sz_mono k) (sz_bd b).1 (sz_bd c).1)
theorem times2_bd (a b : Int) : 0 ≤ times2 a b ∧ times2 a b ≤ 4611686018427387904 := by
  have := Int.mul_nonneg (sz_bd a).1 (sz_bd b).1
  unfold times2 capH
  split <;> omega
theorem plus2_l {a : Int} (b : Int) (h0 : 0 ≤ a) (h1 : a ≤ 4611686018427387904) : a ≤ plus2 a b := by
  have := (sz_bd b).1
  rw [plus2_eq, sz_id h0 h1]
  unfold capH
  split <;> omega
theorem plus2_r {a : Int} (b : Int) (h0 : 0 ≤ a) (h1 : a ≤ 4611686018427387904) : a ≤ plus2 b a := by
  have := (sz_bd b).1
  rw [plus2_eq, sz_id h0 h1]
  unfold capH
  split <;> omega
/-- What an extent is. -/
structure XOk (x : Ex) : Prop where
  l0 : 0 ≤ x.l
  lm : x.l ≤ x.m
  mh : x.m ≤ 4611686018427387904
  d0 : 0 ≤ x.d
  fx : x.f = true → x.l = x.m
theorem XOk.zero : XOk ex0 := ⟨by decide, by decide, by decide, by decide, fun _ => rfl⟩
theorem XOk.at {X : List Ex} (h : ∀ x ∈ X, XOk x) (i : Int) : XOk (exAt X i) := by
  unfold exAt
  rcases Nat.lt_or_ge i.toNat X.length with hi | hi
  · rw [show X.getD i.toNat ex0 = X[i.toNat]'hi by simp [List.getD, hi]]
    exact h _ (List.getElem_mem hi)
  · rw [show X.getD i.toNat ex0 = ex0 by simp [List.getD, List.getElem?_eq_none hi]]
    exact XOk.zero
theorem XOk.off {x : Ex} (h : XOk x) : XOk (offX x) := by
  unfold offX
  split
  · exact h
  · exact ⟨(plus2_bd 4 x.l).1, plus2_mono (Int.le_refl 4) h.lm, (plus2_bd 4 x.m).2, h.d0, fun e => absurd e (by assumption)⟩
theorem off_m {x : Ex} (h : XOk x) : x.m ≤ (offX x).m := by
  unfold offX
  split
  · exact Int.le_refl _
  · exact plus2_r 4 (Int.le_trans h.l0 h.lm) h.mh
theorem off_f (x : Ex) : (offX x).f = x.f := by
  unfold offX
  split <;> rfl
theorem rowX_snoc (l : List Ex) (x : Ex) : rowX (l ++ [x]) = ((rowX l).1 && (offX x).f, plus2 (rowX l).2.1 (offX x).l, plus2 (rowX l).2.2 (offX x).m) := by simp [rowX]
theorem chX_snoc (l : List Ex) (x : Ex) : chX (l ++ [x]) = (min (chX l).1 x.l, max (chX l).2 x.m) := by simp [chX]
theorem deepX_snoc (l : List Ex) (x : Ex) : deepX (l ++ [x]) = max (deepX l) x.d := by simp [deepX]
theorem rowX_ok (l : List Ex) : (∀ x ∈ l, XOk x) → 0 ≤ (rowX l).2.1 ∧ (rowX l).2.1 ≤ (rowX l).2.2 ∧ (rowX l).2.2 ≤ 4611686018427387904 ∧ ((rowX l).1 = true → (rowX l).2.1 = (rowX l).2.2) := by
  refine snoc_ind (P := fun l => (∀ x ∈ l, XOk x) → 0 ≤ (rowX l).2.1 ∧ (rowX l).2.1 ≤ (rowX l).2.2 ∧ (rowX l).2.2 ≤ 4611686018427387904 ∧ ((rowX l).1 = true → (rowX l).2.1 = (rowX l).2.2)) (fun _ => by simp [rowX]) (fun l x ih h => ?_) l
  have h1 := ih (fun y hy => h y (by simp [hy]))
  have hx := (h x (by simp)).off
  rw [rowX_snoc]
  refine ⟨(plus2_bd _ _).1, plus2_mono h1.2.1 hx.lm, (plus2_bd _ _).2, fun hf => ?_⟩
  simp only [Bool.and_eq_true] at hf
  simp only
  rw [h1.2.2.2 hf.1, hx.fx hf.2]
theorem chX_ok (l : List Ex) : (∀ x ∈ l, XOk x) → 0 ≤ (chX l).1 ∧ (chX l).1 ≤ 4611686018427387904 ∧ 0 ≤ (chX l).2 ∧ (chX l).2 ≤ 4611686018427387904 ∧ (l ≠ [] → (chX l).1 ≤ (chX l).2) := by
  refine snoc_ind (P := fun l => (∀ x ∈ l, XOk x) → 0 ≤ (chX l).1 ∧ (chX l).1 ≤ 4611686018427387904 ∧ 0 ≤ (chX l).2 ∧ (chX l).2 ≤ 4611686018427387904 ∧ (l ≠ [] → (chX l).1 ≤ (chX l).2)) (fun _ => by simp [chX]) (fun l x ih h => ?_) l
  have h1 := ih (fun y hy => h y (by simp [hy]))
  have hx := h x (by simp)
  have := hx.l0; have := hx.lm; have := hx.mh
  rw [chX_snoc]
  simp only
  refine ⟨by omega, by omega, by omega, by omega, fun _ => by omega⟩
theorem deepX_nn (l : List Ex) : 0 ≤ deepX l := by
  refine snoc_ind (P := fun l => 0 ≤ deepX l) (by simp [deepX]) (fun l x ih => ?_) l
  rw [deepX_snoc]
  omega
theorem deepX_ge (l : List Ex) : ∀ x ∈ l, x.d ≤ deepX l := by
  refine snoc_ind (P := fun l => ∀ x ∈ l, x.d ≤ deepX l) (fun x hx => by cases hx) (fun l y ih x hx => ?_) l
  rw [deepX_snoc]
  rcases List.mem_append.1 hx with hx | hx
  · have := ih x hx; omega
  · simp at hx; subst hx; omega
theorem chX_ge (l : List Ex) : ∀ x ∈ l, (chX l).1 ≤ x.l ∧ x.m ≤ (chX l).2 := by
  refine snoc_ind (P := fun l => ∀ x ∈ l, (chX l).1 ≤ x.l ∧ x.m ≤ (chX l).2) (fun x hx => by cases hx) (fun l y ih x hx => ?_) l
  rw [chX_snoc]
  simp only
  rcases List.mem_append.1 hx with hx | hx
  · have := ih x hx; omega
  · simp at hx; subst hx; omega
theorem rowX_ge (l : List Ex) : (∀ x ∈ l, XOk x) → ∀ x ∈ l, x.m ≤ (rowX l).2.2 ∧ ((rowX l).1 = true → x.f = true) := by
  refine snoc_ind (P := fun l => (∀ x ∈ l, XOk x) → ∀ x ∈ l, x.m ≤ (rowX l).2.2 ∧ ((rowX l).1 = true → x.f = true)) (fun _ x hx => by cases hx) (fun l y ih h x hx => ?_) l
  have hl : ∀ x ∈ l, XOk x := fun z hz => h z (by simp [hz])
  have h1 := rowX_ok l hl
  rw [rowX_snoc]
  simp only
  rcases List.mem_append.1 hx with hx | hx
  · have h2 := ih hl x hx
    have h3 := plus2_l (offX y).m (a := (rowX l).2.2) (by omega) h1.2.2.1
    exact ⟨by omega, fun hf => h2.2 (by simp only [Bool.and_eq_true] at hf; exact hf.1)⟩
  · simp at hx
    subst hx
    have hx := h x (by simp)
    have h3 := plus2_r (rowX l).2.2 (Int.le_trans hx.off.l0 hx.off.lm) hx.off.mh
    have h4 := off_m hx
    exact ⟨by omega, fun hf => by simp only [Bool.and_eq_true] at hf; rw [← off_f]; exact hf.2⟩
theorem kidL_ok {X : List Ex} (h : ∀ x ∈ X, XOk x) (k el : Int) (ps : List Pt) : ∀ x ∈ kidL X k el ps, XOk x := fun x hx => by
  unfold kidL at hx
  rcases List.mem_append.1 hx with hx | hx
  · split at hx
    · simp at hx; subst hx; exact XOk.at h el
    · cases hx
  · simp only [List.mem_map] at hx
    obtain ⟨p, _, rfl⟩ := hx
    exact XOk.at h p.ty
theorem tyOk_pos {t : Ty} {i : Int} (h : tyOk t i = true) (hk : t.k = 7 ∨ t.k = 8) : 0 < t.ps.length := by
  have h1 := (tyOk_parts h).2.2
  have key : ∀ r, allP r t.ps i = true → 0 < t.ps.length := fun r hr => by
    unfold allP at hr
    rw [Bool.and_eq_true, decide_eq_true_eq] at hr
    exact hr.1.1
  unfold partsOk at h1
  split at h1
  · exact key _ h1
  · rw [if_pos (by omega)] at h1
    exact key _ h1
theorem tyOk_none {t : Ty} {i : Int} (h : tyOk t i = true) (hk : t.k ≠ 7) (hk8 : t.k ≠ 8) : t.ps = [] := by
  have h1 := (tyOk_parts h).2.2
  unfold partsOk at h1
  rw [if_neg hk8, if_neg hk] at h1
  exact List.eq_nil_of_length_eq_zero (of_decide_eq_true h1)
theorem nOk_n {t : Ty} {i : Int} (h : tyOk t i = true) : (t.k = 1 ∧ 0 ≤ t.n ∧ t.n ≤ 8) ∨ ((t.k = 4 ∨ t.k = 5) ∧ 1 ≤ t.n ∧ t.n ≤ 1048576) ∨ ((t.k = 2 ∨ t.k = 3 ∨ t.k = 6 ∨ t.k = 7 ∨ t.k = 8) ∧ t.n = 0) := by
  have h1 := of_decide_eq_true (tyOk_parts h).1
  omega
theorem ext1_ok {X : List Ex} {t : Ty} {i : Int} (h : ∀ x ∈ X, XOk x) (ht : tyOk t i = true) : XOk (ext1 X t) ∧ 1 ≤ (ext1 X t).d := by
  have hn := nOk_n ht
  have hd := deepX_nn (kidL X t.k t.e t.ps)
  have hK := kidL_ok h t.k t.e t.ps
  have hE := (XOk.at h t.e).off
  refine ⟨?_, by rw [ext1_d]; omega⟩
  unfold ext1
  split
  · exact ⟨by simp only; omega, Int.le_refl _, by simp only; omega, by simp only; omega, fun _ => rfl⟩
  split
  · exact ⟨by simp only; omega, Int.le_refl _, by simp only; omega, by simp only; omega, fun _ => rfl⟩
  split
  · exact ⟨by simp only; omega, by simp only; omega, by simp only; omega, by simp only; omega, fun e => by cases e⟩
  split
  · refine ⟨(times2_bd _ _).1, times2_mono (Int.le_refl _) hE.lm, (times2_bd _ _).2, by simp only; omega, fun e => ?_⟩
    simp only at e ⊢
    rw [hE.fx e]
  split
  · refine ⟨(times2_bd _ _).1, ?_, (times2_bd _ _).2, by simp only; omega, fun e => by cases e⟩
    exact times2_mono (by omega) hE.lm
  split
  · have hK6 : ∀ x ∈ kidL X t.k t.e t.ps ++ [ex0], XOk x := fun x hx => by
      rcases List.mem_append.1 hx with hx | hx
      · exact hK x hx
      · simp at hx; subst hx; exact XOk.zero
    have hc := chX_ok _ hK6
    exact ⟨(plus2_bd _ _).1, plus2_mono (Int.le_refl 1) (hc.2.2.2.2 (by simp)), (plus2_bd _ _).2, by simp only; omega, fun e => by cases e⟩
  split
  · have hc := chX_ok _ hK
    have hp := tyOk_pos ht (by omega)
    have hne : kidL X t.k t.e t.ps ≠ [] := fun e => by
      have : (kidL X t.k t.e t.ps).length = 0 := by rw [e]; rfl
      unfold kidL at this
      rw [List.length_append, List.length_map] at this
      omega
    exact ⟨(plus2_bd _ _).1, plus2_mono (Int.le_refl 1) (hc.2.2.2.2 hne), (plus2_bd _ _).2, by simp only; omega, fun e => by cases e⟩
  · have hr := rowX_ok _ hK
    exact ⟨hr.1, hr.2.1, hr.2.2.1, by simp only; omega, hr.2.2.2⟩
/-- All extents of a right schema. -/
theorem extL_ok {T : List Ty} {R : List Rt} (hS : OkS T R) : ∀ m, m ≤ T.length → ∀ x ∈ extL (T.take m), XOk x ∧ 1 ≤ x.d
  | 0, _ => fun x hx => by simp [extL] at hx
  | m + 1, hm => fun x hx => by
    rw [List.take_succ_eq_append_getElem (by omega : m < T.length), extL_snoc] at hx
    have ih := extL_ok hS m (by omega)
    rcases List.mem_append.1 hx with hx | hx
    · exact ih x hx
    · simp only [List.mem_singleton] at hx
      subst hx
      have ht := hS.ty m (by omega)
      rw [show T.getD m ty0 = T[m]'(by omega) by simp [List.getD, (by omega : m < T.length)]] at ht
      exact ext1_ok (fun y hy => (ih y hy).1) ht
theorem extL_at {T : List Ty} {i : Nat} {t : Ty} (h : T[i]? = some t) : (extL T)[i]? = some (ext1 (extL (T.take i)) t) := by
  have hi := (List.getElem?_eq_some_iff.1 h).1
  have e : extL (T.take (i + 1)) = extL (T.take i) ++ [ext1 (extL (T.take i)) t] := by rw [List.take_succ_eq_append_getElem hi, (List.getElem?_eq_some_iff.1 h).2, extL_snoc]
  have hl : (extL (T.take i)).length = i := by rw [extL_len]; simp; omega
  have e2 := extL_take T (i + 1) hi
  have e3 : (extL T)[i]? = (extL (T.take (i + 1)))[i]? := by rw [e2, List.getElem?_take, if_pos (by omega)]
  rw [e3, e, List.getElem?_append_right (by omega), hl]
  simp
theorem exAt_take {T : List Ty} {i : Nat} {j : Int} (hi : i ≤ T.length) (h0 : 0 ≤ j) (h1 : j < i) : exAt (extL (T.take i)) j = exAt (extL T) j := by
  unfold exAt
  rw [extL_take T i hi]
  have : j.toNat < i := by omega
  simp only [List.getD, List.getElem?_take, if_pos this]
theorem exAt_ext {T : List Ty} {i : Nat} {t : Ty} (h : T[i]? = some t) : exAt (extL T) (i : Int) = ext1 (extL (T.take i)) t := by
  unfold exAt
  rw [Int.toNat_natCast]
  simp [List.getD, extL_at h]
/-- What a type's extent is beside its parts'. -/
theorem part_ext {T : List Ty} {R : List Rt} (hS : OkS T R) {i k : Nat} {t : Ty} {p : Pt} (ht : T[i]? = some t) (hp : t.ps[k]? = some p) :
    0 ≤ p.ty ∧ p.ty < i ∧ (exAt (extL T) p.ty).d < (exAt (extL T) (i : Int)).d ∧ (exAt (extL T) p.ty).m ≤ (exAt (extL T) (i : Int)).m ∧ ((exAt (extL T) (i : Int)).f = true → (exAt (extL T) p.ty).f = true) := by
  have hi := (List.getElem?_eq_some_iff.1 ht).1
  have hok := hS.ty i hi
  rw [show T.getD i ty0 = t by simp [List.getD, ht]] at hok
  obtain ⟨a0, a1⟩ := tyOk_part hok hp
  refine ⟨a0, a1, ?_⟩
  rw [exAt_ext ht, ← exAt_take (Nat.le_of_lt hi) a0 a1]
  have hX := extL_ok hS i (Nat.le_of_lt hi)
  generalize extL (T.take i) = X at *
  have hXo : ∀ x ∈ X, XOk x := fun x hx => (hX x hx).1
  have hK := kidL_ok hXo t.k t.e t.ps
  have hm : exAt X p.ty ∈ kidL X t.k t.e t.ps := by
    unfold kidL
    exact List.mem_append.2 (.inr (List.mem_map.2 ⟨p, List.mem_of_getElem? hp, rfl⟩))
  have hd := deepX_ge _ _ hm
  have h78 : t.k = 7 ∨ t.k = 8 := by
    by_cases h7 : t.k = 7
    · exact .inl h7
    · by_cases h8 : t.k = 8
      · exact .inr h8
      · rw [tyOk_none hok h7 h8] at hp; simp at hp
  refine ⟨by rw [ext1_d]; omega, ?_⟩
  unfold ext1
  rcases h78 with h7 | h8
  · rw [if_neg (by omega), if_neg (by omega), if_neg (by omega), if_neg (by omega), if_neg (by omega), if_neg (by omega), if_pos h7]
    have hc := chX_ok _ hK
    have hg := (chX_ge _ _ hm).2
    have := plus2_r 1 hc.2.2.1 hc.2.2.2.1
    simp only
    exact ⟨by omega, fun e => by cases e⟩
  · rw [if_neg (by omega), if_neg (by omega), if_neg (by omega), if_neg (by omega), if_neg (by omega), if_neg (by omega), if_neg (by omega)]
    exact rowX_ge _ hK _ hm
/-- A greater number. -/
theorem more_n {X : List Ex} {t : Ty} {n : Int} (hk : t.k = 4 ∨ t.k = 5) (hn : t.n ≤ n) : (ext1 X t).m ≤ (ext1 X ⟨t.k, n, t.e, t.ps⟩).m ∧ (ext1 X t).l ≤ (ext1 X ⟨t.k, n, t.e, t.ps⟩).l ∧ ((ext1 X ⟨t.k, n, t.e, t.ps⟩).f = true → (ext1 X t).f = true) := by
  unfold ext1
  simp only
  rcases hk with hk | hk
  · simp only [hk]
    exact ⟨times2_mono hn (Int.le_refl _), times2_mono hn (Int.le_refl _), fun h => h⟩
  · simp only [hk]
    exact ⟨times2_mono hn (Int.le_refl _), Int.le_refl _, fun h => by cases h⟩
theorem ext1_8 {t : Ty} (X : List Ex) (hk : t.k = 8) : ext1 X t = ⟨(rowX (kidL X t.k t.e t.ps)).1, (rowX (kidL X t.k t.e t.ps)).2.1, (rowX (kidL X t.k t.e t.ps)).2.2, 1 + deepX (kidL X t.k t.e t.ps)⟩ := by
  unfold ext1
  rw [if_neg (by omega), if_neg (by omega), if_neg (by omega), if_neg (by omega), if_neg (by omega), if_neg (by omega), if_neg (by omega)]
/-- A field more. -/
theorem more_p {X : List Ex} {t : Ty} {p : Pt} (h : ∀ x ∈ X, XOk x) (hk : t.k = 8) : (ext1 X t).m ≤ (ext1 X ⟨t.k, t.n, t.e, t.ps ++ [p]⟩).m ∧ (ext1 X t).l ≤ (ext1 X ⟨t.k, t.n, t.e, t.ps ++ [p]⟩).l ∧ ((ext1 X ⟨t.k, t.n, t.e, t.ps ++ [p]⟩).f = true → (ext1 X t).f = true) := by
  have e : kidL X t.k t.e (t.ps ++ [p]) = kidL X t.k t.e t.ps ++ [exAt X p.ty] := by unfold kidL; rw [List.map_append, ← List.append_assoc]; rfl
  have hr := rowX_ok _ (kidL_ok h t.k t.e t.ps)
  rw [ext1_8 (t := ⟨t.k, t.n, t.e, t.ps ++ [p]⟩) X hk, ext1_8 X hk]
  simp only
  rw [e, rowX_snoc]
  simp only
  refine ⟨plus2_l _ (Int.le_trans hr.1 hr.2.1) hr.2.2.1, plus2_l _ hr.1 (Int.le_trans hr.2.1 hr.2.2.1), fun hf => ?_⟩
  simp only [Bool.and_eq_true] at hf
  exact hf.1
theorem set_take {α : Type} (T : List α) (k : Nat) (y : α) : (T.set k y).take k = T.take k := by
  apply List.ext_getElem?
  intro j
  rw [List.getElem?_take, List.getElem?_take]
  split
  · rw [List.getElem?_set_ne (by omega)]
  · rfl
theorem set_ext {T : List Ty} {k : Nat} (y : Ty) (h : k < T.length) : exAt (extL (T.set k y)) (k : Int) = ext1 (extL (T.take k)) y := by
  rw [exAt_ext (t := y) (by rw [List.getElem?_set_self h]), set_take]
/-- The cells of an extent in a list of the call's own. -/
theorem XOwn.at4 {w : World} {B g n cap i : Nat} {X : List Ex} (h : XOwn w B (.slice (some ⟨g, 0, none⟩) n cap) X) (hi : i < X.length) : w.cell? ⟨g, i * 4, none⟩ = some (.bool (exAt X (i : Int)).f) ∧ w.cell? ⟨g, i * 4 + 1, none⟩ = some (.int .i64 (exAt X (i : Int)).l) ∧ w.cell? ⟨g, i * 4 + 2, none⟩ = some (.int .i64 (exAt X (i : Int)).m) ∧ w.cell? ⟨g, i * 4 + 3, none⟩ = some (.int .i64 (exAt X (i : Int)).d) := by
  obtain ⟨a, c, e, -, -, hr⟩ := h.row
  injection e with e1 _ _
  subst e1
  obtain ⟨b, off, e2, -, hc⟩ := hr.open (by omega)
  injection e2 with e2
  injection e2 with e3 e4 _
  subst e3 e4
  have hx := exAt_at hi
  have h0 := hc i _ hx 0 (by decide); have h1 := hc i _ hx 1 (by decide); have h2 := hc i _ hx 2 (by decide); have h3 := hc i _ hx 3 (by decide)
  simp only [Nat.zero_add, Nat.add_zero] at h0 h1 h2 h3
  exact ⟨h0, h1, h2, h3⟩
end Go.Proofs.Ytpkghpfdibnhcaa
/- The document's sums and products of sizes; part, leaf. -/
namespace Go.Proofs.Ytpkghpfdibnhcaa
open Go.RowKit
set_option linter.unusedVariables false

set_option maxRecDepth 100000 in
theorem rsize_any (n : Int) (w : World) : Calls Try.prog 102 #[.int .i64 n] w fun e w' => e = .returned (.int .i64 (sz n)) ∧ w = w' := by
  obtain ⟨s, hs⟩ : ∃ s, sz n = s := ⟨_, rfl⟩
  have HS := hide_ hs
  clear hs
  go_enter Try.func102, Try.ntmps102
  go_wp2
  all_goals
    go_ret
    exact ⟨ret_int (by have := HS.out; unfold sz at *; repeat' split; all_goals omega), rfl⟩
theorem div_gt {a b : Int} (ha : 0 ≤ a) (hb : 0 < b) : (4611686018427387904 : Int) / b < a ↔ 4611686018427387904 < a * b := Int.ediv_lt_iff_lt_mul hb
theorem rowI_open {w : World} {a : Option Addr} {l : List Int} (h : RowI w a l) (hl : 0 < l.length) : ∃ b off, a = some ⟨b, off, none⟩ ∧ ∀ i, i < l.length → w.cell? ⟨b, off + i, none⟩ = some (.int .i64 (l.getD i 0)) := by
  rcases h with rfl | h
  · simp at hl
  · exact h
set_option maxRecDepth 100000 in
set_option maxHeartbeats 4000000 in
theorem rTimes_any (a b : Int) (w : World) : Calls Try.prog 94 #[.int .i64 a, .int .i64 b] w fun e w' => e = .returned (.int .i64 (times2 a b)) ∧ w = w' := by
  have HT : Hid (times2 a b = capH (sz a * sz b)) := hide_ rfl
  obtain ⟨v, hv⟩ : ∃ v, times2 a b = v := ⟨_, rfl⟩
  rw [hv] at HT ⊢
  have ha := sz_bd a
  have hb := sz_bd b
  have HA := hide_ (rsize_any a w)
  have HBc := hide_ (rsize_any b w)
  clear hv
  generalize sz a = x at *
  generalize sz b = y at *
  go_enter Try.func94, Try.ntmps94
  go_wp2_with fail
  refine HA.out.mono ?_; rintro e w' ⟨rfl, rfl⟩
  go_wp2_with fail
  refine HBc.out.mono ?_; rintro e w' ⟨rfl, rfl⟩
  clear HA HBc
  by_cases hx : x = 0
  · have hx1 : (x == 0) = true := by simp [hx]
    have HV : Hid (v = 0) := hide_ (by rw [HT.out, hx]; simp [capH])
    go_wp2
    go_ret
    exact ⟨ret_int HV.out.symm, rfl⟩
  · have hx1 : (x == 0) = false := by simpa using hx
    by_cases hy : y = 0
    · have hy1 : (y == 0) = true := by simp [hy]
      have HV : Hid (v = 0) := hide_ (by rw [HT.out, hy]; simp [capH])
      go_wp2
      go_ret
      exact ⟨ret_int HV.out.symm, rfl⟩
    · have hy1 : (y == 0) = false := by simpa using hy
      have hdv := div_gt (a := x) (b := y) (by omega) (by omega)
      by_cases hg : 4611686018427387904 / y < x
      · have HV : Hid (v = 4611686018427387904) := hide_ (by rw [HT.out]; unfold capH; rw [if_neg (by have := hdv.1 hg; omega)])
        clear hdv
        go_wp2
        go_ret
        exact ⟨ret_int HV.out.symm, rfl⟩
      · have hle : x * y ≤ 4611686018427387904 := by
          by_cases h : x * y ≤ 4611686018427387904
          · exact h
          · exact absurd (hdv.2 (by omega)) hg
        have h0 : 0 ≤ x * y := Int.mul_nonneg ha.1 hb.1
        have HV : Hid (v = x * y) := hide_ (by rw [HT.out]; unfold capH; rw [if_pos hle])
        have hw1 : wrap64 (x * y) = x * y := w64 _ (by omega)
        clear hdv
        go_wp2
        go_ret
        exact ⟨ret_int HV.out.symm, rfl⟩
set_option maxRecDepth 100000 in
set_option maxHeartbeats 4000000 in
theorem rPlus_any (a : Option Addr) (cap : Nat) (l : List Int) (w : World) (hl : l.length ≤ 9223372036854775806) (hr : Hid (RowI w a l)) :
    Calls Try.prog 95 #[.slice a l.length cap] w fun e w' => e = .returned (.int .i64 (capH (tot l))) ∧ w = w' := by
  obtain ⟨v, hv⟩ : ∃ v, capH (tot l) = v := ⟨_, rfl⟩
  have HV := hide_ hv
  rw [hv]
  clear hv
  go_enter Try.func95, Try.ntmps95
  go_wp2_with fail
  go_loopw [3, 4] (fun x3 x4 wr => ∃ (i : Nat) (s : Int), i ≤ l.length ∧ x4 = .int .i64 (i : Int) ∧ x3 = .int .i64 s ∧ 0 ≤ s ∧ s ≤ 4611686018427387904 ∧ Hid (tot (l.take i) = s) ∧ w = wr) (fun _ x4 _ => l.length - (intOf x4).toNat)
  case atStart => exact ⟨0, 0, Nat.zero_le _, rfl, rfl, by omega, by omega, hide_ rfl, rfl⟩
  case round =>
    obtain ⟨i, s, hi, rfl, rfl, hs0, hs1, HS, rfl⟩ := hrel
    by_cases hlt : i < l.length
    · have hlt' : (i : Int) < l.length := by omega
      have HT := hide_ (tot_take_succ l i hlt)
      have HTl := hide_ (tot_take_le l (i + 1))
      obtain ⟨b, off, rfl, hc⟩ := rowI_open hr.out (by omega)
      have c0 := hc i hlt
      rw [HS.out] at HT
      obtain ⟨z, hz⟩ : ∃ z, l.getD i 0 = z := ⟨_, rfl⟩
      rw [hz] at c0 HT
      have hzb := sz_bd z
      have HSz := hide_ (rsize_any z w)
      clear hz hc
      generalize sz z = y at *
      have hw1 : wrap64 (4611686018427387904 - s) = 4611686018427387904 - s := w64 _ (by omega)
      by_cases hg : 4611686018427387904 - s < y
      · have HF : Hid (v = 4611686018427387904) := hide_ (by
          have h1 := HT.out; have h2 := HTl.out; have h3 := HV.out
          rw [← h3]
          unfold capH
          rw [if_neg (by omega)])
        go_wp2_with (go_at_call 102; refine HSz.out.mono ?_; rintro e w' ⟨rfl, rfl⟩)
        go_ret
        exact ⟨ret_int HF.out.symm, rfl⟩
      · have hw2 : wrap64 (s + y) = s + y := w64 _ (by omega)
        go_wp2_with (go_at_call 102; refine HSz.out.mono ?_; rintro e w' ⟨rfl, rfl⟩)
        go_roundw
        case rel => exact ⟨i + 1, _, by omega, by go_num, rfl, by omega, by omega, HT, trivial⟩
        case measure => simp [intOf]; omega
    · have HF : Hid (v = s) := hide_ (by
        have h3 := HV.out; have h4 := HS.out
        rw [List.take_of_length_le (by omega)] at h4
        rw [← h3, h4]
        unfold capH
        rw [if_pos (by omega)])
      go_wp2
      go_ret
      exact ⟨ret_int HF.out.symm, rfl⟩
set_option maxRecDepth 100000 in
theorem rtimes_any (a b : Int) (w : World) : Calls Try.prog 79 #[.int .i64 a, .int .i64 b] w fun e w' => e = .returned (.int .i64 (times2 a b)) ∧ w = w' := by
  have HC := hide_ (rTimes_any a b w)
  generalize times2 a b = v at *
  go_enter Try.func79, Try.ntmps79
  go_wp2_with fail
  refine HC.out.mono ?_; rintro e w' ⟨rfl, rfl⟩
  go_wp2
  go_ret
  exact ⟨rfl, rfl⟩
set_option maxRecDepth 100000 in
theorem rplus_any (a b : Int) (w : World) : Calls Try.prog 80 #[.int .i64 a, .int .i64 b] w fun e w' => e = .returned (.int .i64 (plus2 a b)) ∧ Below w.heap.size w w' := by
  obtain ⟨w1, hw1⟩ : ∃ wx, wx = w.alloc (.cells #[.int .i64 a, .int .i64 b] 3) := ⟨_, rfl⟩
  have k1 : Blk w1 w.heap.size 3 [.int .i64 a, .int .i64 b] := by rw [hw1]; exact Blk.newA w _ _
  have b1 : Below w.heap.size w w1 := by rw [hw1]; exact below1 _ _
  have HC := hide_ (rPlus_any (some ⟨w.heap.size, 0, none⟩) 2 [a, b] w1 (by simp) (hide_ (.inr ⟨w.heap.size, 0, rfl, fun i hi => by
    rw [Nat.zero_add, k1.cell]
    match i, hi with
    | 0, _ => rfl
    | 1, _ => rfl⟩)))
  obtain ⟨v, hv⟩ : ∃ v, plus2 a b = v := ⟨_, rfl⟩
  have HV := hide_ hv
  rw [show capH (tot [a, b]) = v from hv] at HC
  rw [hv]
  have HB := hide_ b1
  clear hv k1 b1
  go_enter Try.func80, Try.ntmps80
  go_wp2_with fail
  rw [← hw1]
  refine HC.out.mono ?_; rintro e w' ⟨rfl, rfl⟩
  clear hw1
  go_wp2
  go_ret
  exact ⟨rfl, HB.out⟩
end Go.Proofs.Ytpkghpfdibnhcaa
/- The document's extents: part, leaf; one, by kinds: no parts, a vector, a list, an option. -/
namespace Go.Proofs.Ytpkghpfdibnhcaa
open Go.RowKit
set_option linter.unusedVariables false

set_option maxRecDepth 100000 in
set_option maxHeartbeats 4000000 in
theorem part_any (x : Ex) (w : World) : Calls Try.prog 78 #[.agg #[.bool x.f, .int .i64 x.l, .int .i64 x.m, .int .i64 x.d]] w fun e w' => e = .returned (.tuple #[.int .i64 (offX x).l, .int .i64 (offX x).m]) ∧ Below w.heap.size w w' := by
  obtain ⟨xf, xl, xm, xd⟩ := x
  obtain ⟨w0, hw0⟩ : ∃ wx, wx = w.alloc (.cells #[.bool xf, .int .i64 xl, .int .i64 xm, .int .i64 xd] 35) := ⟨_, rfl⟩
  have k0 : Blk w0 w.heap.size 35 [.bool xf, .int .i64 xl, .int .i64 xm, .int .i64 xd] := by rw [hw0]; exact Blk.newA w _ _
  have b0 : Below w.heap.size w w0 := by rw [hw0]; exact below1 _ _
  have K0 := hide_ k0
  have HB0 := hide_ b0
  have i0 := k0.cell 0; have i1 := k0.cell 1; have i2 := k0.cell 2
  simp at i0 i1 i2
  clear k0 b0
  cases xf with
  | true =>
    simp only [offX, if_true]
    go_enter Try.func78, Try.ntmps78
    go_upto_region 1 with fail
    rw [← hw0]
    clear hw0
    go_wp2_with fail
    go_region
    all_goals
      have HBd := hide_ (HB0.out.drew)
      go_wp2
      go_ret2
      exact ⟨rfl, HBd.out⟩
  | false =>
    have e1 : offX ⟨false, xl, xm, xd⟩ = ⟨false, plus2 4 xl, plus2 4 xm, xd⟩ := rfl
    rw [e1]
    simp only
    have HC1 : Hid (∀ w', Calls Try.prog 80 #[.int .i64 4, .int .i64 xl] w' fun e w'' => e = .returned (.int .i64 (plus2 4 xl)) ∧ Below w'.heap.size w' w'') := hide_ (fun w' => rplus_any 4 xl w')
    have HC2 : Hid (∀ w', Calls Try.prog 80 #[.int .i64 4, .int .i64 xm] w' fun e w'' => e = .returned (.int .i64 (plus2 4 xm)) ∧ Below w'.heap.size w' w'') := hide_ (fun w' => rplus_any 4 xm w')
    generalize plus2 4 xl = p1 at *
    generalize plus2 4 xm = p2 at *
    have HSS : Hid (∀ w', Below w0.heap.size w0 w' → Below w0.heap.size w0 w' ∧ w'.cell? ⟨w.heap.size, 1, none⟩ = some (.int .i64 xl) ∧ w'.cell? ⟨w.heap.size, 2, none⟩ = some (.int .i64 xm)) := hide_ (fun w' hB => ⟨hB, (K0.out.later hB).cell 1, (K0.out.later hB).cell 2⟩)
    clear e1
    go_enter Try.func78, Try.ntmps78
    go_upto_region 1 with fail
    rw [← hw0]
    clear hw0
    go_wp2_with fail
    go_region_held_law (fun w' => Below w0.heap.size w0 w' ∧ w'.cell? ⟨w.heap.size, 1, none⟩ = some (.int .i64 xl) ∧ w'.cell? ⟨w.heap.size, 2, none⟩ = some (.int .i64 xm)) (first | assumption | exact HSS.out _ ((Below.refl _ _).drew) | exact HSS.out _ (Below.refl _ _))
      (first
        | (go_at_call_of 80 (Value.int .i64 xl); refine (HC1.out _).mono ?_; rintro e w2 ⟨rfl, hB2⟩; (have G2 := HSS.out w2 (below_to (by first | assumption | exact And.left (by assumption)) hB2)); (clear hB2))
        | (go_at_call 80; refine (HC1.out _).mono ?_; rintro e w2 ⟨rfl, hB2⟩; (have G2 := HSS.out w2 (below_to (by first | assumption | exact And.left (by assumption)) hB2)); (clear hB2))
        | (go_at_call 80; refine (HC2.out _).mono ?_; rintro e w3 ⟨rfl, hB3⟩; (have G3 := HSS.out w3 (below_to (by first | assumption | exact And.left (by assumption)) hB3)); (clear hB3)))
    all_goals
      go_wp2
      go_ret2
      exact ⟨rfl, below_to HB0.out (by first | exact G3.1 | exact G2.1)⟩
end Go.Proofs.Ytpkghpfdibnhcaa
/- The document's extents: leaf; one, by kinds: no parts, a vector, a list, an option. -/
namespace Go.Proofs.Ytpkghpfdibnhcaa
open Go.RowKit
set_option linter.unusedVariables false

def leafX (k n : Int) : Ex := if k = 1 then ⟨true, n, n, 1⟩ else if k = 2 then ⟨true, 1, 1, 1⟩ else ⟨false, 1, 10, 1⟩
set_option maxRecDepth 100000 in
set_option maxHeartbeats 4000000 in
theorem leaf1_any (n el : Int) (ps : List Pt) (va : Option Addr) (vc : Nat) (w : World) : Calls Try.prog 81 #[.agg #[.int .i64 1, .int .i64 n, .int .i64 el, .slice va ps.length vc]] w fun e w' => e = .returned (exv ⟨true, n, n, 1⟩) ∧ Below w.heap.size w w' := by
  have hB := below2 w (.cells #[.int .i64 1, .int .i64 n, .int .i64 el, .slice va ps.length vc] 43) (.cells #[.bool false, .int .i64 0, .int .i64 0, .int .i64 0] 35)
  obtain ⟨k1, k2⟩ := blk2 w #[.int .i64 1, .int .i64 n, .int .i64 el, .slice va ps.length vc] #[.bool false, .int .i64 0, .int .i64 0, .int .i64 0] 43 35
  obtain ⟨w0, hw0⟩ : ∃ wx, wx = (w.alloc (.cells #[.int .i64 1, .int .i64 n, .int .i64 el, .slice va ps.length vc] 43)).alloc (.cells #[.bool false, .int .i64 0, .int .i64 0, .int .i64 0] 35) := ⟨_, rfl⟩
  rw [← hw0] at hB k1 k2
  have K1 := hide_ k1
  have K2 := hide_ k2
  have HB := hide_ hB
  have i0 := k1.cell 0; have i1 := k1.cell 1; have i2 := k1.cell 2; have i3 := k1.cell 3
  have j0 := k2.cell 0; have j1 := k2.cell 1; have j2 := k2.cell 2; have j3 := k2.cell 3
  have jf := fun i => k2.frozen i
  simp at i0 i1 i2 i3 j0 j1 j2 j3
  have HK := hide_ (wr4 k2 (.bool true) (.int .i64 n) (.int .i64 n) (.int .i64 1))
  have HBf := hide_ (below_wr4 hB (w.heap.size + 1) (by omega) (.bool true) (.int .i64 n) (.int .i64 n) (.int .i64 1))
  clear hB k1 k2
  go_enter Try.func81, Try.ntmps81
  go_upto_region 1 with fail
  rw [← hw0]
  clear hw0
  go_wp2
  exact retX (x := ⟨true, n, n, 1⟩) rfl rfl HK.out ⟨rfl, HBf.out⟩
set_option maxRecDepth 100000 in
set_option maxHeartbeats 4000000 in
theorem leaf2_any (n el : Int) (ps : List Pt) (va : Option Addr) (vc : Nat) (w : World) : Calls Try.prog 81 #[.agg #[.int .i64 2, .int .i64 n, .int .i64 el, .slice va ps.length vc]] w fun e w' => e = .returned (exv ⟨true, 1, 1, 1⟩) ∧ Below w.heap.size w w' := by
  have hB := below2 w (.cells #[.int .i64 2, .int .i64 n, .int .i64 el, .slice va ps.length vc] 43) (.cells #[.bool false, .int .i64 0, .int .i64 0, .int .i64 0] 35)
  obtain ⟨k1, k2⟩ := blk2 w #[.int .i64 2, .int .i64 n, .int .i64 el, .slice va ps.length vc] #[.bool false, .int .i64 0, .int .i64 0, .int .i64 0] 43 35
  obtain ⟨w0, hw0⟩ : ∃ wx, wx = (w.alloc (.cells #[.int .i64 2, .int .i64 n, .int .i64 el, .slice va ps.length vc] 43)).alloc (.cells #[.bool false, .int .i64 0, .int .i64 0, .int .i64 0] 35) := ⟨_, rfl⟩
  rw [← hw0] at hB k1 k2
  have K1 := hide_ k1
  have K2 := hide_ k2
  have HB := hide_ hB
  have i0 := k1.cell 0; have i1 := k1.cell 1; have i2 := k1.cell 2; have i3 := k1.cell 3
  have j0 := k2.cell 0; have j1 := k2.cell 1; have j2 := k2.cell 2; have j3 := k2.cell 3
  have jf := fun i => k2.frozen i
  simp at i0 i1 i2 i3 j0 j1 j2 j3
  have HK := hide_ (wr4 k2 (.bool true) (.int .i64 1) (.int .i64 1) (.int .i64 1))
  have HBf := hide_ (below_wr4 hB (w.heap.size + 1) (by omega) (.bool true) (.int .i64 1) (.int .i64 1) (.int .i64 1))
  clear hB k1 k2
  go_enter Try.func81, Try.ntmps81
  go_upto_region 1 with fail
  rw [← hw0]
  clear hw0
  go_wp2
  exact retX (x := ⟨true, 1, 1, 1⟩) rfl rfl HK.out ⟨rfl, HBf.out⟩
set_option maxRecDepth 100000 in
set_option maxHeartbeats 4000000 in
theorem leaf3_any (n el : Int) (ps : List Pt) (va : Option Addr) (vc : Nat) (w : World) : Calls Try.prog 81 #[.agg #[.int .i64 3, .int .i64 n, .int .i64 el, .slice va ps.length vc]] w fun e w' => e = .returned (exv ⟨false, 1, 10, 1⟩) ∧ Below w.heap.size w w' := by
  have hB := below2 w (.cells #[.int .i64 3, .int .i64 n, .int .i64 el, .slice va ps.length vc] 43) (.cells #[.bool false, .int .i64 0, .int .i64 0, .int .i64 0] 35)
  obtain ⟨k1, k2⟩ := blk2 w #[.int .i64 3, .int .i64 n, .int .i64 el, .slice va ps.length vc] #[.bool false, .int .i64 0, .int .i64 0, .int .i64 0] 43 35
  obtain ⟨w0, hw0⟩ : ∃ wx, wx = (w.alloc (.cells #[.int .i64 3, .int .i64 n, .int .i64 el, .slice va ps.length vc] 43)).alloc (.cells #[.bool false, .int .i64 0, .int .i64 0, .int .i64 0] 35) := ⟨_, rfl⟩
  rw [← hw0] at hB k1 k2
  have K1 := hide_ k1
  have K2 := hide_ k2
  have HB := hide_ hB
  have i0 := k1.cell 0; have i1 := k1.cell 1; have i2 := k1.cell 2; have i3 := k1.cell 3
  have j0 := k2.cell 0; have j1 := k2.cell 1; have j2 := k2.cell 2; have j3 := k2.cell 3
  have jf := fun i => k2.frozen i
  simp at i0 i1 i2 i3 j0 j1 j2 j3
  have HK := hide_ (wr4 k2 (.bool false) (.int .i64 1) (.int .i64 10) (.int .i64 1))
  have HBf := hide_ (below_wr4 hB (w.heap.size + 1) (by omega) (.bool false) (.int .i64 1) (.int .i64 10) (.int .i64 1))
  clear hB k1 k2
  go_enter Try.func81, Try.ntmps81
  go_upto_region 1 with fail
  rw [← hw0]
  clear hw0
  go_wp2
  exact retX (x := ⟨false, 1, 10, 1⟩) rfl rfl HK.out ⟨rfl, HBf.out⟩
set_option maxRecDepth 100000 in
set_option maxHeartbeats 4000000 in
theorem one1_any (n el : Int) (ps : List Pt) (va : Option Addr) (vc : Nat) (vX : Value) (w : World) : Calls Try.prog 58 #[.agg #[.int .i64 1, .int .i64 n, .int .i64 el, .slice va ps.length vc], vX] w fun e w' => e = .returned (exv ⟨true, n, n, 1⟩) ∧ Below w.heap.size w w' := by
  have hB := below2 w (.cells #[.int .i64 1, .int .i64 n, .int .i64 el, .slice va ps.length vc] 43) (.cells #[.bool false, .int .i64 0, .int .i64 0, .int .i64 0] 35)
  obtain ⟨k1, k2⟩ := blk2 w #[.int .i64 1, .int .i64 n, .int .i64 el, .slice va ps.length vc] #[.bool false, .int .i64 0, .int .i64 0, .int .i64 0] 43 35
  obtain ⟨w0, hw0⟩ : ∃ wx, wx = (w.alloc (.cells #[.int .i64 1, .int .i64 n, .int .i64 el, .slice va ps.length vc] 43)).alloc (.cells #[.bool false, .int .i64 0, .int .i64 0, .int .i64 0] 35) := ⟨_, rfl⟩
  rw [← hw0] at hB k1 k2
  have K1 := hide_ k1
  have K2 := hide_ k2
  have HB := hide_ hB
  have i0 := k1.cell 0; have i1 := k1.cell 1; have i2 := k1.cell 2; have i3 := k1.cell 3
  have j0 := k2.cell 0; have j1 := k2.cell 1; have j2 := k2.cell 2; have j3 := k2.cell 3
  have jf := fun i => k2.frozen i
  simp at i0 i1 i2 i3 j0 j1 j2 j3
  have HL := hide_ (leaf1_any n el ps va vc w0)
  clear hB k1 k2
  go_enter Try.func58, Try.ntmps58
  go_upto_region 1 with fail
  rw [← hw0]
  clear hw0
  go_wp2_with fail
  refine HL.out.mono ?_; rintro e w1 ⟨rfl, hB1⟩
  have k3 := K2.out.later hB1
  have HK := hide_ (wr4 k3 (.bool true) (.int .i64 n) (.int .i64 n) (.int .i64 1))
  have HBf := hide_ (below_wr4 (below_to HB.out hB1) (w.heap.size + 1) (by omega) (.bool true) (.int .i64 n) (.int .i64 n) (.int .i64 1))
  clear j0 j1 j2 j3 jf i0 i1 i2 i3
  have j0 := k3.cell 0; have j1 := k3.cell 1; have j2 := k3.cell 2; have j3 := k3.cell 3
  have jf := fun i => k3.frozen i
  simp at j0 j1 j2 j3
  clear k3 hB1 HL
  simp only [exv]
  go_wp2
  exact retX (x := ⟨true, n, n, 1⟩) rfl rfl HK.out ⟨rfl, HBf.out⟩
set_option maxRecDepth 100000 in
set_option maxHeartbeats 4000000 in
theorem one2_any (n el : Int) (ps : List Pt) (va : Option Addr) (vc : Nat) (vX : Value) (w : World) : Calls Try.prog 58 #[.agg #[.int .i64 2, .int .i64 n, .int .i64 el, .slice va ps.length vc], vX] w fun e w' => e = .returned (exv ⟨true, 1, 1, 1⟩) ∧ Below w.heap.size w w' := by
  have hB := below2 w (.cells #[.int .i64 2, .int .i64 n, .int .i64 el, .slice va ps.length vc] 43) (.cells #[.bool false, .int .i64 0, .int .i64 0, .int .i64 0] 35)
  obtain ⟨k1, k2⟩ := blk2 w #[.int .i64 2, .int .i64 n, .int .i64 el, .slice va ps.length vc] #[.bool false, .int .i64 0, .int .i64 0, .int .i64 0] 43 35
  obtain ⟨w0, hw0⟩ : ∃ wx, wx = (w.alloc (.cells #[.int .i64 2, .int .i64 n, .int .i64 el, .slice va ps.length vc] 43)).alloc (.cells #[.bool false, .int .i64 0, .int .i64 0, .int .i64 0] 35) := ⟨_, rfl⟩
  rw [← hw0] at hB k1 k2
  have K1 := hide_ k1
  have K2 := hide_ k2
  have HB := hide_ hB
  have i0 := k1.cell 0; have i1 := k1.cell 1; have i2 := k1.cell 2; have i3 := k1.cell 3
  have j0 := k2.cell 0; have j1 := k2.cell 1; have j2 := k2.cell 2; have j3 := k2.cell 3
  have jf := fun i => k2.frozen i
  simp at i0 i1 i2 i3 j0 j1 j2 j3
  have HL := hide_ (leaf2_any n el ps va vc w0)
  clear hB k1 k2
  go_enter Try.func58, Try.ntmps58
  go_upto_region 1 with fail
  rw [← hw0]
  clear hw0
  go_wp2_with fail
  refine HL.out.mono ?_; rintro e w1 ⟨rfl, hB1⟩
  have k3 := K2.out.later hB1
  have HK := hide_ (wr4 k3 (.bool true) (.int .i64 1) (.int .i64 1) (.int .i64 1))
  have HBf := hide_ (below_wr4 (below_to HB.out hB1) (w.heap.size + 1) (by omega) (.bool true) (.int .i64 1) (.int .i64 1) (.int .i64 1))
  clear j0 j1 j2 j3 jf i0 i1 i2 i3
  have j0 := k3.cell 0; have j1 := k3.cell 1; have j2 := k3.cell 2; have j3 := k3.cell 3
  have jf := fun i => k3.frozen i
  simp at j0 j1 j2 j3
  clear k3 hB1 HL
  simp only [exv]
  go_wp2
  exact retX (x := ⟨true, 1, 1, 1⟩) rfl rfl HK.out ⟨rfl, HBf.out⟩
set_option maxRecDepth 100000 in
set_option maxHeartbeats 4000000 in
theorem one3_any (n el : Int) (ps : List Pt) (va : Option Addr) (vc : Nat) (vX : Value) (w : World) : Calls Try.prog 58 #[.agg #[.int .i64 3, .int .i64 n, .int .i64 el, .slice va ps.length vc], vX] w fun e w' => e = .returned (exv ⟨false, 1, 10, 1⟩) ∧ Below w.heap.size w w' := by
  have hB := below2 w (.cells #[.int .i64 3, .int .i64 n, .int .i64 el, .slice va ps.length vc] 43) (.cells #[.bool false, .int .i64 0, .int .i64 0, .int .i64 0] 35)
  obtain ⟨k1, k2⟩ := blk2 w #[.int .i64 3, .int .i64 n, .int .i64 el, .slice va ps.length vc] #[.bool false, .int .i64 0, .int .i64 0, .int .i64 0] 43 35
  obtain ⟨w0, hw0⟩ : ∃ wx, wx = (w.alloc (.cells #[.int .i64 3, .int .i64 n, .int .i64 el, .slice va ps.length vc] 43)).alloc (.cells #[.bool false, .int .i64 0, .int .i64 0, .int .i64 0] 35) := ⟨_, rfl⟩
  rw [← hw0] at hB k1 k2
  have K1 := hide_ k1
  have K2 := hide_ k2
  have HB := hide_ hB
  have i0 := k1.cell 0; have i1 := k1.cell 1; have i2 := k1.cell 2; have i3 := k1.cell 3
  have j0 := k2.cell 0; have j1 := k2.cell 1; have j2 := k2.cell 2; have j3 := k2.cell 3
  have jf := fun i => k2.frozen i
  simp at i0 i1 i2 i3 j0 j1 j2 j3
  have HL := hide_ (leaf3_any n el ps va vc w0)
  clear hB k1 k2
  go_enter Try.func58, Try.ntmps58
  go_upto_region 1 with fail
  rw [← hw0]
  clear hw0
  go_wp2_with fail
  refine HL.out.mono ?_; rintro e w1 ⟨rfl, hB1⟩
  have k3 := K2.out.later hB1
  have HK := hide_ (wr4 k3 (.bool false) (.int .i64 1) (.int .i64 10) (.int .i64 1))
  have HBf := hide_ (below_wr4 (below_to HB.out hB1) (w.heap.size + 1) (by omega) (.bool false) (.int .i64 1) (.int .i64 10) (.int .i64 1))
  clear j0 j1 j2 j3 jf i0 i1 i2 i3
  have j0 := k3.cell 0; have j1 := k3.cell 1; have j2 := k3.cell 2; have j3 := k3.cell 3
  have jf := fun i => k3.frozen i
  simp at j0 j1 j2 j3
  clear k3 hB1 HL
  simp only [exv]
  go_wp2
  exact retX (x := ⟨false, 1, 10, 1⟩) rfl rfl HK.out ⟨rfl, HBf.out⟩
set_option maxRecDepth 100000 in
set_option maxHeartbeats 8000000 in
theorem one4_any (n el : Int) (ps : List Pt) (va : Option Addr) (vc : Nat) (X : List Ex) (ax : Option Addr) (cx : Nat) (w : World) (hXl : X.length ≤ 10000000000000) (hbd : Hid (∀ x ∈ X, 0 ≤ x.d ∧ x.d ≤ 1000000)) (hel : 0 ≤ el ∧ el < X.length) (hX : Hid (XRow w ax X)) : Calls Try.prog 58 #[.agg #[.int .i64 4, .int .i64 n, .int .i64 el, .slice va ps.length vc], .slice ax X.length cx] w fun e w' => e = .returned (exv ⟨(exAt X el).f, times2 n (offX (exAt X el)).l, times2 n (offX (exAt X el)).m, 1 + (exAt X el).d⟩) ∧ Below w.heap.size w w' := by
  have hB := below2 w (.cells #[.int .i64 4, .int .i64 n, .int .i64 el, .slice va ps.length vc] 43) (.cells #[.bool false, .int .i64 0, .int .i64 0, .int .i64 0] 35)
  obtain ⟨k1, k2⟩ := blk2 w #[.int .i64 4, .int .i64 n, .int .i64 el, .slice va ps.length vc] #[.bool false, .int .i64 0, .int .i64 0, .int .i64 0] 43 35
  obtain ⟨w0, hw0⟩ : ∃ wx, wx = (w.alloc (.cells #[.int .i64 4, .int .i64 n, .int .i64 el, .slice va ps.length vc] 43)).alloc (.cells #[.bool false, .int .i64 0, .int .i64 0, .int .i64 0] 35) := ⟨_, rfl⟩
  rw [← hw0] at hB k1 k2
  have K1 := hide_ k1
  have K2 := hide_ k2
  have HB := hide_ hB
  have i0 := k1.cell 0; have i1 := k1.cell 1; have i2 := k1.cell 2; have i3 := k1.cell 3
  have j0 := k2.cell 0; have j1 := k2.cell 1; have j2 := k2.cell 2; have j3 := k2.cell 3
  have jf := fun i => k2.frozen i
  simp at i0 i1 i2 i3 j0 j1 j2 j3
  obtain ⟨m, rfl⟩ := Int.eq_ofNat_of_zero_le hel.1
  have hmx : m < X.length := by omega
  have hmx' : (m : Int) < X.length := hel.2
  obtain ⟨bx, ox, rfl, hbx, hcx⟩ := hX.out.open (by omega)
  have hxe := exAt_at hmx
  obtain ⟨hd0, hd1⟩ := hbd.out _ (List.mem_of_getElem? hxe)
  have hcy := hcx m _ hxe
  have HPt : Hid (∀ w', Calls Try.prog 78 #[.agg #[.bool (exAt X m).f, .int .i64 (exAt X m).l, .int .i64 (exAt X m).m, .int .i64 (exAt X m).d]] w' fun e w'' => e = .returned (.tuple #[.int .i64 (offX (exAt X m)).l, .int .i64 (offX (exAt X m)).m]) ∧ Below w'.heap.size w' w'') := hide_ (fun w' => part_any _ w')
  generalize (offX (exAt X m)).l = pl at *
  generalize (offX (exAt X m)).m = pm at *
  generalize exAt X m = xx at *
  obtain ⟨xf, xl, xm, xd⟩ := xx
  have HXc : Hid (∀ j, j < 4 → ∀ w', Below w0.heap.size w0 w' → w'.cell? ⟨bx, ox + m * 4 + j, none⟩ = (exc ⟨xf, xl, xm, xd⟩)[j]?) := hide_ (fun j hj w' hB' => ((below_to HB.out hB').cell (p := ⟨bx, ox + m * 4 + j, none⟩) hbx).trans (hcy j hj))
  have x0 := HXc.out 0 (by decide) w0 (Below.refl _ _); have x1 := HXc.out 1 (by decide) w0 (Below.refl _ _); have x2 := HXc.out 2 (by decide) w0 (Below.refl _ _); have x3 := HXc.out 3 (by decide) w0 (Below.refl _ _)
  simp [exc] at x0 x1 x2 x3
  simp only at hd0 hd1 HPt
  have hw1 : wrap64 (1 + xd) = 1 + xd := w64 _ (by omega)
  have hw2 : IntKind.i64.wrap (1 + xd) = 1 + xd := by rw [IntKind.wrap_i64]; omega
  have HCt : Hid (∀ (a b : Int) (w' : World), Calls Try.prog 79 #[.int .i64 a, .int .i64 b] w' fun e w'' => e = .returned (.int .i64 (times2 a b)) ∧ w' = w'') := hide_ (fun a b w' => rtimes_any a b w')
  have HCp : Hid (∀ (a b : Int) (w' : World), Calls Try.prog 80 #[.int .i64 a, .int .i64 b] w' fun e w'' => e = .returned (.int .i64 (plus2 a b)) ∧ Below w'.heap.size w' w'') := hide_ (fun a b w' => rplus_any a b w')
  clear hB k1 k2 hcx hxe hcy hX hbd
  go_enter Try.func58, Try.ntmps58
  go_upto_region 1 with fail
  rw [← hw0]
  clear hw0
  go_wp2_with (go_at_call 78; refine (HPt.out _).mono ?_; rintro e w1 ⟨rfl, hB1⟩)
  have HB1 := hide_ hB1
  have k3 := K2.out.later hB1
  have k4 := K1.out.later hB1
  have K3 := hide_ k3
  have K4 := hide_ k4
  clear i0 i1 i2 i3 j0 j1 j2 j3 jf x0 x1 x2 x3
  have j0 := k3.cell 0; have j1 := k3.cell 1; have j2 := k3.cell 2; have j3 := k3.cell 3
  have jf := fun i => k3.frozen i
  simp at j0 j1 j2 j3
  clear k3 k4 hB1 HPt
  have HBw := hide_ (below_to HB.out HB1.out)
  have HSS : Hid (∀ w', Below (w.heap.size + 1) w1 w' → Below (w.heap.size + 1) w1 w' ∧ w'.cell? ⟨w.heap.size, 1, none⟩ = some (.int .i64 n) ∧ w'.cell? ⟨w.heap.size, 2, none⟩ = some (.int .i64 m) ∧ w'.cell? ⟨bx, ox + m * 4, none⟩ = some (.bool xf) ∧ w'.cell? ⟨bx, ox + m * 4 + 2, none⟩ = some (.int .i64 xm) ∧ w'.cell? ⟨bx, ox + m * 4 + 3, none⟩ = some (.int .i64 xd)) := hide_ (fun w' hB' => ⟨hB', (K4.out.below hB' (by omega)).cell 1, (K4.out.below hB' (by omega)).cell 2, (hB'.cell (p := ⟨bx, ox + m * 4 + 0, none⟩) (by show bx < _; omega)).trans (HXc.out 0 (by decide) w1 HB1.out), (hB'.cell (p := ⟨bx, ox + m * 4 + 2, none⟩) (by show bx < _; omega)).trans (HXc.out 2 (by decide) w1 HB1.out), (hB'.cell (p := ⟨bx, ox + m * 4 + 3, none⟩) (by show bx < _; omega)).trans (HXc.out 3 (by decide) w1 HB1.out)⟩)
  go_region_held_law (fun w' => Below (w.heap.size + 1) w1 w' ∧ w'.cell? ⟨w.heap.size, 1, none⟩ = some (.int .i64 n) ∧ w'.cell? ⟨w.heap.size, 2, none⟩ = some (.int .i64 m) ∧ w'.cell? ⟨bx, ox + m * 4, none⟩ = some (.bool xf) ∧ w'.cell? ⟨bx, ox + m * 4 + 2, none⟩ = some (.int .i64 xm) ∧ w'.cell? ⟨bx, ox + m * 4 + 3, none⟩ = some (.int .i64 xd)) (first | assumption | exact HSS.out _ ((Below.refl _ _).drew) | exact HSS.out _ (Below.refl _ _) | exact HSS.out _ (below_wr4 ((Below.refl _ _).drew) _ (by omega) _ _ _ _) | exact HSS.out _ (below_wr4 (And.left (by assumption)) _ (by omega) _ _ _ _))
    ((go_at_call 79; refine (HCt.out _ _ _).mono ?_; rintro e w' ⟨rfl, rfl⟩))
  have HK := hide_ ((wr4 K3.out (.bool xf) (.int .i64 (times2 n pl)) (.int .i64 (times2 n pm)) (.int .i64 (1 + xd))).drew)
  have HBf := hide_ ((below_wr4 HBw.out (w.heap.size + 1) (by omega) (.bool xf) (.int .i64 (times2 n pl)) (.int .i64 (times2 n pm)) (.int .i64 (1 + xd))).drew)
  go_wp2
  exact retX (x := ⟨xf, times2 n pl, times2 n pm, 1 + xd⟩) rfl rfl HK.out ⟨rfl, HBf.out⟩
set_option maxRecDepth 100000 in
set_option maxHeartbeats 8000000 in
theorem one5_any (n el : Int) (ps : List Pt) (va : Option Addr) (vc : Nat) (X : List Ex) (ax : Option Addr) (cx : Nat) (w : World) (hXl : X.length ≤ 10000000000000) (hbd : Hid (∀ x ∈ X, 0 ≤ x.d ∧ x.d ≤ 1000000)) (hel : 0 ≤ el ∧ el < X.length) (hX : Hid (XRow w ax X)) : Calls Try.prog 58 #[.agg #[.int .i64 5, .int .i64 n, .int .i64 el, .slice va ps.length vc], .slice ax X.length cx] w fun e w' => e = .returned (exv ⟨false, 0, times2 n (offX (exAt X el)).m, 1 + (exAt X el).d⟩) ∧ Below w.heap.size w w' := by
  have hB := below2 w (.cells #[.int .i64 5, .int .i64 n, .int .i64 el, .slice va ps.length vc] 43) (.cells #[.bool false, .int .i64 0, .int .i64 0, .int .i64 0] 35)
  obtain ⟨k1, k2⟩ := blk2 w #[.int .i64 5, .int .i64 n, .int .i64 el, .slice va ps.length vc] #[.bool false, .int .i64 0, .int .i64 0, .int .i64 0] 43 35
  obtain ⟨w0, hw0⟩ : ∃ wx, wx = (w.alloc (.cells #[.int .i64 5, .int .i64 n, .int .i64 el, .slice va ps.length vc] 43)).alloc (.cells #[.bool false, .int .i64 0, .int .i64 0, .int .i64 0] 35) := ⟨_, rfl⟩
  rw [← hw0] at hB k1 k2
  have K1 := hide_ k1
  have K2 := hide_ k2
  have HB := hide_ hB
  have i0 := k1.cell 0; have i1 := k1.cell 1; have i2 := k1.cell 2; have i3 := k1.cell 3
  have j0 := k2.cell 0; have j1 := k2.cell 1; have j2 := k2.cell 2; have j3 := k2.cell 3
  have jf := fun i => k2.frozen i
  simp at i0 i1 i2 i3 j0 j1 j2 j3
  obtain ⟨m, rfl⟩ := Int.eq_ofNat_of_zero_le hel.1
  have hmx : m < X.length := by omega
  have hmx' : (m : Int) < X.length := hel.2
  obtain ⟨bx, ox, rfl, hbx, hcx⟩ := hX.out.open (by omega)
  have hxe := exAt_at hmx
  obtain ⟨hd0, hd1⟩ := hbd.out _ (List.mem_of_getElem? hxe)
  have hcy := hcx m _ hxe
  have HPt : Hid (∀ w', Calls Try.prog 78 #[.agg #[.bool (exAt X m).f, .int .i64 (exAt X m).l, .int .i64 (exAt X m).m, .int .i64 (exAt X m).d]] w' fun e w'' => e = .returned (.tuple #[.int .i64 (offX (exAt X m)).l, .int .i64 (offX (exAt X m)).m]) ∧ Below w'.heap.size w' w'') := hide_ (fun w' => part_any _ w')
  generalize (offX (exAt X m)).l = pl at *
  generalize (offX (exAt X m)).m = pm at *
  generalize exAt X m = xx at *
  obtain ⟨xf, xl, xm, xd⟩ := xx
  have HXc : Hid (∀ j, j < 4 → ∀ w', Below w0.heap.size w0 w' → w'.cell? ⟨bx, ox + m * 4 + j, none⟩ = (exc ⟨xf, xl, xm, xd⟩)[j]?) := hide_ (fun j hj w' hB' => ((below_to HB.out hB').cell (p := ⟨bx, ox + m * 4 + j, none⟩) hbx).trans (hcy j hj))
  have x0 := HXc.out 0 (by decide) w0 (Below.refl _ _); have x1 := HXc.out 1 (by decide) w0 (Below.refl _ _); have x2 := HXc.out 2 (by decide) w0 (Below.refl _ _); have x3 := HXc.out 3 (by decide) w0 (Below.refl _ _)
  simp [exc] at x0 x1 x2 x3
  simp only at hd0 hd1 HPt
  have hw1 : wrap64 (1 + xd) = 1 + xd := w64 _ (by omega)
  have hw2 : IntKind.i64.wrap (1 + xd) = 1 + xd := by rw [IntKind.wrap_i64]; omega
  have HCt : Hid (∀ (a b : Int) (w' : World), Calls Try.prog 79 #[.int .i64 a, .int .i64 b] w' fun e w'' => e = .returned (.int .i64 (times2 a b)) ∧ w' = w'') := hide_ (fun a b w' => rtimes_any a b w')
  have HCp : Hid (∀ (a b : Int) (w' : World), Calls Try.prog 80 #[.int .i64 a, .int .i64 b] w' fun e w'' => e = .returned (.int .i64 (plus2 a b)) ∧ Below w'.heap.size w' w'') := hide_ (fun a b w' => rplus_any a b w')
  clear hB k1 k2 hcx hxe hcy hX hbd
  go_enter Try.func58, Try.ntmps58
  go_upto_region 1 with fail
  rw [← hw0]
  clear hw0
  go_wp2_with (go_at_call 78; refine (HPt.out _).mono ?_; rintro e w1 ⟨rfl, hB1⟩)
  have HB1 := hide_ hB1
  have k3 := K2.out.later hB1
  have k4 := K1.out.later hB1
  have K3 := hide_ k3
  have K4 := hide_ k4
  clear i0 i1 i2 i3 j0 j1 j2 j3 jf x0 x1 x2 x3
  have j0 := k3.cell 0; have j1 := k3.cell 1; have j2 := k3.cell 2; have j3 := k3.cell 3
  have jf := fun i => k3.frozen i
  simp at j0 j1 j2 j3
  clear k3 k4 hB1 HPt
  have HBw := hide_ (below_to HB.out HB1.out)
  have HSS : Hid (∀ w', Below (w.heap.size + 1) w1 w' → Below (w.heap.size + 1) w1 w' ∧ w'.cell? ⟨w.heap.size, 1, none⟩ = some (.int .i64 n) ∧ w'.cell? ⟨w.heap.size, 2, none⟩ = some (.int .i64 m) ∧ w'.cell? ⟨bx, ox + m * 4, none⟩ = some (.bool xf) ∧ w'.cell? ⟨bx, ox + m * 4 + 2, none⟩ = some (.int .i64 xm) ∧ w'.cell? ⟨bx, ox + m * 4 + 3, none⟩ = some (.int .i64 xd)) := hide_ (fun w' hB' => ⟨hB', (K4.out.below hB' (by omega)).cell 1, (K4.out.below hB' (by omega)).cell 2, (hB'.cell (p := ⟨bx, ox + m * 4 + 0, none⟩) (by show bx < _; omega)).trans (HXc.out 0 (by decide) w1 HB1.out), (hB'.cell (p := ⟨bx, ox + m * 4 + 2, none⟩) (by show bx < _; omega)).trans (HXc.out 2 (by decide) w1 HB1.out), (hB'.cell (p := ⟨bx, ox + m * 4 + 3, none⟩) (by show bx < _; omega)).trans (HXc.out 3 (by decide) w1 HB1.out)⟩)
  go_region_held_law (fun w' => Below (w.heap.size + 1) w1 w' ∧ w'.cell? ⟨w.heap.size, 1, none⟩ = some (.int .i64 n) ∧ w'.cell? ⟨w.heap.size, 2, none⟩ = some (.int .i64 m) ∧ w'.cell? ⟨bx, ox + m * 4, none⟩ = some (.bool xf) ∧ w'.cell? ⟨bx, ox + m * 4 + 2, none⟩ = some (.int .i64 xm) ∧ w'.cell? ⟨bx, ox + m * 4 + 3, none⟩ = some (.int .i64 xd)) (first | assumption | exact HSS.out _ ((Below.refl _ _).drew) | exact HSS.out _ (Below.refl _ _) | exact HSS.out _ (below_wr4 ((Below.refl _ _).drew) _ (by omega) _ _ _ _) | exact HSS.out _ (below_wr4 (And.left (by assumption)) _ (by omega) _ _ _ _))
    ((go_at_call 79; refine (HCt.out _ _ _).mono ?_; rintro e w' ⟨rfl, rfl⟩))
  have HK := hide_ ((wr4 K3.out (.bool false) (.int .i64 0) (.int .i64 (times2 n pm)) (.int .i64 (1 + xd))).drew)
  have HBf := hide_ ((below_wr4 HBw.out (w.heap.size + 1) (by omega) (.bool false) (.int .i64 0) (.int .i64 (times2 n pm)) (.int .i64 (1 + xd))).drew)
  go_wp2
  exact retX (x := ⟨false, 0, times2 n pm, 1 + xd⟩) rfl rfl HK.out ⟨rfl, HBf.out⟩
set_option maxRecDepth 100000 in
set_option maxHeartbeats 8000000 in
theorem one6_any (n el : Int) (ps : List Pt) (va : Option Addr) (vc : Nat) (X : List Ex) (ax : Option Addr) (cx : Nat) (w : World) (hXl : X.length ≤ 10000000000000) (hbd : Hid (∀ x ∈ X, 0 ≤ x.d ∧ x.d ≤ 1000000)) (hel : 0 ≤ el ∧ el < X.length) (hX : Hid (XRow w ax X)) : Calls Try.prog 58 #[.agg #[.int .i64 6, .int .i64 n, .int .i64 el, .slice va ps.length vc], .slice ax X.length cx] w fun e w' => e = .returned (exv ⟨false, 1, plus2 1 (exAt X el).m, 1 + (exAt X el).d⟩) ∧ Below w.heap.size w w' := by
  have hB := below2 w (.cells #[.int .i64 6, .int .i64 n, .int .i64 el, .slice va ps.length vc] 43) (.cells #[.bool false, .int .i64 0, .int .i64 0, .int .i64 0] 35)
  obtain ⟨k1, k2⟩ := blk2 w #[.int .i64 6, .int .i64 n, .int .i64 el, .slice va ps.length vc] #[.bool false, .int .i64 0, .int .i64 0, .int .i64 0] 43 35
  obtain ⟨w0, hw0⟩ : ∃ wx, wx = (w.alloc (.cells #[.int .i64 6, .int .i64 n, .int .i64 el, .slice va ps.length vc] 43)).alloc (.cells #[.bool false, .int .i64 0, .int .i64 0, .int .i64 0] 35) := ⟨_, rfl⟩
  rw [← hw0] at hB k1 k2
  have K1 := hide_ k1
  have K2 := hide_ k2
  have HB := hide_ hB
  have i0 := k1.cell 0; have i1 := k1.cell 1; have i2 := k1.cell 2; have i3 := k1.cell 3
  have j0 := k2.cell 0; have j1 := k2.cell 1; have j2 := k2.cell 2; have j3 := k2.cell 3
  have jf := fun i => k2.frozen i
  simp at i0 i1 i2 i3 j0 j1 j2 j3
  obtain ⟨m, rfl⟩ := Int.eq_ofNat_of_zero_le hel.1
  have hmx : m < X.length := by omega
  have hmx' : (m : Int) < X.length := hel.2
  obtain ⟨bx, ox, rfl, hbx, hcx⟩ := hX.out.open (by omega)
  have hxe := exAt_at hmx
  obtain ⟨hd0, hd1⟩ := hbd.out _ (List.mem_of_getElem? hxe)
  have hcy := hcx m _ hxe
  have HPt : Hid (∀ w', Calls Try.prog 78 #[.agg #[.bool (exAt X m).f, .int .i64 (exAt X m).l, .int .i64 (exAt X m).m, .int .i64 (exAt X m).d]] w' fun e w'' => e = .returned (.tuple #[.int .i64 (offX (exAt X m)).l, .int .i64 (offX (exAt X m)).m]) ∧ Below w'.heap.size w' w'') := hide_ (fun w' => part_any _ w')
  generalize (offX (exAt X m)).l = pl at *
  generalize (offX (exAt X m)).m = pm at *
  generalize exAt X m = xx at *
  obtain ⟨xf, xl, xm, xd⟩ := xx
  have HXc : Hid (∀ j, j < 4 → ∀ w', Below w0.heap.size w0 w' → w'.cell? ⟨bx, ox + m * 4 + j, none⟩ = (exc ⟨xf, xl, xm, xd⟩)[j]?) := hide_ (fun j hj w' hB' => ((below_to HB.out hB').cell (p := ⟨bx, ox + m * 4 + j, none⟩) hbx).trans (hcy j hj))
  have x0 := HXc.out 0 (by decide) w0 (Below.refl _ _); have x1 := HXc.out 1 (by decide) w0 (Below.refl _ _); have x2 := HXc.out 2 (by decide) w0 (Below.refl _ _); have x3 := HXc.out 3 (by decide) w0 (Below.refl _ _)
  simp [exc] at x0 x1 x2 x3
  simp only at hd0 hd1 HPt
  have hw1 : wrap64 (1 + xd) = 1 + xd := w64 _ (by omega)
  have hw2 : IntKind.i64.wrap (1 + xd) = 1 + xd := by rw [IntKind.wrap_i64]; omega
  have HCt : Hid (∀ (a b : Int) (w' : World), Calls Try.prog 79 #[.int .i64 a, .int .i64 b] w' fun e w'' => e = .returned (.int .i64 (times2 a b)) ∧ w' = w'') := hide_ (fun a b w' => rtimes_any a b w')
  have HCp : Hid (∀ (a b : Int) (w' : World), Calls Try.prog 80 #[.int .i64 a, .int .i64 b] w' fun e w'' => e = .returned (.int .i64 (plus2 a b)) ∧ Below w'.heap.size w' w'') := hide_ (fun a b w' => rplus_any a b w')
  clear hB k1 k2 hcx hxe hcy hX hbd
  go_enter Try.func58, Try.ntmps58
  go_upto_region 1 with fail
  rw [← hw0]
  clear hw0
  have HSS : Hid (∀ w', Below (w.heap.size + 1) w0 w' → Below (w.heap.size + 1) w0 w' ∧ w'.cell? ⟨w.heap.size, 1, none⟩ = some (.int .i64 n) ∧ w'.cell? ⟨w.heap.size, 2, none⟩ = some (.int .i64 m) ∧ w'.cell? ⟨bx, ox + m * 4, none⟩ = some (.bool xf) ∧ w'.cell? ⟨bx, ox + m * 4 + 2, none⟩ = some (.int .i64 xm) ∧ w'.cell? ⟨bx, ox + m * 4 + 3, none⟩ = some (.int .i64 xd)) := hide_ (fun w' hB' => ⟨hB', (K1.out.below hB' (by omega)).cell 1, (K1.out.below hB' (by omega)).cell 2, (hB'.cell (p := ⟨bx, ox + m * 4 + 0, none⟩) (by show bx < _; omega)).trans (HXc.out 0 (by decide) w0 (Below.refl _ _)), (hB'.cell (p := ⟨bx, ox + m * 4 + 2, none⟩) (by show bx < _; omega)).trans (HXc.out 2 (by decide) w0 (Below.refl _ _)), (hB'.cell (p := ⟨bx, ox + m * 4 + 3, none⟩) (by show bx < _; omega)).trans (HXc.out 3 (by decide) w0 (Below.refl _ _))⟩)
  have hz0 : w.heap.size + 1 < w0.heap.size := K2.out.lt
  go_wp2_with fail
  go_region_held_law (fun w' => Below (w.heap.size + 1) w0 w' ∧ w'.cell? ⟨w.heap.size, 1, none⟩ = some (.int .i64 n) ∧ w'.cell? ⟨w.heap.size, 2, none⟩ = some (.int .i64 m) ∧ w'.cell? ⟨bx, ox + m * 4, none⟩ = some (.bool xf) ∧ w'.cell? ⟨bx, ox + m * 4 + 2, none⟩ = some (.int .i64 xm) ∧ w'.cell? ⟨bx, ox + m * 4 + 3, none⟩ = some (.int .i64 xd)) (first | assumption | exact HSS.out _ ((Below.refl _ _).drew) | exact HSS.out _ (Below.refl _ _) | exact HSS.out _ (below_wr4 (And.left (by assumption)) _ (by omega) _ _ _ _))
    ((go_at_call 80; refine (HCp.out _ _ _).mono ?_; rintro e w2 ⟨rfl, hB2⟩; (have hB3 := below_to ((Below.refl w0.heap.size w0).drew) hB2); (have G2 := HSS.out w2 (hB3.mono (by omega))); (have k3 := K2.out.later hB3); (have HB2 := hide_ hB3); (have K3 := hide_ k3); (have l0 := k3.cell 0); (have l1 := k3.cell 1); (have l2 := k3.cell 2); (have l3 := k3.cell 3); (have lf := fun i => k3.frozen i); (simp at l0 l1 l2 l3); (clear hB2 hB3 k3)))
  have HBw := hide_ (below_to HB.out HB2.out)
  have HK := hide_ (wr4 K3.out (.bool false) (.int .i64 1) (.int .i64 (plus2 1 xm)) (.int .i64 (1 + xd)))
  have HBf := hide_ (below_wr4 HBw.out (w.heap.size + 1) (by omega) (.bool false) (.int .i64 1) (.int .i64 (plus2 1 xm)) (.int .i64 (1 + xd)))
  go_wp2
  exact retX (x := ⟨false, 1, plus2 1 xm, 1 + xd⟩) rfl rfl HK.out ⟨rfl, HBf.out⟩
end Go.Proofs.Ytpkghpfdibnhcaa
/- The document's extents: one of a union, a struct. -/
namespace Go.Proofs.Ytpkghpfdibnhcaa
open Go.RowKit
set_option linter.unusedVariables false

def kidX (X : List Ex) (ps : List Pt) : List Ex := ps.map (fun p => exAt X p.ty)
theorem kidX_at {X : List Ex} {ps : List Pt} {m : Nat} {p : Pt} (h : ps[m]? = some p) : (kidX X ps)[m]? = some (exAt X p.ty) := by
  unfold kidX
  rw [List.getElem?_map, h]
  rfl
theorem ch_one {X : List Ex} {x : Ex} (h : XOk x) (hx : X[0]? = some x) : chX (X.take 1) = (x.l, x.m) ∧ deepX (X.take 1) = x.d := by
  have e1 := chX_succ hx
  have e2 := deepX_succ hx
  have := h.l0; have := h.lm; have := h.mh; have := h.d0
  rw [Nat.zero_add] at e1 e2
  rw [e1, e2]
  simp only [List.take_zero, chX, deepX, List.foldl_nil]
  refine ⟨Prod.ext (by simp only; omega) (by simp only; omega), by omega⟩
set_option maxRecDepth 100000 in
set_option maxHeartbeats 8000000 in
theorem one7_any (n el : Int) (ps : List Pt) (va : Option Addr) (vc : Nat) (X : List Ex) (ax : Option Addr) (cx : Nat) (w : World) (hXl : X.length ≤ 10000000000000) (hbd : Hid (∀ x ∈ X, XOk x ∧ x.d ≤ 1000000)) (hps : 0 < ps.length) (hpl : ps.length ≤ 64) (hpt : Hid (∀ (j : Nat) (p : Pt), ps[j]? = some p → 0 ≤ p.ty ∧ p.ty < X.length)) (hP : Hid (PRow w va ps)) (hX : Hid (XRow w ax X)) : Calls Try.prog 58 #[.agg #[.int .i64 7, .int .i64 n, .int .i64 el, .slice va ps.length vc], .slice ax X.length cx] w fun e w' => e = .returned (exv ⟨false, plus2 1 (chX (kidX X ps)).1, plus2 1 (chX (kidX X ps)).2, 1 + deepX (kidX X ps)⟩) ∧ Below w.heap.size w w' := by
  have hB := below2 w (.cells #[.int .i64 7, .int .i64 n, .int .i64 el, .slice va ps.length vc] 43) (.cells #[.bool false, .int .i64 0, .int .i64 0, .int .i64 0] 35)
  obtain ⟨k1, k2⟩ := blk2 w #[.int .i64 7, .int .i64 n, .int .i64 el, .slice va ps.length vc] #[.bool false, .int .i64 0, .int .i64 0, .int .i64 0] 43 35
  obtain ⟨w0, hw0⟩ : ∃ wx, wx = (w.alloc (.cells #[.int .i64 7, .int .i64 n, .int .i64 el, .slice va ps.length vc] 43)).alloc (.cells #[.bool false, .int .i64 0, .int .i64 0, .int .i64 0] 35) := ⟨_, rfl⟩
  rw [← hw0] at hB k1 k2
  have K1 := hide_ k1
  have K2 := hide_ k2
  have HB := hide_ hB
  have i0 := k1.cell 0; have i1 := k1.cell 1; have i2 := k1.cell 2; have i3 := k1.cell 3
  have j0 := k2.cell 0; have j1 := k2.cell 1; have j2 := k2.cell 2; have j3 := k2.cell 3
  have jf := fun i => k2.frozen i
  simp at i0 i1 i2 i3 j0 j1 j2 j3
  have HGet : Hid (∀ (j : Nat), j < ps.length → ∀ w', Below w0.heap.size w0 w' → ∃ (bp op : Nat) (bx ox m : Nat), va = some ⟨bp, op, none⟩ ∧ ax = some ⟨bx, ox, none⟩ ∧ (kidX X ps)[j]? = some (exAt X m) ∧ (m : Int) < X.length ∧ w'.cell? ⟨bp, op + j * 3 + 2, none⟩ = some (.int .i64 (m : Int)) ∧ (∀ i, i < 4 → w'.cell? ⟨bx, ox + m * 4 + i, none⟩ = (exc (exAt X m))[i]?) ∧ XOk (exAt X m) ∧ (exAt X m).d ≤ 1000000) := hide_ (fun j hj w' hB' => by
    obtain ⟨bp, op, e1, hbp, hcp⟩ := hP.out.open (by omega)
    have hq : ps[j]? = some (ps[j]'hj) := List.getElem?_eq_getElem hj
    obtain ⟨h0, h1⟩ := hpt.out j _ hq
    obtain ⟨m, hm⟩ := Int.eq_ofNat_of_zero_le h0
    obtain ⟨bx, ox, e2, hbx, hcx⟩ := hX.out.open (by omega)
    have hxe := exAt_at (X := X) (i := m) (by omega)
    have hB2 := below_to HB.out hB'
    refine ⟨bp, op, bx, ox, m, e1, e2, by rw [kidX_at hq, hm], by omega, ?_, fun i hi => (hB2.cell (p := ⟨bx, ox + m * 4 + i, none⟩) hbx).trans (hcx m _ hxe i hi), (hbd.out _ (List.mem_of_getElem? hxe)).1, (hbd.out _ (List.mem_of_getElem? hxe)).2⟩
    have h2 := hcp j _ hq 2 (by decide)
    rw [show (ptc (ps[j]'hj))[2]? = some (.int .i64 (ps[j]'hj).ty) from rfl, hm] at h2
    exact (hB2.cell (p := ⟨bp, op + j * 3 + 2, none⟩) hbp).trans h2)
  have HKl : Hid ((kidX X ps).length = ps.length) := hide_ (by simp [kidX])
  have HCp : Hid (∀ (a b : Int) (w' : World), Calls Try.prog 80 #[.int .i64 a, .int .i64 b] w' fun e w'' => e = .returned (.int .i64 (plus2 a b)) ∧ Below w'.heap.size w' w'') := hide_ (fun a b w' => rplus_any a b w')
  clear hB k1 k2 hP hX hbd hpt
  generalize kidX X ps = Y at *
  obtain ⟨bp, op, bx, ox, m, rfl, rfl, hy0, hmx, hc2, hcx, hxo, hxd⟩ := HGet.out 0 hps w0 (Below.refl _ _)
  have x0 := hcx 0 (by decide); have x1 := hcx 1 (by decide); have x2 := hcx 2 (by decide); have x3 := hcx 3 (by decide)
  have H1 := hide_ (ch_one hxo hy0)
  have hxn : 0 ≤ (exAt X m).d := hxo.d0
  generalize exAt X m = xx at *
  obtain ⟨xf, xl, xm, xd⟩ := xx
  simp [exc] at x0 x1 x2 x3 hc2 hxd hxn
  have hpl0 : (0 : Int) < (ps.length : Int) := by omega
  obtain ⟨w1, hw1⟩ : ∃ wx, wx = w0.alloc (.cells #[.bool xf, .int .i64 xl, .int .i64 xm, .int .i64 xd] 35) := ⟨_, rfl⟩
  have b1 : Below w0.heap.size w0 w1 := by rw [hw1]; exact below1 _ _
  have kx : Blk w1 w0.heap.size 35 [.bool xf, .int .i64 xl, .int .i64 xm, .int .i64 xd] := by rw [hw1]; exact Blk.newA w0 _ _
  have KX := hide_ kx
  have HBx := hide_ b1
  obtain ⟨g9, hg9⟩ : ∃ g, w0.heap.size = g := ⟨_, rfl⟩
  have HG9 := hide_ hg9
  clear b1 kx hcx hxo hy0
  go_enter Try.func58, Try.ntmps58
  go_upto_region 1 with fail
  rw [← hw0]
  clear hw0
  go_upto_region 12 with fail
  rw [← hw1]
  try rw [hg9]
  rw [hg9] at KX
  clear hw1 hg9 i0 i1 i2 i3 j0 j1 j2 j3 jf x0 x1 x2 x3 hc2
  go_wp2_with fail
  go_loopw [10] (fun x10 wr => ∃ (i : Nat) (f : Bool) (L M D : Int), 1 ≤ i ∧ i ≤ ps.length ∧ x10 = .int .i64 (i : Int) ∧ Hid ((L, M) = chX (Y.take i)) ∧ Hid (D = deepX (Y.take i)) ∧ 0 ≤ D ∧ D ≤ 1000000 ∧ Hid (Blk wr g9 35 [.bool f, .int .i64 L, .int .i64 M, .int .i64 D]) ∧ Hid (Below w0.heap.size w0 wr)) (fun x10 _ => ps.length - (intOf x10).toNat)
  case atStart => exact ⟨1, xf, xl, xm, xd, by omega, by omega, rfl, hide_ H1.out.1.symm, hide_ H1.out.2.symm, hxn, hxd, KX, HBx⟩
  case round =>
    obtain ⟨i, f, L, M, D, hi1, hi, rfl, HC, HD, hD0, hD1, K9, HB1⟩ := hrel
    generalize wr = wq at *
    clear KX HBx H1 hmx
    have i3 := (K1.out.later HB1.out).cell 3
    have q1 := K9.out.cell 1; have q2 := K9.out.cell 2; have q3 := K9.out.cell 3
    simp at i3 q1 q2 q3
    by_cases hlt : i < ps.length
    · have hlt' : (i : Int) < ps.length := by omega
      obtain ⟨bp', op', bx', ox', m', e1, e2, hy, hmx, hc2, hcx, hxo, hxd'⟩ := HGet.out i hlt wq HB1.out
      injection e1 with e1
      injection e1 with e1 e1' _
      injection e2 with e2
      injection e2 with e2 e2' _
      subst e1 e1' e2 e2'
      have x0 := hcx 0 (by decide); have x1 := hcx 1 (by decide); have x2 := hcx 2 (by decide); have x3 := hcx 3 (by decide)
      have HCs := hide_ (chX_succ hy)
      have HDs := hide_ (deepX_succ hy)
      rw [← HC.out] at HCs
      rw [← HD.out] at HDs
      have hxn' : 0 ≤ (exAt X m').d := hxo.d0
      generalize exAt X m' = yy at *
      obtain ⟨yf, yl, ym, yd⟩ := yy
      simp [exc] at x0 x1 x2 x3 hc2
      simp only at HCs HDs hxd' hxn'
      obtain ⟨wa, hwa⟩ : ∃ wx, wx = wq.alloc (.cells #[.bool yf, .int .i64 yl, .int .i64 ym, .int .i64 yd] 35) := ⟨_, rfl⟩
      have ba : Below wq.heap.size wq wa := by rw [hwa]; exact below1 _ _
      have ka : Blk wa wq.heap.size 35 [.bool yf, .int .i64 yl, .int .i64 ym, .int .i64 yd] := by rw [hwa]; exact Blk.newA wq _ _
      have k9 := K9.out.later ba
      have HW9 : Hid (∀ a b c, Blk ((((wa.setCell ⟨g9, 0, none⟩ (.bool false)).setCell ⟨g9, 1, none⟩ (.int .i64 a)).setCell ⟨g9, 2, none⟩ (.int .i64 b)).setCell ⟨g9, 3, none⟩ (.int .i64 c)) g9 35 [.bool false, .int .i64 a, .int .i64 b, .int .i64 c]) := hide_ (fun a b c => wr4 k9 _ _ _ _)
      have HWB : Hid (∀ a b c, Below w0.heap.size w0 ((((wa.setCell ⟨g9, 0, none⟩ (.bool false)).setCell ⟨g9, 1, none⟩ (.int .i64 a)).setCell ⟨g9, 2, none⟩ (.int .i64 b)).setCell ⟨g9, 3, none⟩ (.int .i64 c))) := hide_ (fun a b c => below_wr4 (below_to HB1.out ba) g9 (by have := HG9.out; omega) _ _ _ _)
      have p0 := ka.cell 0; have p1 := ka.cell 1; have p2 := ka.cell 2; have p3 := ka.cell 3
      have s0 := k9.cell 0; have s1 := k9.cell 1; have s2 := k9.cell 2; have s3 := k9.cell 3
      have sf := fun i => k9.frozen i
      simp at p0 p1 p2 p3 s0 s1 s2 s3
      clear ba ka k9 hcx hy hxo
      go_upto_region 16 with fail
      rw [← hwa]
      clear hwa x0 x1 x2 x3 hc2 q1 q2 q3 i3
      go_wp2_with fail
      all_goals
        go_roundw
        case rel => exact ⟨i + 1, false, _, _, _, by omega, by omega, by go_num, hide_ (by rw [HCs.out]; refine Prod.ext ?_ ?_ <;> (simp only; omega)), hide_ (by rw [HDs.out]; omega), by omega, by omega, hide_ (HW9.out _ _ _), hide_ (HWB.out _ _ _)⟩
        case measure => simp [intOf]; omega
    · have hlt' : ¬ (i : Int) < ps.length := by omega
      have HV : Hid ((⟨false, plus2 1 (chX Y).1, plus2 1 (chX Y).2, 1 + deepX Y⟩ : Ex) = ⟨false, plus2 1 L, plus2 1 M, 1 + D⟩) := hide_ (by
        have h1 := HC.out; have h2 := HD.out
        rw [List.take_of_length_le (by have := HKl.out; omega)] at h1 h2
        rw [← h1, ← h2])
      have HSS : Hid (∀ w', Below wq.heap.size wq w' → Below wq.heap.size wq w' ∧ w'.cell? ⟨g9, 1, none⟩ = some (.int .i64 L) ∧ w'.cell? ⟨g9, 2, none⟩ = some (.int .i64 M) ∧ w'.cell? ⟨g9, 3, none⟩ = some (.int .i64 D)) := hide_ (fun w' hB' => ⟨hB', (K9.out.later hB').cell 1, (K9.out.later hB').cell 2, (K9.out.later hB').cell 3⟩)
      have hw2 : IntKind.i64.wrap (1 + D) = 1 + D := by rw [IntKind.wrap_i64]; omega
      go_upto_region 17 with fail
      refine wp_region_last 10 (fun w' => Below wq.heap.size wq w' ∧ w'.cell? ⟨g9, 1, none⟩ = some (.int .i64 L) ∧ w'.cell? ⟨g9, 2, none⟩ = some (.int .i64 M) ∧ w'.cell? ⟨g9, 3, none⟩ = some (.int .i64 D)) (by kernel_rfl) (HSS.out _ ((Below.refl wq.heap.size wq).drew)) (fun hHeld => ?_)
      refine wpAnyF_take [10] (by kernel_rfl) (i := 0) (v := ?vu1) rfl (by kernel_rfl) (by kernel_rfl) (by kernel_rfl) (fun _ _ _ h => h) (Or.inl ⟨by rfl, ?hyu1⟩) hHeld ?restu1
      case hyu1 => intro w' hSw; (try dsimp only at hSw); go_simp; try with_reducible rfl
      simp only [Act.put]
      refine wpAnyF_take [10] (by kernel_rfl) (i := 1) (v := ?vu2) rfl (by kernel_rfl) (by kernel_rfl) (by kernel_rfl) (fun _ _ _ h => h) (Or.inl ⟨by rfl, ?hyu2⟩) hHeld ?restu2
      case hyu2 => intro w' hSw; (try dsimp only at hSw); go_simp; try with_reducible rfl
      simp only [Act.put]
      refine wpAnyF_take [10] (by kernel_rfl) (i := 3) (v := ?vu3) rfl (by kernel_rfl) (by kernel_rfl) (by kernel_rfl) (fun _ _ _ h => h) (Or.inl ⟨by rfl, ?hyu3⟩) hHeld ?restu3
      case hyu3 => intro w' hSw; (try dsimp only at hSw); go_simp; try with_reducible rfl
      simp only [Act.put]
      refine wpAnyF_take [10] (by kernel_rfl) (i := 4) (v := ?vu4) rfl (by kernel_rfl) (by kernel_rfl) (by kernel_rfl) (fun _ _ _ h => h) (Or.inl ⟨by rfl, ?hyu4⟩) hHeld ?restu4
      case hyu4 => intro w' hSw; (try dsimp only at hSw); go_simp; try with_reducible rfl
      simp only [Act.put]
      refine wpAnyF_take [10] (by kernel_rfl) (i := 6) (v := ?vu5) rfl (by kernel_rfl) (by kernel_rfl) (by kernel_rfl) (fun _ _ _ h => h) (Or.inl ⟨by rfl, ?hyu5⟩) hHeld ?restu5
      case hyu5 => intro w' hSw; (try dsimp only at hSw); go_simp; try with_reducible rfl
      simp only [Act.put]
      refine wpAnyF_take [10] (by kernel_rfl) (i := 7) (v := ?vu6) rfl (by kernel_rfl) (by kernel_rfl) (by kernel_rfl) (fun _ _ _ h => h) (Or.inl ⟨by rfl, ?hyu6⟩) hHeld ?restu6
      case hyu6 => intro w' hSw; (try dsimp only at hSw); go_simp; try with_reducible rfl
      simp only [Act.put]
      refine wpAnyF_take [10] (by kernel_rfl) (i := 8) (v := ?vu7) rfl (by kernel_rfl) (by kernel_rfl) (by kernel_rfl) (fun _ _ _ h => h) (Or.inl ⟨by rfl, ?hyu7⟩) hHeld ?restu7
      case hyu7 => intro w' hSw; (try dsimp only at hSw); go_simp; try with_reducible rfl
      simp only [Act.put]
      refine wpAnyF_ready (rs := [2]) (by kernel_rfl) (by simp) ?_
      refine AllReadyF.cons rfl (fun K hK => ?_) AllReadyF.nil
      go_simp
      refine (HCp.out _ _ _).mono ?_
      rintro e w2 ⟨rfl, hB2⟩
      dsimp only
      have HB2 := hide_ (below_to ((Below.refl wq.heap.size wq).drew) hB2)
      clear hB2
      refine hK.out _ _ (HSS.out _ HB2.out) (fun hHeld => ?_)
      clear hK K
      refine wpAnyF_ready (rs := [5]) (by kernel_rfl) (by simp) ?_
      refine AllReadyF.cons rfl (fun K hK => ?_) AllReadyF.nil
      go_simp
      refine (HCp.out _ _ _).mono ?_
      rintro e w3 ⟨rfl, hB3⟩
      dsimp only
      have HB3 := hide_ (below_to HB2.out hB3)
      clear hB3
      refine hK.out _ _ (HSS.out _ HB3.out) (fun hHeld => ?_)
      clear hK K
      refine wpAnyF_take [10] (by kernel_rfl) (i := 9) (v := ?vu8) rfl (by kernel_rfl) (by kernel_rfl) (by kernel_rfl) (fun _ _ _ h => h) (Or.inl ⟨by rfl, ?hyu8⟩) hHeld ?restu8
      case hyu8 => intro w' hSw; (try dsimp only at hSw); go_simp; try with_reducible rfl
      simp only [Act.put]
      refine wpAnyF_ready (rs := [10]) (by kernel_rfl) (by simp) ?_
      refine AllReadyF.last rfl (fun K hK => ?_)
      have k3 := (K2.out.later (below_to HB1.out HB3.out))
      have HK := hide_ (wr4 k3 (.bool false) (.int .i64 (plus2 1 L)) (.int .i64 (plus2 1 M)) (.int .i64 (1 + D)))
      have HBf := hide_ (below_wr4 (below_to HB.out (below_to HB1.out HB3.out)) (w.heap.size + 1) (by omega) (.bool false) (.int .i64 (plus2 1 L)) (.int .i64 (plus2 1 M)) (.int .i64 (1 + D)))
      have l0 := k3.cell 0; have l1 := k3.cell 1; have l2 := k3.cell 2; have l3 := k3.cell 3
      have lf := fun i => k3.frozen i
      simp at l0 l1 l2 l3
      clear k3
      go_simp
      refine hK.out _ _ ?_
      clear hK K
      refine wpAnyF_done (by kernel_rfl) ?_ _
      go_wp2
      exact retX (x := ⟨false, plus2 1 L, plus2 1 M, 1 + D⟩) rfl rfl HK.out ⟨by rw [HV.out], HBf.out⟩
end Go.Proofs.Ytpkghpfdibnhcaa
/- The document's extents: one of a struct. -/
namespace Go.Proofs.Ytpkghpfdibnhcaa
open Go.RowKit
set_option linter.unusedVariables false

set_option maxRecDepth 100000 in
set_option maxHeartbeats 8000000 in
theorem one8_any (n el : Int) (ps : List Pt) (va : Option Addr) (vc : Nat) (X : List Ex) (ax : Option Addr) (cx : Nat) (w : World) (hXl : X.length ≤ 10000000000000) (hbd : Hid (∀ x ∈ X, XOk x ∧ x.d ≤ 1000000)) (hps : 0 < ps.length) (hpl : ps.length ≤ 64) (hpt : Hid (∀ (j : Nat) (p : Pt), ps[j]? = some p → 0 ≤ p.ty ∧ p.ty < X.length)) (hP : Hid (PRow w va ps)) (hX : Hid (XRow w ax X)) : Calls Try.prog 58 #[.agg #[.int .i64 8, .int .i64 n, .int .i64 el, .slice va ps.length vc], .slice ax X.length cx] w fun e w' => e = .returned (exv ⟨(rowX (kidX X ps)).1, (rowX (kidX X ps)).2.1, (rowX (kidX X ps)).2.2, 1 + deepX (kidX X ps)⟩) ∧ Below w.heap.size w w' := by
  have hB := below2 w (.cells #[.int .i64 8, .int .i64 n, .int .i64 el, .slice va ps.length vc] 43) (.cells #[.bool false, .int .i64 0, .int .i64 0, .int .i64 0] 35)
  obtain ⟨k1, k2⟩ := blk2 w #[.int .i64 8, .int .i64 n, .int .i64 el, .slice va ps.length vc] #[.bool false, .int .i64 0, .int .i64 0, .int .i64 0] 43 35
  obtain ⟨w0, hw0⟩ : ∃ wx, wx = (w.alloc (.cells #[.int .i64 8, .int .i64 n, .int .i64 el, .slice va ps.length vc] 43)).alloc (.cells #[.bool false, .int .i64 0, .int .i64 0, .int .i64 0] 35) := ⟨_, rfl⟩
  rw [← hw0] at hB k1 k2
  have K1 := hide_ k1
  have K2 := hide_ k2
  have HB := hide_ hB
  have i0 := k1.cell 0; have i1 := k1.cell 1; have i2 := k1.cell 2; have i3 := k1.cell 3
  have j0 := k2.cell 0; have j1 := k2.cell 1; have j2 := k2.cell 2; have j3 := k2.cell 3
  have jf := fun i => k2.frozen i
  simp at i0 i1 i2 i3 j0 j1 j2 j3
  have HGet : Hid (∀ (j : Nat), j < ps.length → ∀ w', Below w0.heap.size w0 w' → ∃ (bp op : Nat) (bx ox m : Nat), va = some ⟨bp, op, none⟩ ∧ ax = some ⟨bx, ox, none⟩ ∧ (kidX X ps)[j]? = some (exAt X m) ∧ (m : Int) < X.length ∧ w'.cell? ⟨bp, op + j * 3 + 2, none⟩ = some (.int .i64 (m : Int)) ∧ (∀ i, i < 4 → w'.cell? ⟨bx, ox + m * 4 + i, none⟩ = (exc (exAt X m))[i]?) ∧ XOk (exAt X m) ∧ (exAt X m).d ≤ 1000000) := hide_ (fun j hj w' hB' => by
    obtain ⟨bp, op, e1, hbp, hcp⟩ := hP.out.open (by omega)
    have hq : ps[j]? = some (ps[j]'hj) := List.getElem?_eq_getElem hj
    obtain ⟨h0, h1⟩ := hpt.out j _ hq
    obtain ⟨m, hm⟩ := Int.eq_ofNat_of_zero_le h0
    obtain ⟨bx, ox, e2, hbx, hcx⟩ := hX.out.open (by omega)
    have hxe := exAt_at (X := X) (i := m) (by omega)
    have hB2 := below_to HB.out hB'
    refine ⟨bp, op, bx, ox, m, e1, e2, by rw [kidX_at hq, hm], by omega, ?_, fun i hi => (hB2.cell (p := ⟨bx, ox + m * 4 + i, none⟩) hbx).trans (hcx m _ hxe i hi), (hbd.out _ (List.mem_of_getElem? hxe)).1, (hbd.out _ (List.mem_of_getElem? hxe)).2⟩
    have h2 := hcp j _ hq 2 (by decide)
    rw [show (ptc (ps[j]'hj))[2]? = some (.int .i64 (ps[j]'hj).ty) from rfl, hm] at h2
    exact (hB2.cell (p := ⟨bp, op + j * 3 + 2, none⟩) hbp).trans h2)
  have HKl : Hid ((kidX X ps).length = ps.length) := hide_ (by simp [kidX])
  have HCp : Hid (∀ (a b : Int) (w' : World), Calls Try.prog 80 #[.int .i64 a, .int .i64 b] w' fun e w'' => e = .returned (.int .i64 (plus2 a b)) ∧ Below w'.heap.size w' w'') := hide_ (fun a b w' => rplus_any a b w')
  clear hB k1 k2 hP hX hbd hpt
  generalize kidX X ps = Y at *
  obtain ⟨w1, hw1⟩ : ∃ wx, wx = w0.alloc (.cells #[.bool true, .int .i64 0, .int .i64 0, .int .i64 0] 35) := ⟨_, rfl⟩
  have b1 : Below w0.heap.size w0 w1 := by rw [hw1]; exact below1 _ _
  have kx : Blk w1 w0.heap.size 35 [.bool true, .int .i64 0, .int .i64 0, .int .i64 0] := by rw [hw1]; exact Blk.newA w0 _ _
  have KX := hide_ kx
  have HBx := hide_ b1
  obtain ⟨g12, hg12⟩ : ∃ g, w0.heap.size = g := ⟨_, rfl⟩
  have HG12 := hide_ hg12
  clear b1 kx
  go_enter Try.func58, Try.ntmps58
  go_upto_region 1 with fail
  rw [← hw0]
  clear hw0
  go_upto_region 20 with fail
  rw [← hw1]
  try rw [hg12]
  rw [hg12] at KX
  clear hw1 hg12 i0 i1 i2 i3 j0 j1 j2 j3 jf
  go_wp2_with fail
  go_loopw [13] (fun x13 wr => ∃ (i : Nat) (f : Bool) (L M D : Int), i ≤ ps.length ∧ x13 = .int .i64 (i : Int) ∧ Hid ((f, L, M) = rowX (Y.take i)) ∧ Hid (D = deepX (Y.take i)) ∧ 0 ≤ D ∧ D ≤ 1000000 ∧ Hid (Blk wr g12 35 [.bool f, .int .i64 L, .int .i64 M, .int .i64 D]) ∧ Hid (Below w0.heap.size w0 wr)) (fun x13 _ => ps.length - (intOf x13).toNat)
  case atStart => exact ⟨0, true, 0, 0, 0, by omega, rfl, hide_ rfl, hide_ rfl, by omega, by omega, KX, HBx⟩
  case round =>
    obtain ⟨i, f, L, M, D, hi, rfl, HC, HD, hD0, hD1, K9, HB1⟩ := hrel
    generalize wr = wq at *
    clear KX HBx
    have i3 := (K1.out.later HB1.out).cell 3
    simp at i3
    by_cases hlt : i < ps.length
    · have hlt' : (i : Int) < ps.length := by omega
      obtain ⟨bp, op, bx, ox, m', rfl, rfl, hy, hmx, hc2, hcx, hxo, hxd'⟩ := HGet.out i hlt wq HB1.out
      have x0 := hcx 0 (by decide); have x1 := hcx 1 (by decide); have x2 := hcx 2 (by decide); have x3 := hcx 3 (by decide)
      have HRs0 := hide_ (rowX_succ hy)
      have HDs0 := hide_ (deepX_succ hy)
      rw [← HC.out, off_f] at HRs0
      rw [← HD.out] at HDs0
      have hxn' : 0 ≤ (exAt X m').d := hxo.d0
      have HPt : Hid (∀ w', Calls Try.prog 78 #[.agg #[.bool (exAt X m').f, .int .i64 (exAt X m').l, .int .i64 (exAt X m').m, .int .i64 (exAt X m').d]] w' fun e w'' => e = .returned (.tuple #[.int .i64 (offX (exAt X m')).l, .int .i64 (offX (exAt X m')).m]) ∧ Below w'.heap.size w' w'') := hide_ (fun w' => part_any _ w')
      generalize (offX (exAt X m')).l = pl at *
      generalize (offX (exAt X m')).m = pm at *
      generalize exAt X m' = yy at *
      obtain ⟨yf, yl, ym, yd⟩ := yy
      simp [exc] at x0 x1 x2 x3 hc2
      simp only at HRs0 HDs0 hxd' hxn' HPt
      obtain ⟨dn, hdn⟩ : ∃ dn, (if D < yd then yd else D) = dn := ⟨_, rfl⟩
      have hdm : dn = max D yd := by rw [← hdn]; split <;> omega
      have hdn0 : 0 ≤ dn ∧ dn ≤ 1000000 := by omega
      have HDs : Hid (dn = deepX (Y.take (i + 1))) := hide_ (by rw [HDs0.out, ← hdm])
      clear hdm
      obtain ⟨wa, hwa⟩ : ∃ wx, wx = wq.alloc (.cells #[.bool yf, .int .i64 yl, .int .i64 ym, .int .i64 yd] 35) := ⟨_, rfl⟩
      have ba : Below wq.heap.size wq wa := by rw [hwa]; exact below1 _ _
      have ka : Blk wa wq.heap.size 35 [.bool yf, .int .i64 yl, .int .i64 ym, .int .i64 yd] := by rw [hwa]; exact Blk.newA wq _ _
      have p0 := ka.cell 0; have p1 := ka.cell 1; have p2 := ka.cell 2; have p3 := ka.cell 3
      simp at p0 p1 p2 p3
      have HKA := hide_ ka
      have HBA := hide_ ba
      clear ba ka hcx hy hxo HDs0
      go_upto_region 24 with fail
      rw [← hwa]
      clear hwa x0 x1 x2 x3 hc2 i3
      go_wp2_with (go_at_call 78; refine (HPt.out _).mono ?_; rintro e w2 ⟨rfl, hB2⟩)
      have HB2 := hide_ (below_to HB1.out (below_to HBA.out hB2))
      have K12 := hide_ (K9.out.later (below_to HBA.out hB2))
      have KA := hide_ (HKA.out.later hB2)
      clear hB2 p0 p1 p2 p3 HPt HKA HBA
      cases f with
      | true =>
        have HRs : Hid ((yf, plus2 L pl, plus2 M pm) = rowX (Y.take (i + 1))) := hide_ (by rw [HRs0.out]; simp)
        have HSS : Hid (∀ w', Below w2.heap.size w2 w' → (fun w' => Below w2.heap.size w2 w' ∧ w'.cell? ⟨g12, 0, none⟩ = some (.bool true) ∧ w'.cell? ⟨g12, 1, none⟩ = some (.int .i64 L) ∧ w'.cell? ⟨g12, 2, none⟩ = some (.int .i64 M) ∧ w'.cell? ⟨g12, 3, none⟩ = some (.int .i64 D) ∧ w'.cell? ⟨wq.heap.size, 0, none⟩ = some (.bool yf) ∧ w'.cell? ⟨wq.heap.size, 3, none⟩ = some (.int .i64 yd)) w') := hide_ (fun w' hB' => ⟨hB', (K12.out.later hB').cell 0, (K12.out.later hB').cell 1, (K12.out.later hB').cell 2, (K12.out.later hB').cell 3, (KA.out.later hB').cell 0, (KA.out.later hB').cell 3⟩)
        clear HRs0
        go_wp2_with fail
        refine wp_region_last 20 (fun w' => Below w2.heap.size w2 w' ∧ w'.cell? ⟨g12, 0, none⟩ = some (.bool true) ∧ w'.cell? ⟨g12, 1, none⟩ = some (.int .i64 L) ∧ w'.cell? ⟨g12, 2, none⟩ = some (.int .i64 M) ∧ w'.cell? ⟨g12, 3, none⟩ = some (.int .i64 D) ∧ w'.cell? ⟨wq.heap.size, 0, none⟩ = some (.bool yf) ∧ w'.cell? ⟨wq.heap.size, 3, none⟩ = some (.int .i64 yd)) (by kernel_rfl) (HSS.out _ ((Below.refl w2.heap.size w2).drew)) (fun hHeld => ?_)
        refine wpAnyF_take [20] (by kernel_rfl) (i := 0) (v := ?vt1) rfl (by kernel_rfl) (by kernel_rfl) (by kernel_rfl) (fun _ _ _ h => h) (Or.inl ⟨by rfl, ?hyt1⟩) hHeld ?restt1
        case hyt1 => intro w' hSw; (try dsimp only at hSw); go_simp; try with_reducible rfl
        simp only [Act.put]
        refine wpAnyF_take [20] (by kernel_rfl) (i := 1) (v := ?vt2) rfl (by kernel_rfl) (by kernel_rfl) (by kernel_rfl) (fun _ _ _ h => h) (Or.inl ⟨by rfl, ?hyt2⟩) hHeld ?restt2
        case hyt2 => intro w' hSw; (try dsimp only at hSw); go_simp; try with_reducible rfl
        simp only [Act.put]
        refine wpAnyF_take [20] (by kernel_rfl) (i := 2) (v := ?vt3) rfl (by kernel_rfl) (by kernel_rfl) (by kernel_rfl) (fun _ _ _ h => h) (Or.inl ⟨by rfl, ?hyt3⟩) hHeld ?restt3
        case hyt3 => intro w' hSw; (try dsimp only at hSw); go_simp; try with_reducible rfl
        simp only [Act.put]
        refine wpAnyF_take [20] (by kernel_rfl) (i := 3) (v := ?vt4) rfl (by kernel_rfl) (by kernel_rfl) (by kernel_rfl) (fun _ _ _ h => h) (Or.inl ⟨by rfl, ?hyt4⟩) hHeld ?restt4
        case hyt4 => intro w' hSw; (try dsimp only at hSw); go_simp; try with_reducible rfl
        simp only [Act.put]
        refine wpAnyF_take [20] (by kernel_rfl) (i := 4) (v := ?vt5) rfl (by kernel_rfl) (by kernel_rfl) (by kernel_rfl) (fun _ _ _ h => h) (Or.inl ⟨by rfl, ?hyt5⟩) hHeld ?restt5
        case hyt5 => intro w' hSw; (try dsimp only at hSw); go_simp; try with_reducible rfl
        simp only [Act.put]
        refine wpAnyF_take [20] (by kernel_rfl) (i := 5) (v := ?vt6) rfl (by kernel_rfl) (by kernel_rfl) (by kernel_rfl) (fun _ _ _ h => h) (Or.inl ⟨by rfl, ?hyt6⟩) hHeld ?restt6
        case hyt6 => intro w' hSw; (try dsimp only at hSw); go_simp; try with_reducible rfl
        simp only [Act.put]
        refine wpAnyF_take [20] (by kernel_rfl) (i := 6) (v := ?vt7) rfl (by kernel_rfl) (by kernel_rfl) (by kernel_rfl) (fun _ _ _ h => h) (Or.inl ⟨by rfl, ?hyt7⟩) hHeld ?restt7
        case hyt7 => intro w' hSw; (try dsimp only at hSw); go_simp; try with_reducible rfl
        simp only [Act.put]
        refine wpAnyF_take [20] (by kernel_rfl) (i := 7) (v := ?vt8) rfl (by kernel_rfl) (by kernel_rfl) (by kernel_rfl) (fun _ _ _ h => h) (Or.inl ⟨by rfl, ?hyt8⟩) hHeld ?restt8
        case hyt8 => intro w' hSw; (try dsimp only at hSw); go_simp; try with_reducible rfl
        simp only [Act.put]
        refine wpAnyF_take [20] (by kernel_rfl) (i := 8) (v := ?vt9) rfl (by kernel_rfl) (by kernel_rfl) (by kernel_rfl) (fun _ _ _ h => h) (Or.inl ⟨by rfl, ?hyt9⟩) hHeld ?restt9
        case hyt9 => intro w' hSw; (try dsimp only at hSw); go_simp; try with_reducible rfl
        simp only [Act.put]
        refine wpAnyF_take [20] (by kernel_rfl) (i := 10) (v := ?vt10) rfl (by kernel_rfl) (by kernel_rfl) (by kernel_rfl) (fun _ _ _ h => h) (Or.inl ⟨by rfl, ?hyt10⟩) hHeld ?restt10
        case hyt10 => intro w' hSw; (try dsimp only at hSw); go_simp; try with_reducible rfl
        simp only [Act.put]
        refine wpAnyF_take [20] (by kernel_rfl) (i := 11) (v := ?vt11) rfl (by kernel_rfl) (by kernel_rfl) (by kernel_rfl) (fun _ _ _ h => h) (Or.inl ⟨by rfl, ?hyt11⟩) hHeld ?restt11
        case hyt11 => intro w' hSw; (try dsimp only at hSw); go_simp; try with_reducible rfl
        simp only [Act.put]
        refine wpAnyF_take [20] (by kernel_rfl) (i := 12) (v := ?vt12) rfl (by kernel_rfl) (by kernel_rfl) (by kernel_rfl) (fun _ _ _ h => h) (Or.inl ⟨by rfl, ?hyt12⟩) hHeld ?restt12
        case hyt12 => intro w' hSw; (try dsimp only at hSw); go_simp; try with_reducible rfl
        simp only [Act.put]
        refine wpAnyF_take [20] (by kernel_rfl) (i := 14) (v := ?vt13) rfl (by kernel_rfl) (by kernel_rfl) (by kernel_rfl) (fun _ _ _ h => h) (Or.inl ⟨by rfl, ?hyt13⟩) hHeld ?restt13
        case hyt13 => intro w' hSw; (try dsimp only at hSw); go_simp; try with_reducible rfl
        simp only [Act.put]
        refine wpAnyF_take [20] (by kernel_rfl) (i := 15) (v := ?vt14) rfl (by kernel_rfl) (by kernel_rfl) (by kernel_rfl) (fun _ _ _ h => h) (Or.inl ⟨by rfl, ?hyt14⟩) hHeld ?restt14
        case hyt14 => intro w' hSw; (try dsimp only at hSw); go_simp; try with_reducible rfl
        simp only [Act.put]
        refine wpAnyF_take [20] (by kernel_rfl) (i := 16) (v := ?vt15) rfl (by kernel_rfl) (by kernel_rfl) (by kernel_rfl) (fun _ _ _ h => h) (Or.inl ⟨by rfl, ?hyt15⟩) hHeld ?restt15
        case hyt15 => intro w' hSw; (try dsimp only at hSw); go_simp; try with_reducible rfl
        simp only [Act.put]
        refine wpAnyF_take [20] (by kernel_rfl) (i := 17) (v := ?vt16) rfl (by kernel_rfl) (by kernel_rfl) (by kernel_rfl) (fun _ _ _ h => h) (Or.inl ⟨by rfl, ?hyt16⟩) hHeld ?restt16
        case hyt16 => intro w' hSw; (try dsimp only at hSw); go_simp; try with_reducible rfl
        simp only [Act.put]
        refine wpAnyF_take [20] (by kernel_rfl) (i := 18) (v := ?vt17) rfl (by kernel_rfl) (by kernel_rfl) (by kernel_rfl) (fun _ _ _ h => h) (Or.inl ⟨by rfl, ?hyt17⟩) hHeld ?restt17
        case hyt17 => intro w' hSw; (try dsimp only at hSw); go_simp; try with_reducible rfl
        simp only [Act.put]
        refine wpAnyF_ready (rs := [9]) (by kernel_rfl) (by simp) ?_
        refine AllReadyF.cons rfl (fun K hK => ?_) AllReadyF.nil
        go_simp
        refine (HCp.out _ _ _).mono ?_
        rintro e w3 ⟨rfl, hB3⟩
        dsimp only
        have HB3 := hide_ (below_to ((Below.refl w2.heap.size w2).drew) hB3)
        clear hB3
        refine hK.out _ _ (HSS.out _ HB3.out) (fun hHeld => ?_)
        clear hK K
        refine wpAnyF_ready (rs := [13]) (by kernel_rfl) (by simp) ?_
        refine AllReadyF.cons rfl (fun K hK => ?_) AllReadyF.nil
        go_simp
        refine (HCp.out _ _ _).mono ?_
        rintro e w4 ⟨rfl, hB4⟩
        dsimp only
        have HB4 := hide_ (below_to HB3.out hB4)
        clear hB4
        refine hK.out _ _ (HSS.out _ HB4.out) (fun hHeld => ?_)
        clear hK K
        refine wpAnyF_take [20] (by kernel_rfl) (i := 19) (v := ?vt18) rfl (by kernel_rfl) (by kernel_rfl) (by kernel_rfl) (fun _ _ _ h => h) (Or.inl ⟨by rfl, ?hyt18⟩) hHeld ?restt18
        case hyt18 => intro w' hSw; (try dsimp only at hSw); go_simp; try with_reducible rfl
        simp only [Act.put]
        refine wpAnyF_ready (rs := [20]) (by kernel_rfl) (by simp) ?_
        refine AllReadyF.last rfl (fun K hK => ?_)
        have k3 := (K12.out.later HB4.out)
        have HK := hide_ (wr4 k3 (.bool yf) (.int .i64 (plus2 L pl)) (.int .i64 (plus2 M pm)) (.int .i64 dn))
        have HBf := hide_ (below_wr4 (below_to HB2.out HB4.out) g12 (by have := HG12.out; omega) (.bool yf) (.int .i64 (plus2 L pl)) (.int .i64 (plus2 M pm)) (.int .i64 dn))
        have l0 := k3.cell 0; have l1 := k3.cell 1; have l2 := k3.cell 2; have l3 := k3.cell 3
        have lf := fun i => k3.frozen i
        simp at l0 l1 l2 l3
        clear k3
        go_simp
        refine hK.out _ _ ?_
        clear hK K
        refine wpAnyF_done (by kernel_rfl) ?_ _
        go_wp2_with fail
        go_roundw
        case rel => exact ⟨i + 1, _, _, _, _, by omega, by go_num, HRs, HDs, by omega, by omega, HK, HBf⟩
        case measure => simp [intOf]; omega
      | false =>
        have HRs : Hid ((false, plus2 L pl, plus2 M pm) = rowX (Y.take (i + 1))) := hide_ (by rw [HRs0.out]; simp)
        have HSS : Hid (∀ w', Below w2.heap.size w2 w' → (fun w' => Below w2.heap.size w2 w' ∧ w'.cell? ⟨g12, 0, none⟩ = some (.bool false) ∧ w'.cell? ⟨g12, 1, none⟩ = some (.int .i64 L) ∧ w'.cell? ⟨g12, 2, none⟩ = some (.int .i64 M) ∧ w'.cell? ⟨g12, 3, none⟩ = some (.int .i64 D) ∧ w'.cell? ⟨wq.heap.size, 0, none⟩ = some (.bool yf) ∧ w'.cell? ⟨wq.heap.size, 3, none⟩ = some (.int .i64 yd)) w') := hide_ (fun w' hB' => ⟨hB', (K12.out.later hB').cell 0, (K12.out.later hB').cell 1, (K12.out.later hB').cell 2, (K12.out.later hB').cell 3, (KA.out.later hB').cell 0, (KA.out.later hB').cell 3⟩)
        clear HRs0
        go_wp2_with fail
        refine wp_region_last 20 (fun w' => Below w2.heap.size w2 w' ∧ w'.cell? ⟨g12, 0, none⟩ = some (.bool false) ∧ w'.cell? ⟨g12, 1, none⟩ = some (.int .i64 L) ∧ w'.cell? ⟨g12, 2, none⟩ = some (.int .i64 M) ∧ w'.cell? ⟨g12, 3, none⟩ = some (.int .i64 D) ∧ w'.cell? ⟨wq.heap.size, 0, none⟩ = some (.bool yf) ∧ w'.cell? ⟨wq.heap.size, 3, none⟩ = some (.int .i64 yd)) (by kernel_rfl) (HSS.out _ ((Below.refl w2.heap.size w2).drew)) (fun hHeld => ?_)
        refine wpAnyF_take [20] (by kernel_rfl) (i := 0) (v := ?ve1) rfl (by kernel_rfl) (by kernel_rfl) (by kernel_rfl) (fun _ _ _ h => h) (Or.inl ⟨by rfl, ?hye1⟩) hHeld ?reste1
        case hye1 => intro w' hSw; (try dsimp only at hSw); go_simp; try with_reducible rfl
        simp only [Act.put]
        refine wpAnyF_take [20] (by kernel_rfl) (i := 1) (v := ?ve2) rfl (by kernel_rfl) (by kernel_rfl) (by kernel_rfl) (fun _ _ _ h => h) (Or.inl ⟨by rfl, ?hye2⟩) hHeld ?reste2
        case hye2 => intro w' hSw; (try dsimp only at hSw); go_simp; try with_reducible rfl
        simp only [Act.put]
        refine wpAnyF_take [20] (by kernel_rfl) (i := 2) (v := ?ve3) rfl (by kernel_rfl) (by kernel_rfl) (by kernel_rfl) (fun _ _ _ h => h) (Or.inl ⟨by rfl, ?hye3⟩) hHeld ?reste3
        case hye3 => intro w' hSw; (try dsimp only at hSw); go_simp; try with_reducible rfl
        simp only [Act.put]
        refine wpAnyF_take [20] (by kernel_rfl) (i := 3) (v := undef) rfl (by kernel_rfl) (by kernel_rfl) (by kernel_rfl) (fun _ _ _ h => h) (Or.inr ⟨by rfl, rfl⟩) hHeld ?_
        simp only [Act.put]
        refine wpAnyF_take [20] (by kernel_rfl) (i := 4) (v := undef) rfl (by kernel_rfl) (by kernel_rfl) (by kernel_rfl) (fun _ _ _ h => h) (Or.inr ⟨by rfl, rfl⟩) hHeld ?_
        simp only [Act.put]
        refine wpAnyF_take [20] (by kernel_rfl) (i := 5) (v := ?ve4) rfl (by kernel_rfl) (by kernel_rfl) (by kernel_rfl) (fun _ _ _ h => h) (Or.inl ⟨by rfl, ?hye4⟩) hHeld ?reste4
        case hye4 => intro w' hSw; (try dsimp only at hSw); go_simp; try with_reducible rfl
        simp only [Act.put]
        refine wpAnyF_take [20] (by kernel_rfl) (i := 6) (v := ?ve5) rfl (by kernel_rfl) (by kernel_rfl) (by kernel_rfl) (fun _ _ _ h => h) (Or.inl ⟨by rfl, ?hye5⟩) hHeld ?reste5
        case hye5 => intro w' hSw; (try dsimp only at hSw); go_simp; try with_reducible rfl
        simp only [Act.put]
        refine wpAnyF_take [20] (by kernel_rfl) (i := 7) (v := ?ve6) rfl (by kernel_rfl) (by kernel_rfl) (by kernel_rfl) (fun _ _ _ h => h) (Or.inl ⟨by rfl, ?hye6⟩) hHeld ?reste6
        case hye6 => intro w' hSw; (try dsimp only at hSw); go_simp; try with_reducible rfl
        simp only [Act.put]
        refine wpAnyF_take [20] (by kernel_rfl) (i := 8) (v := ?ve7) rfl (by kernel_rfl) (by kernel_rfl) (by kernel_rfl) (fun _ _ _ h => h) (Or.inl ⟨by rfl, ?hye7⟩) hHeld ?reste7
        case hye7 => intro w' hSw; (try dsimp only at hSw); go_simp; try with_reducible rfl
        simp only [Act.put]
        refine wpAnyF_take [20] (by kernel_rfl) (i := 10) (v := ?ve8) rfl (by kernel_rfl) (by kernel_rfl) (by kernel_rfl) (fun _ _ _ h => h) (Or.inl ⟨by rfl, ?hye8⟩) hHeld ?reste8
        case hye8 => intro w' hSw; (try dsimp only at hSw); go_simp; try with_reducible rfl
        simp only [Act.put]
        refine wpAnyF_take [20] (by kernel_rfl) (i := 11) (v := ?ve9) rfl (by kernel_rfl) (by kernel_rfl) (by kernel_rfl) (fun _ _ _ h => h) (Or.inl ⟨by rfl, ?hye9⟩) hHeld ?reste9
        case hye9 => intro w' hSw; (try dsimp only at hSw); go_simp; try with_reducible rfl
        simp only [Act.put]
        refine wpAnyF_take [20] (by kernel_rfl) (i := 12) (v := ?ve10) rfl (by kernel_rfl) (by kernel_rfl) (by kernel_rfl) (fun _ _ _ h => h) (Or.inl ⟨by rfl, ?hye10⟩) hHeld ?reste10
        case hye10 => intro w' hSw; (try dsimp only at hSw); go_simp; try with_reducible rfl
        simp only [Act.put]
        refine wpAnyF_take [20] (by kernel_rfl) (i := 14) (v := ?ve11) rfl (by kernel_rfl) (by kernel_rfl) (by kernel_rfl) (fun _ _ _ h => h) (Or.inl ⟨by rfl, ?hye11⟩) hHeld ?reste11
        case hye11 => intro w' hSw; (try dsimp only at hSw); go_simp; try with_reducible rfl
        simp only [Act.put]
        refine wpAnyF_take [20] (by kernel_rfl) (i := 15) (v := ?ve12) rfl (by kernel_rfl) (by kernel_rfl) (by kernel_rfl) (fun _ _ _ h => h) (Or.inl ⟨by rfl, ?hye12⟩) hHeld ?reste12
        case hye12 => intro w' hSw; (try dsimp only at hSw); go_simp; try with_reducible rfl
        simp only [Act.put]
        refine wpAnyF_take [20] (by kernel_rfl) (i := 16) (v := ?ve13) rfl (by kernel_rfl) (by kernel_rfl) (by kernel_rfl) (fun _ _ _ h => h) (Or.inl ⟨by rfl, ?hye13⟩) hHeld ?reste13
        case hye13 => intro w' hSw; (try dsimp only at hSw); go_simp; try with_reducible rfl
        simp only [Act.put]
        refine wpAnyF_take [20] (by kernel_rfl) (i := 17) (v := ?ve14) rfl (by kernel_rfl) (by kernel_rfl) (by kernel_rfl) (fun _ _ _ h => h) (Or.inl ⟨by rfl, ?hye14⟩) hHeld ?reste14
        case hye14 => intro w' hSw; (try dsimp only at hSw); go_simp; try with_reducible rfl
        simp only [Act.put]
        refine wpAnyF_take [20] (by kernel_rfl) (i := 18) (v := ?ve15) rfl (by kernel_rfl) (by kernel_rfl) (by kernel_rfl) (fun _ _ _ h => h) (Or.inl ⟨by rfl, ?hye15⟩) hHeld ?reste15
        case hye15 => intro w' hSw; (try dsimp only at hSw); go_simp; try with_reducible rfl
        simp only [Act.put]
        refine wpAnyF_ready (rs := [9]) (by kernel_rfl) (by simp) ?_
        refine AllReadyF.cons rfl (fun K hK => ?_) AllReadyF.nil
        go_simp
        refine (HCp.out _ _ _).mono ?_
        rintro e w3 ⟨rfl, hB3⟩
        dsimp only
        have HB3 := hide_ (below_to ((Below.refl w2.heap.size w2).drew) hB3)
        clear hB3
        refine hK.out _ _ (HSS.out _ HB3.out) (fun hHeld => ?_)
        clear hK K
        refine wpAnyF_ready (rs := [13]) (by kernel_rfl) (by simp) ?_
        refine AllReadyF.cons rfl (fun K hK => ?_) AllReadyF.nil
        go_simp
        refine (HCp.out _ _ _).mono ?_
        rintro e w4 ⟨rfl, hB4⟩
        dsimp only
        have HB4 := hide_ (below_to HB3.out hB4)
        clear hB4
        refine hK.out _ _ (HSS.out _ HB4.out) (fun hHeld => ?_)
        clear hK K
        refine wpAnyF_take [20] (by kernel_rfl) (i := 19) (v := ?ve16) rfl (by kernel_rfl) (by kernel_rfl) (by kernel_rfl) (fun _ _ _ h => h) (Or.inl ⟨by rfl, ?hye16⟩) hHeld ?reste16
        case hye16 => intro w' hSw; (try dsimp only at hSw); go_simp; try with_reducible rfl
        simp only [Act.put]
        refine wpAnyF_ready (rs := [20]) (by kernel_rfl) (by simp) ?_
        refine AllReadyF.last rfl (fun K hK => ?_)
        have k3 := (K12.out.later HB4.out)
        have HK := hide_ (wr4 k3 (.bool false) (.int .i64 (plus2 L pl)) (.int .i64 (plus2 M pm)) (.int .i64 dn))
        have HBf := hide_ (below_wr4 (below_to HB2.out HB4.out) g12 (by have := HG12.out; omega) (.bool false) (.int .i64 (plus2 L pl)) (.int .i64 (plus2 M pm)) (.int .i64 dn))
        have l0 := k3.cell 0; have l1 := k3.cell 1; have l2 := k3.cell 2; have l3 := k3.cell 3
        have lf := fun i => k3.frozen i
        simp at l0 l1 l2 l3
        clear k3
        go_simp
        refine hK.out _ _ ?_
        clear hK K
        refine wpAnyF_done (by kernel_rfl) ?_ _
        go_wp2_with fail
        go_roundw
        case rel => exact ⟨i + 1, _, _, _, _, by omega, by go_num, HRs, HDs, by omega, by omega, HK, HBf⟩
        case measure => simp [intOf]; omega
    · have hlt' : ¬ (i : Int) < ps.length := by omega
      have HV : Hid ((⟨(rowX Y).1, (rowX Y).2.1, (rowX Y).2.2, 1 + deepX Y⟩ : Ex) = ⟨f, L, M, D + 1⟩) := hide_ (by
        have h1 := HC.out; have h2 := HD.out
        rw [List.take_of_length_le (by have := HKl.out; omega)] at h1 h2
        rw [← h1, ← h2]
        simp only
        rw [Int.add_comm])
      have hw1 : wrap64 (D + 1) = D + 1 := w64 _ (by omega)
      have k9 := K9.out.set 3 (.int .i64 (D + 1))
      simp only [List.set_cons_succ, List.set_cons_zero] at k9
      have hg12 := HG12.out
      have hlt1 := K2.out.lt
      have hne : w.heap.size + 1 ≠ g12 := by omega
      have k2 := (K2.out.later HB1.out).other ⟨g12, 3, none⟩ (.int .i64 (D + 1)) hne
      obtain ⟨wz, hwz⟩ : ∃ wx, wx = wq.setCell ⟨g12, 3, none⟩ (.int .i64 (D + 1)) := ⟨_, rfl⟩
      have HBz : Hid (Below w0.heap.size w0 wz) := hide_ (by rw [hwz]; exact below_set HB1.out _ _ _ (by omega))
      rw [← hwz] at k9 k2
      have HK := hide_ (wr4 k2 (.bool f) (.int .i64 L) (.int .i64 M) (.int .i64 (D + 1)))
      have HBf := hide_ (below_wr4 (below_to HB.out HBz.out) (w.heap.size + 1) (by omega) (.bool f) (.int .i64 L) (.int .i64 M) (.int .i64 (D + 1)))
      have q3 := K9.out.cell 3
      have qf := K9.out.frozen 3
      have l0 := k9.cell 0; have l1 := k9.cell 1; have l2 := k9.cell 2; have l3 := k9.cell 3
      have n0 := k2.cell 0; have n1 := k2.cell 1; have n2 := k2.cell 2; have n3 := k2.cell 3
      have nf := fun i => k2.frozen i
      simp at q3 l0 l1 l2 l3 n0 n1 n2 n3
      clear k9 k2 hg12 hlt1 hne
      go_upto_region 27 with fail
      rw [← hwz]
      clear hwz
      go_wp2
      exact retX (x := ⟨f, L, M, D + 1⟩) rfl rfl HK.out ⟨by rw [HV.out], HBf.out⟩
end Go.Proofs.Ytpkghpfdibnhcaa
/- The document's extents of a schema: Of. -/
namespace Go.Proofs.Ytpkghpfdibnhcaa
open Go.RowKit
set_option linter.unusedVariables false

theorem one_any (k n el : Int) (ps : List Pt) (va : Option Addr) (vc : Nat) (X : List Ex) (ax : Option Addr) (cx : Nat) (w : World) (hXl : X.length ≤ 10000000000000) (hbd : Hid (∀ x ∈ X, XOk x ∧ x.d ≤ 1000000)) (hok : Hid (tyOk ⟨k, n, el, ps⟩ X.length = true)) (hP : Hid (PRow w va ps)) (hX : Hid (XRow w ax X)) :
    Calls Try.prog 58 #[.agg #[.int .i64 k, .int .i64 n, .int .i64 el, .slice va ps.length vc], .slice ax X.length cx] w fun e w' => e = .returned (exv (ext1 X ⟨k, n, el, ps⟩)) ∧ Below w.heap.size w w' := by
  have hn := nOk_n hok.out
  simp only at hn
  have hk : k = 1 ∨ k = 2 ∨ k = 3 ∨ k = 4 ∨ k = 5 ∨ k = 6 ∨ k = 7 ∨ k = 8 := by omega
  have hbd2 : Hid (∀ x ∈ X, 0 ≤ x.d ∧ x.d ≤ 1000000) := hide_ (fun x hx => ⟨(hbd.out x hx).1.d0, (hbd.out x hx).2⟩)
  have hpt : Hid (∀ (j : Nat) (p : Pt), ps[j]? = some p → 0 ≤ p.ty ∧ p.ty < X.length) := hide_ (fun j p hp => tyOk_part hok.out hp)
  have hpl : ps.length ≤ 64 := tyOk_len hok.out
  have hx0 : XOk (exAt X el) := XOk.at (fun x hx => (hbd.out x hx).1) el
  have h0 := hx0.l0; have h1 := hx0.lm; have h2 := hx0.mh; have h3 := hx0.d0
  have hd1 : deepX [exAt X el] = (exAt X el).d := by
    simp only [deepX, List.foldl_cons, List.foldl_nil]
    omega
  rcases hk with rfl | rfl | rfl | rfl | rfl | rfl | rfl | rfl
  · have hps : ps = [] := tyOk_none hok.out (by simp) (by simp)
    have e : ext1 X ⟨1, n, el, ps⟩ = ⟨true, n, n, 1⟩ := by rw [hps]; rfl
    rw [e]
    exact one1_any n el ps va vc _ w
  · have hps : ps = [] := tyOk_none hok.out (by simp) (by simp)
    have e : ext1 X ⟨2, n, el, ps⟩ = ⟨true, 1, 1, 1⟩ := by rw [hps]; rfl
    rw [e]
    exact one2_any n el ps va vc _ w
  · have hps : ps = [] := tyOk_none hok.out (by simp) (by simp)
    have e : ext1 X ⟨3, n, el, ps⟩ = ⟨false, 1, 10, 1⟩ := by rw [hps]; rfl
    rw [e]
    exact one3_any n el ps va vc _ w
  · have hps : ps = [] := tyOk_none hok.out (by simp) (by simp)
    have e : ext1 X ⟨4, n, el, ps⟩ = ⟨(exAt X el).f, times2 n (offX (exAt X el)).l, times2 n (offX (exAt X el)).m, 1 + (exAt X el).d⟩ := by
      have e1 : ext1 X ⟨4, n, el, ps⟩ = ⟨(offX (exAt X el)).f, times2 n (offX (exAt X el)).l, times2 n (offX (exAt X el)).m, 1 + deepX [exAt X el]⟩ := by rw [hps]; rfl
      rw [e1, hd1, off_f]
    rw [e]
    exact one4_any n el ps va vc X ax cx w hXl hbd2 (tyOk_elem hok.out rfl) hX
  · have hps : ps = [] := tyOk_none hok.out (by simp) (by simp)
    have e : ext1 X ⟨5, n, el, ps⟩ = ⟨false, 0, times2 n (offX (exAt X el)).m, 1 + (exAt X el).d⟩ := by
      have e1 : ext1 X ⟨5, n, el, ps⟩ = ⟨false, times2 0 (offX (exAt X el)).l, times2 n (offX (exAt X el)).m, 1 + deepX [exAt X el]⟩ := by rw [hps]; rfl
      have e2 : times2 0 (offX (exAt X el)).l = 0 := by unfold times2; rw [show sz 0 = 0 from rfl, Int.zero_mul]; rfl
      rw [e1, hd1, e2]
    rw [e]
    exact one5_any n el ps va vc X ax cx w hXl hbd2 (tyOk_elem hok.out rfl) hX
  · have hps : ps = [] := tyOk_none hok.out (by simp) (by simp)
    have e : ext1 X ⟨6, n, el, ps⟩ = ⟨false, 1, plus2 1 (exAt X el).m, 1 + (exAt X el).d⟩ := by
      have e1 : ext1 X ⟨6, n, el, ps⟩ = ⟨false, plus2 1 (chX ([exAt X el] ++ [ex0])).1, plus2 1 (chX ([exAt X el] ++ [ex0])).2, 1 + deepX [exAt X el]⟩ := by rw [hps]; rfl
      have e2 : chX ([exAt X el] ++ [ex0]) = (0, (exAt X el).m) := by
        simp only [chX, List.cons_append, List.nil_append, List.foldl_cons, List.foldl_nil, ex0]
        refine Prod.ext ?_ ?_ <;> (simp only; omega)
      rw [e1, hd1, e2]
      rfl
    rw [e]
    exact one6_any n el ps va vc X ax cx w hXl hbd2 (tyOk_elem hok.out rfl) hX
  · exact one7_any n el ps va vc X ax cx w hXl hbd (tyOk_pos hok.out (.inl rfl)) hpl hpt hP hX
  · exact one8_any n el ps va vc X ax cx w hXl hbd (tyOk_pos hok.out (.inr rfl)) hpl hpt hP hX
theorem extL_bd2 {T : List Ty} {R : List Rt} (h : OkS T R) (i : Nat) (hi : i ≤ T.length) : ∀ x ∈ extL (T.take i), XOk x ∧ x.d ≤ 1000000 := fun x hx => ⟨(extL_ok h i hi x hx).1, (extL_bd h i hi x hx).2⟩
set_option maxRecDepth 100000 in
set_option maxHeartbeats 8000000 in
theorem ofR_any (a : Option Addr) (c : Nat) (T : List Ty) (ar : Option Addr) (cr : Nat) (R : List Rt) (w : World) (hn : T.length ≤ 1000000000) (hm : R.length ≤ 10000000000000) (hL : Hid (LensT T)) (hT : Hid (TRow w a T)) (hR : Hid (RRow w ar R)) :
    Calls Try.prog 33 #[.agg #[.slice a T.length c, .slice ar R.length cr]] w fun e w' => OfTo T R w e w' := by
  have hB := below1 w (.cells #[.slice a T.length c, .slice ar R.length cr] 31)
  have k1 := Blk.newA w #[.slice a T.length c, .slice ar R.length cr] 31
  obtain ⟨w0, hw0⟩ : ∃ wx, wx = w.alloc (.cells #[.slice a T.length c, .slice ar R.length cr] 31) := ⟨_, rfl⟩
  rw [← hw0] at hB k1
  have HB0 := hide_ hB
  have K1 := hide_ k1
  have hs1 : w.heap.size < w0.heap.size := k1.lt
  have i0 := k1.cell 0; have i1 := k1.cell 1
  simp at i0 i1
  have HCk := hide_ (checkR_any a c T ar cr R w0 (by omega) hm hL (hide_ (hT.out.later hB)) (hide_ (hR.out.later hB)))
  obtain ⟨vE, hE⟩ : ∃ vE, (chk T R).1 = vE := ⟨_, rfl⟩
  obtain ⟨vA, hA⟩ : ∃ vA, (chk T R).2 = vA := ⟨_, rfl⟩
  rw [hE, hA] at HCk
  have HE := hide_ hE
  clear hB k1 hE hA
  go_enter Try.func33, Try.ntmps33
  go_upto_region 1 with fail
  rw [← hw0]
  clear hw0
  go_wp2_with fail
  refine HCk.out.mono ?_; rintro e w1 ⟨rfl, hB1⟩
  have kf := Blk.newA w1 #[.int .i64 vE, .int .i64 vA] 39
  have hB2 := below1 w1 (.cells #[.int .i64 vE, .int .i64 vA] 39)
  obtain ⟨w2, hw2⟩ : ∃ wx, wx = w1.alloc (.cells #[.int .i64 vE, .int .i64 vA] 39) := ⟨_, rfl⟩
  rw [← hw2] at kf hB2
  have HB2 := hide_ (below_to hB1 hB2)
  have j0 := kf.cell 0
  simp at j0
  clear hB1 hB2 kf HCk i0 i1
  go_upto_region 2 with fail
  rw [← hw2]
  clear hw2
  by_cases hE0 : vE = 0
  · subst hE0
    have HOK := hide_ (okS_of HE.out)
    go_wp2_with fail
    go_loopw [5, 6] (fun x5 x6 wr => ∃ (v : Value) (i : Nat), v = x5 ∧ i ≤ T.length ∧ x6 = .int .i64 (i : Int) ∧ Hid (XOwn wr w0.heap.size v (extL (T.take i))) ∧ Hid (Below w0.heap.size w0 wr)) (fun _ x6 _ => T.length - (intOf x6).toNat)
    case atStart => exact ⟨_, 0, rfl, Nat.zero_le _, rfl, hide_ (XOwn.nil _ _), HB2⟩
    case round =>
      obtain ⟨v, i, rfl, hi, rfl, HO, HB⟩ := hrel
      generalize wr = wq at *
      clear j0 HB2
      have i0 := (K1.out.later HB.out).cell 0
      simp at i0
      by_cases hlt : i < T.length
      · have hlt' : (i : Int) < T.length := by omega
        obtain ⟨b, o, rfl, hb, hc⟩ := (hT.out.later (below_to HB0.out HB.out)).open (by omega)
        have hx : T[i]? = some (T[i]'hlt) := List.getElem?_eq_getElem hlt
        obtain ⟨va, vc, hcx, hvc, -, hP⟩ := hc i _ hx
        have hok1 := HOK.out.ty i hlt
        rw [show T.getD i ty0 = T[i]'hlt by simp [List.getD, hlt]] at hok1
        have HS : Hid (extL (T.take (i + 1)) = extL (T.take i) ++ [ext1 (extL (T.take i)) (T[i]'hlt)]) := hide_ (by rw [List.take_succ_eq_append_getElem hlt, extL_snoc])
        have hXl : (extL (T.take i)).length = i := by rw [extL_len]; simp; omega
        have hbd := extL_bd2 HOK.out i hi
        generalize T[i]'hlt = t at *
        obtain ⟨k, n, el, ps⟩ := t
        simp only at hvc hP
        have i1 := hcx 0 (by decide); have i2 := hcx 1 (by decide); have i3 := hcx 2 (by decide); have i4 := hcx 3 (by decide)
        simp [tyc] at i1 i2 i3 i4
        obtain ⟨ax, cx, hv, -, -, hXr⟩ := HO.out.row
        have HCe := hide_ (one_any k n el ps va vc (extL (T.take i)) ax cx wq (by omega) (hide_ hbd) (hide_ (by rw [hXl]; exact hok1)) (hide_ hP) (hide_ hXr))
        generalize extL (T.take i) = X at *
        subst hv
        generalize ext1 X ⟨k, n, el, ps⟩ = y at *
        have hXle : X.length ≤ 10000000000 := by omega
        have HXL := hide_ hXl
        clear hc hx hcx hP hok1 hb hXr hbd hXl
        go_wp2_with fail
        refine HCe.out.mono ?_; rintro e w4 ⟨rfl, hB4⟩
        have HO4 := hide_ (HO.out.later hB4)
        have HB4 := hide_ (below_to HB.out hB4)
        obtain ⟨v', w5, hrun, hO5, hB5⟩ := HO4.out.push y hXle HB4.out.size
        rw [← HS.out] at hO5
        have HRun := hide_ hrun
        have HO5 := hide_ hO5
        have HB5 := hide_ (HB4.out.trans hB5)
        simp only [exv]
        clear hB4 hrun hO5 hB5 HO4 HB4 HCe i1 i2 i3 i4
        go_wp2_with (first | (at_builtin; refine wpList_append_run rfl (.tmp 21) (.tmp 29) 24 24 rfl rfl rfl HRun.out ?_; clear HRun))
        go_roundw
        case rel => exact ⟨_, i + 1, rfl, by omega, by go_num, HO5, HB5⟩
        case measure => simp [intOf]; omega
      · have hlt' : ¬ (i : Int) < T.length := by omega
        have HV : Hid (XOwn wq w.heap.size v (extL T)) := hide_ (by have h := HO.out; rw [List.take_of_length_le (by omega)] at h; exact own_base h (by omega))
        go_wp2
        go_ret2
        exact .inr ⟨HOK.out, v, rfl, HV.out, below_to HB0.out HB.out⟩
  · have hE1 : (vE != 0) = true := by simpa using hE0
    have HV : Hid ((chk T R).1 ≠ 0) := hide_ (by rw [HE.out]; exact hE0)
    have HBf := hide_ (below_to HB0.out HB2.out)
    go_wp2_with fail
    go_region
    all_goals
      have HBd := hide_ (HBf.out.drew)
      go_wp2
      go_ret2
      exact .inl ⟨HV.out, by rw [HE.out]; rfl, HBd.out⟩
end Go.Proofs.Ytpkghpfdibnhcaa
