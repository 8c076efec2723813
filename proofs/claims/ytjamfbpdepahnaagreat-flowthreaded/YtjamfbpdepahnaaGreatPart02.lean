import Derived.WalkKit
import Derived.WalkLawsBesides
import Derived.WalkSpells
import Derived.Outline
import Derived.BigQuiet
import Derived.Deep.QuietTactic
import Derived.Deep.RegionWith
import Derived.Deep.DeepCutAuto
import Derived.Deep.LoopGhost
import Derived.Deep.DeepMust
import Derived.Deep.RegionHeld3
import Derived.Deep.RegionHeldLaw
import Derived.Laws.BytesArg

/-
  Lemmas that hold over any program: rows of integers in memory, copies by append, strings out of bytes, appends by their run. For a new seat: copy this text as <Name>Base.lean and put the seat's Name for 'Seat' in the two namespace rows.
-/
namespace Go.Proofs.YtjamfbpdepahnaaGreat
open Go.RowKit
set_option linter.unusedVariables false
set_option linter.unusedSimpArgs false
theorem hide_ {p : Prop} (h : p) : Hid p := h
theorem w64 (n : Int) (h : -9223372036854775808 ≤ n ∧ n ≤ 9223372036854775807) : wrap64 n = n := by unfold wrap64; omega
theorem below_to {a b c : World} (h : Below a.heap.size a b) (k : Below b.heap.size b c) : Below a.heap.size a c := h.trans (k.mono h.size)
theorem add_none (b off i : Nat) : (⟨b, off, none⟩ : Addr).add i = ⟨b, off + i, none⟩ := by unfold Addr.add; split <;> simp_all
theorem wpList_append_run {P : Program} {w w' : World} {ops : Array Oper} {rest : List Oper} {o : Oper} {a : Act} {Q : Exit → Act → World → Prop} (hgd : o.guard = none) (s x : Operand) (t t2 : TypeId)
    (ho : o.op = .call { callee := .builtin .append, args := #[s, x], argTypes := #[t, t2] }) {v u v' : Value} (hs : a.eval s = v) (hx : a.eval x = u)
    (hr : (Builtin.append_ #[t, t2] o.type #[v, u]).run P w = .ok v' w') (h : wpList P ops Q rest (a.put o.dst v') w') : wpList P ops Q (o :: rest) a w := by
  refine wpList_plain hgd fun K hK => ?_
  unfold Oper.wp execOp
  simp only [ho, resolve, invoke, builtin, Sem.run_bind, Sem.run_pure, Result.andThen_ok, List.map_toArray, List.map_cons, List.map_nil, hs, hx, hr]
  exact hK _ _ h
theorem step_append_run {P : Program} {ops : Array Oper} {o : Oper} {a : Act} {w w' : World} {K : Act → World → Prop} {Q : Exit → Act → World → Prop} {E : Prop}
    (hg : o.guard = none) (s x : Operand) (t t2 : TypeId) (hop : o.op = Op.call { callee := Callee.builtin Builtin.append, args := #[s, x], argTypes := #[t, t2] })
    {v u v' : Value} (hs : a.eval s = v) (hx : a.eval x = u) (hr : (Builtin.append_ #[t, t2] o.type #[v, u]).run P w = .ok v' w') (hK : K (a.put o.dst v') w') :
    if Region.wanted o (yielded ops a.tmps) = true then Oper.wp P o a w K Q else E := by
  have hw : Region.wanted o (yielded ops a.tmps) = true := by simp [Region.wanted, hg]
  rw [if_pos hw]
  unfold Oper.wp
  simp [execOp, hop, resolve, invoke, builtin, hs, hx, hr, Result.andThen]
  exact hK
def Row (k : IntKind) (w : World) (a : Option Addr) (l : List Int) : Prop :=
  (a = none ∧ l = []) ∨ ∃ x, a = some x ∧ ∀ i, i < l.length → w.cell? (x.add i) = some (.int k (l.getD i 0))
def cellsL (k : IntKind) (l : List Int) : List Value := l.map (Value.int k)
theorem cellsL_length (k : IntKind) (l : List Int) : (cellsL k l).length = l.length := by simp [cellsL]
theorem cellsL_append (k : IntKind) (l r : List Int) : cellsL k (l ++ r) = cellsL k l ++ cellsL k r := by simp [cellsL]
theorem cellsL_at (k : IntKind) (l : List Int) (j : Nat) (h : j < l.length) : (cellsL k l)[j]? = some (.int k (l.getD j 0)) := by simp [cellsL, List.getD, h]
theorem cellsL_get (k : IntKind) (l : List Int) (j : Nat) (u : Value) (h : (cellsL k l)[j]? = some u) : j < l.length ∧ u = .int k (l.getD j 0) := by
  by_cases hj : j < l.length
  · rw [cellsL_at k l j hj] at h; exact ⟨hj, (Option.some.inj h).symm⟩
  · rw [List.getElem?_eq_none (by rw [cellsL_length]; omega)] at h; cases h
theorem cellsL_one (k : IntKind) (l : List Int) : ∀ u ∈ cellsL k l, u.oneCell' = true := by
  intro u hu
  obtain ⟨j, _, rfl⟩ := List.mem_map.1 hu
  rfl
theorem Row.later {k : IntKind} {w w' : World} {a : Option Addr} {l : List Int} (h : Row k w a l) (hB : Below w.heap.size w w') : Row k w' a l := by
  rcases h with ⟨rfl, rfl⟩ | ⟨x, rfl, hc⟩
  · exact .inl ⟨rfl, rfl⟩
  · refine .inr ⟨x, rfl, fun i hi => ?_⟩
    have h1 := hc i hi
    exact (hB.cell (World.block_lt_of_cell? w _ h1)).trans h1
theorem Row.drew {k : IntKind} {w : World} {a : Option Addr} {l : List Int} (h : Row k w a l) : Row k w.drew a l := h
theorem Row.take {k : IntKind} {w : World} {a : Option Addr} {l : List Int} (h : Row k w a l) (m : Nat) : Row k w a (l.take m) := by
  rcases h with ⟨rfl, rfl⟩ | ⟨x, rfl, hc⟩
  · exact .inl ⟨rfl, by simp⟩
  · refine .inr ⟨x, rfl, fun i hi => ?_⟩
    have h1 : i < l.length ∧ i < m := by simp at hi; omega
    rw [hc i h1.1]
    simp [List.getD, h1.2]
theorem Row.open {k : IntKind} {w : World} {a : Option Addr} {l : List Int} (h : Row k w a l) (hl : 0 < l.length) :
    ∃ b off, a = some ⟨b, off, none⟩ ∧ b < w.heap.size ∧ ∀ i, i < l.length → w.cell? ⟨b, off + i, none⟩ = some (.int k (l.getD i 0)) := by
  rcases h with ⟨rfl, rfl⟩ | ⟨x, rfl, hc⟩
  · simp at hl
  · obtain ⟨b, off, spot⟩ := x
    have hc0 := hc 0 hl
    have hspot : spot = none := by simpa [Addr.add] using World.cell?_spot hc0
    subst hspot
    exact ⟨b, off, rfl, World.block_lt_of_cell? w _ hc0, fun i hi => (add_none b off i) ▸ hc i hi⟩
theorem Row.mk {k : IntKind} {w : World} {b off : Nat} {l : List Int} (h : ∀ i, i < l.length → w.cell? ⟨b, off + i, none⟩ = some (.int k (l.getD i 0))) : Row k w (some ⟨b, off, none⟩) l :=
  .inr ⟨_, rfl, fun i hi => (add_none b off i).symm ▸ h i hi⟩
theorem Row.drop {k : IntKind} {w : World} {b off : Nat} {l : List Int} (h : Row k w (some ⟨b, off, none⟩) l) (m : Nat) : Row k w (some ⟨b, off + m, none⟩) (l.drop m) := by
  refine Row.mk fun i hi => ?_
  have hi' : m + i < l.length := by simp at hi; omega
  rcases h with ⟨e, _⟩ | ⟨x, e, hc⟩
  · cases e
  · injection e with e
    subst e
    have h1 := hc (m + i) hi'
    rw [add_none, ← Nat.add_assoc] at h1
    rw [h1]
    simp [List.getD]
theorem Row.one {k : IntKind} {w : World} {b : Nat} {x : Int} (h0 : w.cell? ⟨b, 0, none⟩ = some (.int k x)) : Row k w (some ⟨b, 0, none⟩) [x] := by
  refine Row.mk fun i hi => ?_
  match i, hi with
  | 0, _ => simpa using h0
theorem Row.two {k : IntKind} {w : World} {b : Nat} {x y : Int} (h0 : w.cell? ⟨b, 0, none⟩ = some (.int k x)) (h1 : w.cell? ⟨b, 1, none⟩ = some (.int k y)) : Row k w (some ⟨b, 0, none⟩) [x, y] := by
  refine Row.mk fun i hi => ?_
  match i, hi with
  | 0, _ => simpa using h0
  | 1, _ => simpa using h1
structure Elem (P : Program) (t e : TypeId) (k : IntKind) (bytes : Nat) : Prop where
  sl : P.underlying t = some (.slice e)
  el : P.underlying e = some (.int k)
  info : (P.info? e).map (fun i => (i.zero, i.size, i.bytes)) = some (some (.int k 0), 1, bytes)
theorem own_open {w : World} {base n : Nat} {e : TypeId} {k : IntKind} {v : Value} {l : List Int} (h : w.ownsRow base e 1 v n (cellsL k l)) (hl : l.length = n) :
    ∃ a c, v = .slice a n c ∧ Row k w a l ∧ (a = none → c = 0) ∧ n ≤ c ∧ c ≤ maxLen ∧ (0 < n → ∃ g, a = some ⟨g, 0, none⟩ ∧ base ≤ g ∧ g < w.heap.size ∧ (∀ i, i < n → w.cell? ⟨g, i, none⟩ = some (.int k (l.getD i 0))) ∧ ∀ o, w.frozen? ⟨g, o, none⟩ = false) := by
  have hcells := @World.ownsRow.cells _ _ _ _ _ _ _ h
  rcases h.2 with ⟨rfl, rfl⟩ | ⟨g, cap, cur, rfl, hb, hg, hnc, hcm, _⟩
  · exact ⟨none, 0, rfl, .inl ⟨rfl, List.length_eq_zero_iff.1 hl⟩, fun _ => rfl, Nat.le_refl _, Nat.zero_le _, fun h => by omega⟩
  · have hc : ∀ i, i < l.length → w.cell? ((⟨g, 0, none⟩ : Addr).add i) = some (.int k (l.getD i 0)) := fun i hi => hcells rfl i _ (cellsL_at k l i hi)
    refine ⟨_, _, rfl, .inr ⟨_, rfl, hc⟩, (fun h => by cases h), hnc, hcm, fun _ => ⟨g, rfl, hb, (h.lt g rfl).2, fun i hi => ?_, fun o => ?_⟩⟩
    · have h1 := hc i (by omega)
      rw [add_none, Nat.zero_add] at h1
      exact h1
    · simp [World.frozen?, hg]
def hAt (l : List Int) (i : Nat) : Int := l.getD i 0
def swp (l : List Int) (i j : Nat) : List Int := (l.set i (hAt l j)).set j (hAt l i)
theorem swp_len (l : List Int) (i j : Nat) : (swp l i j).length = l.length := by simp [swp]
theorem hAt_in {l : List Int} {i : Nat} (h : i < l.length) : l[i]? = some (hAt l i) := by
  unfold hAt
  rw [List.getD_eq_getElem?_getD, List.getElem?_eq_getElem h]
  rfl
theorem hAt_of {l : List Int} {i : Nat} {x : Int} (h : l[i]? = some x) : hAt l i = x := by
  unfold hAt
  rw [List.getD_eq_getElem?_getD, h]
  rfl
theorem swp_at {l : List Int} {i j : Nat} (hi : i < l.length) (hj : j < l.length) (k : Nat) : hAt (swp l i j) k = if k = j then hAt l i else if k = i then hAt l j else hAt l k := by
  unfold swp
  by_cases h1 : k = j
  · subst h1
    rw [if_pos rfl]
    exact hAt_of (List.getElem?_set_self (by simp; exact hj))
  rw [if_neg h1]
  by_cases h2 : k = i
  · subst h2
    rw [if_pos rfl]
    refine hAt_of ?_
    rw [List.getElem?_set_ne (fun e => h1 e.symm)]
    exact List.getElem?_set_self hi
  rw [if_neg h2]
  unfold hAt
  rw [List.getD_eq_getElem?_getD, List.getElem?_set_ne (fun e => h1 e.symm), List.getElem?_set_ne (fun e => h2 e.symm), ← List.getD_eq_getElem?_getD]
def Cnt (l : List Int) (x : Int) : Nat := l.count x
theorem cnt_set {l : List Int} {i : Nat} (h : i < l.length) (y x : Int) : Cnt (l.set i y) x + (if hAt l i = x then 1 else 0) = Cnt l x + (if y = x then 1 else 0) := by
  induction l generalizing i with
  | nil => simp at h
  | cons a l ih =>
    cases i with
    | zero =>
      simp only [List.set_cons_zero, Cnt, List.count_cons, hAt, List.getD_cons_zero]
      simp only [beq_iff_eq]
      omega
    | succ i =>
      have h1 := ih (i := i) (by simpa using h)
      have e1 : hAt (a :: l) (i + 1) = hAt l i := by simp [hAt]
      have e2 : Cnt ((a :: l).set (i + 1) y) x = Cnt (l.set i y) x + if a = x then 1 else 0 := by simp [Cnt, List.count_cons]
      have e3 : Cnt (a :: l) x = Cnt l x + if a = x then 1 else 0 := by simp [Cnt, List.count_cons]
      rw [e1, e2, e3]
      omega
theorem swp_cnt {l : List Int} {i j : Nat} (hi : i < l.length) (hj : j < l.length) (x : Int) : Cnt (swp l i j) x = Cnt l x := by
  have h1 := cnt_set hi (hAt l j) x
  have h2 := cnt_set (l := l.set i (hAt l j)) (i := j) (by simp; exact hj) (hAt l i) x
  have h3 : hAt (l.set i (hAt l j)) j = hAt l j := by
    by_cases e : j = i
    · subst e; exact hAt_of (List.getElem?_set_self hj)
    · refine hAt_of ?_
      rw [List.getElem?_set_ne (fun h => e h.symm)]
      exact hAt_in hj
  rw [h3] at h2
  unfold swp
  omega
def Hp (l : List Int) (n : Nat) : Prop := ∀ k, 0 < k → k < n → hAt l ((k - 1) / 2) ≤ hAt l k
theorem hp_least {l : List Int} {n : Nat} (h : Hp l n) : ∀ k, k < n → hAt l 0 ≤ hAt l k := fun k => by
  induction k using Nat.strongRecOn with
  | ind k ih =>
    intro hk
    by_cases h0 : k = 0
    · rw [h0]; exact Int.le_refl _
    · have h1 := h k (by omega) hk
      have h2 := ih ((k - 1) / 2) (by omega) (by omega)
      omega
def upF : Nat → List Int → Nat → List Int
  | 0, l, _ => l
  | f + 1, l, j => if j = 0 then l else if hAt l j < hAt l ((j - 1) / 2) then upF f (swp l ((j - 1) / 2) j) ((j - 1) / 2) else l
structure UpI (l : List Int) (j n : Nat) : Prop where
  ot : ∀ k, 0 < k → k < n → k ≠ j → hAt l ((k - 1) / 2) ≤ hAt l k
  gr : 0 < j → ∀ k, 0 < k → k < n → (k - 1) / 2 = j → hAt l ((j - 1) / 2) ≤ hAt l k
theorem upF_ok : ∀ (f : Nat) (l : List Int) (j : Nat), j < f → j < l.length → UpI l j l.length → Hp (upF f l j) l.length ∧ (upF f l j).length = l.length ∧ ∀ x, Cnt (upF f l j) x = Cnt l x
  | 0, l, j, hf, _, _ => by omega
  | f + 1, l, j, hf, hj, h => by
    unfold upF
    by_cases h0 : j = 0
    · rw [if_pos h0]
      exact ⟨fun k hk hkn => h.ot k hk hkn (by omega), rfl, fun _ => rfl⟩
    rw [if_neg h0]
    by_cases h1 : hAt l j < hAt l ((j - 1) / 2)
    · rw [if_pos h1]
      have hp : (j - 1) / 2 < j := by omega
      have hsl := swp_len l ((j - 1) / 2) j
      have hat := swp_at (l := l) (i := (j - 1) / 2) (j := j) (by omega) hj
      have hI : UpI (swp l ((j - 1) / 2) j) ((j - 1) / 2) (swp l ((j - 1) / 2) j).length := by
        rw [hsl]
        refine ⟨fun k hk hkn hne => ?_, fun hp0 k hk hkn hkp => ?_⟩
        · rw [hat k, hat ((k - 1) / 2)]
          by_cases e1 : k = j
          · subst e1
            rw [if_pos rfl, if_neg (by omega), if_pos rfl]
            omega
          · rw [if_neg e1, if_neg hne]
            by_cases e2 : (k - 1) / 2 = j
            · rw [if_pos e2]
              exact h.gr (by omega) k hk hkn e2
            · rw [if_neg e2]
              have hk1 := h.ot k hk hkn e1
              by_cases e3 : (k - 1) / 2 = (j - 1) / 2
              · rw [if_pos e3]
                rw [e3] at hk1
                omega
              · rw [if_neg e3]
                exact hk1
        · rw [hat k, hat (((j - 1) / 2 - 1) / 2)]
          have hne1 : ¬ ((j - 1) / 2 - 1) / 2 = j := by omega
          have hne2 : ¬ ((j - 1) / 2 - 1) / 2 = (j - 1) / 2 := by omega
          rw [if_neg hne1, if_neg hne2]
          have hpp := h.ot ((j - 1) / 2) hp0 (by omega) (by omega)
          by_cases e1 : k = j
          · rw [if_pos e1]; exact hpp
          · have hkne : ¬ k = (j - 1) / 2 := by omega
            rw [if_neg e1, if_neg hkne]
            have := h.ot k hk hkn e1
            rw [hkp] at this
            omega
      obtain ⟨a1, a2, a3⟩ := upF_ok f (swp l ((j - 1) / 2) j) ((j - 1) / 2) (by omega) (by rw [hsl]; omega) hI
      rw [hsl] at a1 a2
      exact ⟨a1, a2, fun x => by rw [a3 x, swp_cnt (by omega) hj]⟩
    · rw [if_neg h1]
      refine ⟨fun k hk hkn => ?_, rfl, fun _ => rfl⟩
      by_cases e : k = j
      · subst e; omega
      · exact h.ot k hk hkn e
def pushH (l : List Int) (x : Int) : List Int := upF (l.length + 1) (l ++ [x]) l.length
theorem hAt_app {l : List Int} {x : Int} {k : Nat} (h : k < l.length) : hAt (l ++ [x]) k = hAt l k := by
  refine hAt_of ?_
  rw [List.getElem?_append_left h]
  exact hAt_in h
theorem pushH_ok {l : List Int} (h : Hp l l.length) (x : Int) : Hp (pushH l x) (l.length + 1) ∧ (pushH l x).length = l.length + 1 ∧ ∀ y, Cnt (pushH l x) y = Cnt l y + if x = y then 1 else 0 := by
  have hI : UpI (l ++ [x]) l.length (l ++ [x]).length := by
    rw [List.length_append, List.length_singleton]
    refine ⟨fun k hk hkn hne => ?_, fun hp k hk hkn e => by omega⟩
    rw [hAt_app (by omega), hAt_app (by omega)]
    exact h k hk (by omega)
  obtain ⟨a1, a2, a3⟩ := upF_ok (l.length + 1) (l ++ [x]) l.length (by omega) (by simp) hI
  rw [List.length_append, List.length_singleton] at a1 a2
  refine ⟨a1, a2, fun y => ?_⟩
  show Cnt (upF (l.length + 1) (l ++ [x]) l.length) y = _
  rw [a3 y]
  unfold Cnt
  rw [List.count_append, List.count_singleton]
  simp only [beq_iff_eq]
def lowK (l : List Int) (i n : Nat) : Nat := if 2 * i + 2 < n ∧ hAt l (2 * i + 2) < hAt l (2 * i + 1) then 2 * i + 2 else 2 * i + 1
def downF : Nat → List Int → Nat → Nat → List Int
  | 0, l, _, _ => l
  | f + 1, l, i, n => if n ≤ 2 * i + 1 then l else if hAt l (lowK l i n) < hAt l i then downF f (swp l i (lowK l i n)) (lowK l i n) n else l
structure DnI (l : List Int) (i n : Nat) : Prop where
  ot : ∀ k, 0 < k → k < n → (k - 1) / 2 ≠ i → hAt l ((k - 1) / 2) ≤ hAt l k
  gr : 0 < i → ∀ k, 0 < k → k < n → (k - 1) / 2 = i → hAt l ((i - 1) / 2) ≤ hAt l k
theorem lowK_in {l : List Int} {i n : Nat} (h : 2 * i + 1 < n) : lowK l i n < n ∧ (lowK l i n = 2 * i + 1 ∨ lowK l i n = 2 * i + 2) ∧ ∀ k, 0 < k → k < n → (k - 1) / 2 = i → hAt l (lowK l i n) ≤ hAt l k := by
  unfold lowK
  by_cases h1 : 2 * i + 2 < n ∧ hAt l (2 * i + 2) < hAt l (2 * i + 1)
  · rw [if_pos h1]
    refine ⟨h1.1, .inr rfl, fun k hk hkn e => ?_⟩
    have : k = 2 * i + 1 ∨ k = 2 * i + 2 := by omega
    rcases this with rfl | rfl
    · omega
    · exact Int.le_refl _
  · rw [if_neg h1]
    refine ⟨h, .inl rfl, fun k hk hkn e => ?_⟩
    have : k = 2 * i + 1 ∨ k = 2 * i + 2 := by omega
    rcases this with rfl | rfl
    · exact Int.le_refl _
    · have : ¬ hAt l (2 * i + 2) < hAt l (2 * i + 1) := fun h2 => h1 ⟨hkn, h2⟩
      omega
theorem downF_ok : ∀ (f : Nat) (l : List Int) (i n : Nat), n < f + i → n ≤ l.length → DnI l i n → Hp (downF f l i n) n ∧ (downF f l i n).length = l.length ∧ (∀ x, Cnt (downF f l i n) x = Cnt l x) ∧ (∀ k, n ≤ k → hAt (downF f l i n) k = hAt l k)
  | 0, l, i, n, hf, hn, h => ⟨fun k hk hkn => h.ot k hk hkn (by omega), rfl, fun _ => rfl, fun _ _ => rfl⟩
  | f + 1, l, i, n, hf, hn, h => by
    unfold downF
    by_cases h0 : n ≤ 2 * i + 1
    · rw [if_pos h0]
      exact ⟨fun k hk hkn => h.ot k hk hkn (by omega), rfl, fun _ => rfl, fun _ _ => rfl⟩
    rw [if_neg h0]
    obtain ⟨c1, c2, c3⟩ := lowK_in (l := l) (i := i) (n := n) (by omega)
    by_cases h1 : hAt l (lowK l i n) < hAt l i
    · rw [if_pos h1]
      generalize lowK l i n = j at *
      have hsl := swp_len l i j
      have hat := swp_at (l := l) (i := i) (j := j) (by omega) (by omega)
      have hI : DnI (swp l i j) j n := by
        refine ⟨fun k hk hkn hne => ?_, fun hj k hk hkn e => ?_⟩
        · rw [hat k, hat ((k - 1) / 2), if_neg hne]
          by_cases e1 : (k - 1) / 2 = i
          · rw [if_pos e1]
            by_cases e2 : k = j
            · rw [if_pos e2]; omega
            · rw [if_neg e2, if_neg (by omega)]
              exact c3 k hk hkn e1
          · rw [if_neg e1]
            by_cases e2 : k = j
            · omega
            · rw [if_neg e2]
              by_cases e3 : k = i
              · rw [if_pos e3]
                subst e3
                exact h.gr hk j (by omega) c1 (by omega)
              · rw [if_neg e3]
                exact h.ot k hk hkn e1
        · have hpj : (j - 1) / 2 = i := by omega
          rw [hat k, hat ((j - 1) / 2), hpj, if_neg (by omega), if_pos rfl, if_neg (by omega), if_neg (by omega)]
          have := h.ot k hk hkn (by omega)
          rw [e] at this
          exact this
      obtain ⟨a1, a2, a3, a4⟩ := downF_ok f (swp l i j) j n (by omega) (by rw [hsl]; exact hn) hI
      refine ⟨a1, by rw [a2, hsl], fun x => by rw [a3 x, swp_cnt (by omega) (by omega)], fun k hk => ?_⟩
      rw [a4 k hk, hat k, if_neg (by omega), if_neg (by omega)]
    · rw [if_neg h1]
      refine ⟨fun k hk hkn => ?_, rfl, fun _ => rfl, fun _ _ => rfl⟩
      by_cases e : (k - 1) / 2 = i
      · have := c3 k hk hkn e
        rw [e]
        omega
      · exact h.ot k hk hkn e
def downH (l : List Int) : List Int := downF l.length (swp l 0 (l.length - 1)) 0 (l.length - 1)
def popH (l : List Int) : Int × List Int := (hAt (downH l) (l.length - 1), (downH l).take (l.length - 1))
theorem cnt_take {l : List Int} (h : 0 < l.length) (x : Int) : Cnt l x = Cnt (l.take (l.length - 1)) x + if hAt l (l.length - 1) = x then 1 else 0 := by
  have e : l = l.take (l.length - 1) ++ [hAt l (l.length - 1)] := by
    have h1 := List.take_append_drop (l.length - 1) l
    have h2 : l.drop (l.length - 1) = [hAt l (l.length - 1)] := by
      rw [List.drop_eq_getElem_cons (by omega)]
      have h3 := hAt_in (l := l) (i := l.length - 1) (by omega)
      rw [List.getElem?_eq_getElem (by omega)] at h3
      injection h3 with h3
      rw [h3, List.drop_eq_nil_of_le (by omega)]
    rw [h2] at h1
    exact h1.symm
  have h2 : Cnt l x = Cnt (l.take (l.length - 1) ++ [hAt l (l.length - 1)]) x := by rw [← e]
  rw [h2]
  unfold Cnt
  rw [List.count_append, List.count_singleton]
  simp only [beq_iff_eq]
theorem popH_ok {l : List Int} (h : Hp l l.length) (h0 : 0 < l.length) : (popH l).1 = hAt l 0 ∧ (∀ k, k < l.length → (popH l).1 ≤ hAt l k) ∧ Hp (popH l).2 (l.length - 1) ∧ (popH l).2.length = l.length - 1 ∧ ∀ x, Cnt l x = Cnt (popH l).2 x + if (popH l).1 = x then 1 else 0 := by
  have hat := swp_at (l := l) (i := 0) (j := l.length - 1) h0 (by omega)
  have hI : DnI (swp l 0 (l.length - 1)) 0 (l.length - 1) := by
    refine ⟨fun k hk hkn hne => ?_, fun h => by omega⟩
    rw [hat k, hat ((k - 1) / 2), if_neg (by omega), if_neg hne, if_neg (by omega), if_neg (by omega)]
    exact h k hk (by omega)
  obtain ⟨a1, a2, a3, a4⟩ := downF_ok l.length (swp l 0 (l.length - 1)) 0 (l.length - 1) (by omega) (by rw [swp_len]; omega) hI
  rw [swp_len] at a2
  have e1 : (popH l).1 = hAt l 0 := by
    show hAt (downH l) (l.length - 1) = _
    unfold downH
    rw [a4 _ (Nat.le_refl _), hat, if_pos rfl]
  have hl2 : (downH l).length = l.length := a2
  refine ⟨e1, fun k hk => by rw [e1]; exact hp_least h k hk, fun k hk hkn => ?_, by show ((downH l).take (l.length - 1)).length = _; rw [List.length_take, hl2]; omega, fun x => ?_⟩
  · have ht : ∀ q, q < l.length - 1 → hAt ((downH l).take (l.length - 1)) q = hAt (downH l) q := fun q hq => by
      refine hAt_of ?_
      rw [List.getElem?_take, if_pos hq]
      exact hAt_in (by omega)
    show hAt ((downH l).take (l.length - 1)) _ ≤ hAt ((downH l).take (l.length - 1)) _
    rw [ht k hkn, ht _ (by omega)]
    exact a1 k hk hkn
  · have h5 := cnt_take (l := downH l) (by omega) x
    rw [hl2] at h5
    have h6 : Cnt (downH l) x = Cnt l x := by
      unfold downH
      rw [a3 x, swp_cnt h0 (by omega)]
    show Cnt l x = Cnt ((downH l).take (l.length - 1)) x + if hAt (downH l) (l.length - 1) = x then 1 else 0
    omega
end Go.Proofs.YtjamfbpdepahnaaGreat

/-
  Whole blocks of memory, over any program: what a block holds, what a store does to it, what a call may change. For a new seat: copy as <Name>Blk.lean; put the Name for 'Seat', also in the import.
-/
namespace Go.Proofs.YtjamfbpdepahnaaGreat
open Go.RowKit
set_option linter.unusedVariables false
def Blk (w : World) (g : Nat) (t : TypeId) (xs : List Value) : Prop := w.heap[g]? = some (.cells xs.toArray t (0, 0))
section
variable {w w' : World} {g : Nat} {t : TypeId} {xs : List Value}
theorem Blk.lt (h : Blk w g t xs) : g < w.heap.size := (Array.getElem?_eq_some_iff.1 h).1
theorem Blk.cell (h : Blk w g t xs) (i : Nat) : w.cell? ⟨g, i, none⟩ = xs[i]? := by
  unfold Blk at h
  simp [World.cell?, h]
theorem Blk.frozen (h : Blk w g t xs) (i : Nat) : w.frozen? ⟨g, i, none⟩ = false := by
  unfold Blk at h
  simp [World.frozen?, h]
theorem Blk.of_eq (h : Blk w g t xs) (e : w'.heap[g]? = w.heap[g]?) : Blk w' g t xs := Eq.trans e h
theorem Blk.other (h : Blk w g t xs) (a : Addr) (u : Value) (hn : g ≠ a.block) : Blk (w.setCell a u) g t xs := h.of_eq (Below.heap_setCell w a u g hn)
theorem Blk.set (h : Blk w g t xs) (i : Nat) (u : Value) : Blk (w.setCell ⟨g, i, none⟩ u) g t (xs.set i u) := by
  unfold Blk at h ⊢
  have hlt := (Array.getElem?_eq_some_iff.1 h).1
  unfold World.setCell
  simp [Array.getElem?_modify, h]
theorem Blk.alloc (h : Blk w g t xs) (o : Obj) : Blk (w.alloc o) g t xs := h.of_eq (Below.heap_alloc w o g h.lt)
theorem Blk.drew (h : Blk w g t xs) : Blk w.drew g t xs := h
theorem Blk.below {B : Nat} (h : Blk w g t xs) (hB : Below B w w') (hg : g < B) : Blk w' g t xs := h.of_eq (hB.block g hg)
theorem Blk.later (h : Blk w g t xs) (hB : Below w.heap.size w w') : Blk w' g t xs := h.below hB h.lt
theorem Blk.new (w : World) (xs : List Value) (t : TypeId) : Blk (w.alloc (.cells xs.toArray t)) w.heap.size t xs := by
  unfold Blk World.alloc
  simp
theorem Blk.newA (w : World) (xs : Array Value) (t : TypeId) : Blk (w.alloc (.cells xs t)) w.heap.size t xs.toList := by
  have := Blk.new w xs.toList t
  rwa [Array.toArray_toList] at this
theorem Blk.row {k : IntKind} {l : List Int} (h : Blk w g t (cellsL k l)) : Row k w (some ⟨g, 0, none⟩) l := by
  refine Row.mk fun i hi => ?_
  rw [Nat.zero_add, h.cell, cellsL_at k l i hi]
end
theorem own_blk {w : World} {base n : Nat} {e : TypeId} {v : Value} {xs : List Value} (h : w.ownsRow base e 1 v n xs) (hn : 0 < n) :
    ∃ g cap ys, v = .slice (some ⟨g, 0, none⟩) n cap ∧ base ≤ g ∧ n ≤ cap ∧ cap ≤ maxLen ∧ ys.length = cap ∧ ys.take n = xs ∧ Blk w g e ys := by
  rcases h.2 with ⟨_, h0⟩ | ⟨g, cap, cur, rfl, hb, hg, hnc, hcm, hs, ht⟩
  · omega
  · exact ⟨g, cap, cur.toList, rfl, hb, hnc, hcm, by simpa using hs, by simpa using ht, by unfold Blk; rw [Array.toArray_toList]; exact hg⟩
theorem cellsL_set (k : IntKind) (l : List Int) (i : Nat) (x : Int) : (cellsL k l).set i (.int k x) = cellsL k (l.set i x) := by simp [cellsL, List.map_set]
structure Upd (S : Nat → Prop) (w w' : World) : Prop where
  os : w'.os = w.os
  tape : w'.tape = w.tape
  output : w'.output = w.output
  size : w.heap.size ≤ w'.heap.size
  block : ∀ k, k < w.heap.size → ¬ S k → w'.heap[k]? = w.heap[k]?
theorem Upd.refl (S : Nat → Prop) (w : World) : Upd S w w := ⟨rfl, rfl, rfl, Nat.le_refl _, fun _ _ _ => rfl⟩
theorem Upd.of_below {S : Nat → Prop} {w w' : World} (h : Below w.heap.size w w') : Upd S w w' := ⟨h.os, h.tape, h.output, h.size, fun k hk _ => h.block k hk⟩
theorem Upd.trans {S T : Nat → Prop} {a b c : World} (h : Upd S a b) (g : Upd T b c) (hs : ∀ k, k < a.heap.size → T k → S k) : Upd S a c :=
  ⟨g.os.trans h.os, g.tape.trans h.tape, g.output.trans h.output, Nat.le_trans h.size g.size, fun k hk hn => (g.block k (Nat.lt_of_lt_of_le hk h.size) (fun ht => hn (hs k hk ht))).trans (h.block k hk hn)⟩
theorem Upd.to {S : Nat → Prop} {a b c : World} (h : Upd S a b) (g : Upd S b c) : Upd S a c := h.trans g (fun _ _ h => h)
theorem Upd.mono {S T : Nat → Prop} {a b : World} (h : Upd S a b) (hs : ∀ k, k < a.heap.size → S k → T k) : Upd T a b := ⟨h.os, h.tape, h.output, h.size, fun k hk hn => h.block k hk (fun ht => hn (hs k hk ht))⟩
theorem Upd.then {S : Nat → Prop} {a b c : World} (h : Upd S a b) (g : Below b.heap.size b c) : Upd S a c := h.trans (Upd.of_below (S := fun _ => False) g) (fun _ _ h => h.elim)
theorem Upd.below {S : Nat → Prop} {w w' : World} (h : Upd S w w') (B : Nat) (hB : B ≤ w.heap.size) (hs : ∀ k, S k → B ≤ k) : Below B w w' :=
  ⟨h.os, h.tape, h.output, h.size, fun k hk => h.block k (by omega) (fun ht => by have := hs k ht; omega)⟩
theorem Upd.set {S : Nat → Prop} {a w : World} (h : Upd S a w) (p : Addr) (u : Value) (hp : S p.block ∨ a.heap.size ≤ p.block) : Upd S a (w.setCell p u) :=
  ⟨h.os, h.tape, h.output, by rw [World.size_setCell]; exact h.size, fun k hk hn => (Below.heap_setCell w p u k (by rintro rfl; rcases hp with hp | hp; exact hn hp; omega)).trans (h.block k hk hn)⟩
theorem Upd.alloc {S : Nat → Prop} {a w : World} (h : Upd S a w) (o : Obj) : Upd S a (w.alloc o) :=
  h.then ((Below.refl _ _).alloc (Nat.le_refl _) o)
theorem Upd.drew {S : Nat → Prop} {a w : World} (h : Upd S a w) : Upd S a w.drew := ⟨h.os, h.tape, h.output, h.size, h.block⟩
theorem Upd.grown {S : Nat → Prop} {a w w' : World} {row : Option Nat} (h : Upd S a w) (hg : w.grownBy w' row) (hr : ∀ k, row = some k → S k ∨ a.heap.size ≤ k) : Upd S a w' :=
  ⟨hg.os.trans h.os, hg.tape.trans h.tape, hg.output.trans h.output, Nat.le_trans h.size hg.size, fun k hk hn => (hg.block k (Nat.lt_of_lt_of_le hk h.size) (fun e => by rcases hr k e.symm with h1 | h1; exact hn h1; omega)).trans (h.block k hk hn)⟩
theorem Blk.upd {w w' : World} {g : Nat} {t : TypeId} {xs : List Value} {S : Nat → Prop} (h : Blk w g t xs) (hu : Upd S w w') (hg : ¬ S g) : Blk w' g t xs := h.of_eq (hu.block g h.lt hg)
theorem Row.upd {k : IntKind} {w w' : World} {a : Option Addr} {l : List Int} {S : Nat → Prop} (h : Row k w a l) (hu : Upd S w w') (hg : ∀ x, a = some x → ¬ S x.block) : Row k w' a l := by
  rcases h with ⟨rfl, rfl⟩ | ⟨x, rfl, hc⟩
  · exact .inl ⟨rfl, rfl⟩
  · refine .inr ⟨x, rfl, fun i hi => ?_⟩
    have h1 := hc i hi
    have hb : (x.add i).block = x.block := by unfold Addr.add; split <;> rfl
    have hlt := World.block_lt_of_cell? w _ h1
    rw [World.cell?_of_block (w := w) (hu.block _ hlt (by rw [hb]; exact hg x rfl))]
    exact h1
end Go.Proofs.YtjamfbpdepahnaaGreat
