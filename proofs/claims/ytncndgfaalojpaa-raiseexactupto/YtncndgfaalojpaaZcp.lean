/- Rows of structs of any kind: copied by append, written over; parts of the call's own. -/
import Derived.Test.YtncndgfaalojpaaZto
namespace Go.Proofs.Ytncndgfaalojpaa
open Go.RowKit
set_option linter.unusedVariables false

theorem row_set_at {α : Type} {c : Nat} {f : α → List Value} (hf : ∀ x, (f x).length = c) (l : List α) (i : Nat) (y : α) (hi : i < l.length) (j : Nat) (hj : j < l.length * c) : (cellsG f (l.set i y))[j]? = if i * c ≤ j ∧ j < i * c + c then (f y)[j - i * c]? else (cellsG f l)[j]? := by
  rcases Nat.eq_zero_or_pos c with h0 | h0
  · subst h0; simp at hj
  have hq : j / c < l.length := Nat.div_lt_of_lt_mul (by rw [Nat.mul_comm]; exact hj)
  have hjm : j = j / c * c + j % c := by rw [Nat.mul_comm]; exact (Nat.div_add_mod j c).symm
  have hml := Nat.mod_lt j h0
  by_cases he : j / c = i
  · have hx : (l.set i y)[j / c]? = some y := by rw [he, List.getElem?_set_self hi]
    have h := cellsG_at hf (l.set i y) (j / c) (j % c) y hx hml
    rw [← hjm] at h
    rw [h, if_pos (by rw [← he]; omega)]
    congr 1
    rw [← he]
    omega
  · have hx : (l.set i y)[j / c]? = some (l[j / c]'hq) := by rw [List.getElem?_set_ne (fun h => he h.symm)]; exact List.getElem?_eq_getElem hq
    have h := cellsG_at hf (l.set i y) (j / c) (j % c) _ hx hml
    have h2 := cellsG_at hf l (j / c) (j % c) _ (List.getElem?_eq_getElem hq) hml
    rw [← hjm] at h h2
    rw [h, h2, if_neg]
    intro ⟨h3, h4⟩
    apply he
    refine Nat.div_eq_of_lt_le h3 ?_
    rw [Nat.add_mul, Nat.one_mul]
    exact h4
/-- The cells of an element of four cells written over. -/
theorem row_set4 {α : Type} {f : α → List Value} (hf : ∀ x, (f x).length = 4) {w : World} {B g n cap i : Nat} {e : TypeId} {l : List α} (h : w.ownsRow B e 4 (.slice (some ⟨g, 0, none⟩) n cap) l.length (cellsG f l)) (hi : i < l.length) (y : α) (y0 y1 y2 y3 : Value) (hy : f y = [y0, y1, y2, y3]) :
    ((((w.setCell ⟨g, i * 4, none⟩ y0).setCell ⟨g, i * 4 + 1, none⟩ y1).setCell ⟨g, i * 4 + 2, none⟩ y2).setCell ⟨g, i * 4 + 3, none⟩ y3).ownsRow B e 4 (.slice (some ⟨g, 0, none⟩) n cap) (l.set i y).length (cellsG f (l.set i y)) := by
  obtain ⟨g', cap', ys, e, hb, hn, hm, hys, ht, hk⟩ := ownS_blk h (by omega)
  injection e with e1 e2 e3
  injection e1 with e1
  injection e1 with e1 _ _
  subst e1 e2 e3
  have hk2 := (((hk.set (i * 4) y0).set (i * 4 + 1) y1).set (i * 4 + 2) y2).set (i * 4 + 3) y3
  have h2 := ownS_of_blk (B := B) (n := l.length) (c := 4) (cap := cap) hk2 hb (by simp [hys]) hn hm
  have e4 : ((((ys.set (i * 4) y0).set (i * 4 + 1) y1).set (i * 4 + 2) y2).set (i * 4 + 3) y3).take (l.length * 4) = cellsG f (l.set i y) := by
    apply List.ext_getElem?
    intro j
    by_cases hj : j < l.length * 4
    · rw [row_set_at hf l i y hi j hj, List.getElem?_take, if_pos hj, ← ht]
      have hjy : j < ys.length := by rw [hys]; have := Nat.mul_le_mul_right 4 hn; omega
      by_cases h0 : j = i * 4
      · subst h0
        rw [if_pos (by omega), List.getElem?_set_ne (by omega), List.getElem?_set_ne (by omega), List.getElem?_set_ne (by omega), List.getElem?_set_self hjy, hy]
        simp
      · by_cases h1 : j = i * 4 + 1
        · subst h1
          rw [if_pos (by omega), List.getElem?_set_ne (by omega), List.getElem?_set_ne (by omega), List.getElem?_set_self (by simpa using hjy), hy]
          simp
        · by_cases h2 : j = i * 4 + 2
          · subst h2
            rw [if_pos (by omega), List.getElem?_set_ne (by omega), List.getElem?_set_self (by simpa using hjy), hy]
            simp
          · by_cases h3 : j = i * 4 + 3
            · subst h3
              rw [if_pos (by omega), List.getElem?_set_self (by simpa using hjy), hy]
              simp
            · rw [if_neg (by omega), List.getElem?_set_ne (by omega), List.getElem?_set_ne (by omega), List.getElem?_set_ne (by omega), List.getElem?_set_ne (by omega), List.getElem?_take, if_pos hj]
    · rw [List.getElem?_eq_none (by simp; omega), List.getElem?_eq_none (by rw [cellsG_len hf]; simp; omega)]
  rw [List.length_set, ← e4]
  exact h2
set_option maxRecDepth 100000 in
/-- append(nil, x...), x a row of structs of any kind: new memory. -/
theorem run_copyG {α : Type} {c : Nat} {f : α → List Value} {P : Program} {t e : TypeId} {z : Value} {bytes : Nat} (hf : ∀ x, (f x).length = c) (hone : ∀ x, ∀ u ∈ f x, u.oneCell' = true) (ht : P.underlying t = some (.slice e)) (hinfo : (P.info? e).map (fun i => (i.zero, i.size, i.bytes)) = some (some z, c, bytes)) (hzs : z.cells.size = c) (hc : 0 < c)
    (w : World) (a : Option Addr) (n cap : Nat) (l : List α) (hn : l.length = n) (hr : GRow c f w a l) (hnil : a = none → cap = 0) (h63 : n ≤ maxLen) (hl : n * bytes ≤ 140737488355328) :
    ∃ v' w', (Builtin.append_ #[t, t] t #[.slice none 0 0, .slice a n cap]).run P w = .ok v' w' ∧ w'.ownsRow w.heap.size e c v' n (cellsG f l) ∧ Below w.heap.size w w' := by
  subst hn
  have hall : ∀ u ∈ cellsG f l, u.oneCell' = true := fun u hu => by
    simp only [cellsG, List.mem_flatMap] at hu
    obtain ⟨x, _, hx⟩ := hu
    exact hone x u hx
  obtain ⟨i0, hi, hz0, hz1, hz2⟩ := info_parts hinfo
  rcases hr with rfl | ⟨b, off, rfl, hb, hcl⟩
  · cases a with
    | none =>
      obtain rfl := hnil rfl
      exact ⟨_, w, run_append_owned_none (P := P) w w.heap.size t t e i0 c ht hi (.slice none 0 0) 0 [] (World.ownsRow_nil _ _ _ _), World.ownsRow_nil _ _ _ _, Below.refl _ _⟩
    | some x =>
      obtain ⟨v', w', hrun, h2, h3, h4, h5⟩ := run_append_own_at (P := P) w w.heap.size t t e i0 z c bytes ht hi hz0 hz1 hz2 hzs hc (.slice none 0 0) 0 [] (World.ownsRow_nil _ _ _ _) x 0 cap [] (by simp) (fun j u hj => by simp at hj) (fun u hu => by cases hu) (by unfold maxLen; omega) (by omega) (Nat.le_refl _)
      have hg := (Upd.refl (fun _ => False) w).grown h3 (fun k hk => by cases hk)
      simp only [List.append_nil, Nat.add_zero] at h2
      exact ⟨v', w', by simpa using hrun, by simpa [cellsG] using h2, hg.below w.heap.size (Nat.le_refl _) (fun k hk => hk.elim)⟩
  · have hcell : ∀ j u, (cellsG f l)[j]? = some u → w.cell? ((⟨b, off, none⟩ : Addr).add j) = some u := fun j u hj => by
      have hlt := (List.getElem?_eq_some_iff.1 hj).1
      rw [cellsG_len hf] at hlt
      have hi : j / c < l.length := Nat.div_lt_of_lt_mul (by rw [Nat.mul_comm]; exact hlt)
      have hx : l[j / c]? = some (l[j / c]'hi) := List.getElem?_eq_getElem hi
      have h1 := hcl (j / c) _ hx (j % c) (Nat.mod_lt _ hc)
      have h2 := cellsG_at hf l (j / c) (j % c) _ hx (Nat.mod_lt _ hc)
      have e : j / c * c + j % c = j := by rw [Nat.mul_comm]; exact Nat.div_add_mod j c
      rw [e] at h2
      rw [add_none, ← hj, h2, ← h1]
      congr 2
      omega
    obtain ⟨v', w', hrun, h2, h3, h4, h5⟩ := run_append_own_at (P := P) w w.heap.size t t e i0 z c bytes ht hi hz0 hz1 hz2 hzs hc (.slice none 0 0) 0 [] (World.ownsRow_nil _ _ _ _) ⟨b, off, none⟩ l.length cap (cellsG f l) (cellsG_len hf l) hcell hall (by omega) (by rw [Nat.zero_add]; exact hl) (Nat.le_refl _)
    rw [Nat.zero_add, List.nil_append] at h2
    have hg := (Upd.refl (fun _ => False) w).grown h3 (fun k hk => by cases hk)
    exact ⟨v', w', hrun, h2, hg.below _ (Nat.le_refl _) (fun k hk => hk.elim)⟩
/-! ### Parts of the call's own -/
theorem infoP : (Try.prog.info? 58).map (fun i => (i.zero, i.size, i.bytes)) = some (some (.agg #[.string ⟨#[]⟩, .int .i64 0, .int .i64 0]), 3, 32) := by kernel_rfl
def POwn (w : World) (B : Nat) (v : Value) (l : List Pt) : Prop := w.ownsRow B 58 3 v l.length (cellsG ptc l)
theorem ptc_one (p : Pt) : ∀ u ∈ ptc p, u.oneCell' = true := fun u hu => by
  simp [ptc] at hu
  rcases hu with rfl | rfl | rfl <;> rfl
theorem POwn.later {w w' : World} {B : Nat} {v : Value} {l : List Pt} (h : POwn w B v l) (hB : Below w.heap.size w w') : POwn w' B v l := ownS_upd h (Upd.of_below (S := fun _ => False) hB) (fun _ _ h => h)
/-- append(nil, parts...). -/
theorem copyP (w : World) (a : Option Addr) (cap : Nat) (l : List Pt) (hr : PRow w a l) (hnil : a = none → cap = 0) (hl : l.length ≤ 1000000) :
    ∃ v' w', (Builtin.append_ #[41, 41] 41 #[.slice none 0 0, .slice a l.length cap]).run Try.prog w = .ok v' w' ∧ POwn w' w.heap.size v' l ∧ Below w.heap.size w w' :=
  run_copyG (P := Try.prog) ptc_len ptc_one Try.underlying41 infoP rfl (by decide) w a l.length cap l rfl hr hnil (by unfold maxLen; omega) (by omega)
/-- append(v, part). -/
theorem POwn.push {w : World} {B : Nat} {v : Value} {l : List Pt} (h : POwn w B v l) (p : Pt) (hl : l.length ≤ 1000000) (hB : B ≤ w.heap.size) :
    ∃ g cap w', (Builtin.append_ #[41, 41] 41 #[v, .slice (some ⟨w.heap.size, 0, none⟩) 1 1]).run Try.prog (w.alloc (.cells #[.string p.label, .int .i64 p.tag, .int .i64 p.ty] 58)) = .ok (.slice (some ⟨g, 0, none⟩) (l.length + 1) cap) w' ∧ POwn w' B (.slice (some ⟨g, 0, none⟩) (l.length + 1) cap) (l ++ [p]) ∧ Below B w w' := by
  obtain ⟨g, cap, w', h1, h2, h3, h4⟩ := run_pushS (P := Try.prog) (t := 41) (e := 58) (c := 3) Try.underlying41 infoP rfl (by decide) w 41 h (ptc p) rfl (ptc_one p) (by unfold maxLen; omega) (by omega) hB
  refine ⟨g, cap, w', h1, ?_, h3.below B hB (fun k hk => (h.lt k hk).1)⟩
  unfold POwn
  rw [cellsG_app, cellsG_one, List.length_append, List.length_singleton]
  exact h2
/-- As a type's parts. -/
theorem POwn.ptIn {w : World} {B B' : Nat} {v : Value} {l : List Pt} (h : POwn w B v l) : PtIn w B' l v := by
  obtain ⟨a, cap, rfl, h1, h2, h3⟩ := own_grow ptc_len h
  refine ⟨a, cap, rfl, h1, h2, h3, .inr (fun x hx => ?_)⟩
  subst hx
  rcases h.2 with ⟨e, _⟩ | ⟨g, cap', cur, e, _⟩
  · cases e
  · injection e with e1 _ _
    injection e1 with e1
    subst e1
    obtain ⟨ys, hy⟩ := ownS_type h (k := g) rfl
    exact .inr ⟨ys, hy⟩
/-! ### A type written over in a list of the call's own -/
theorem TOwn.set4 {w : World} {B g n cap i : Nat} {Q : List (Ty × Value)} (h : TOwn w B (.slice (some ⟨g, 0, none⟩) n cap) Q) (hi : i < Q.length) (t : Ty) (u : Value) (ht : PtIn w B t.ps u) :
    TOwn ((((w.setCell ⟨g, i * 4, none⟩ (.int .i64 t.k)).setCell ⟨g, i * 4 + 1, none⟩ (.int .i64 t.n)).setCell ⟨g, i * 4 + 2, none⟩ (.int .i64 t.e)).setCell ⟨g, i * 4 + 3, none⟩ u) B (.slice (some ⟨g, 0, none⟩) n cap) (Q.set i (t, u)) ∧
    Upd (fun k => k = g) w ((((w.setCell ⟨g, i * 4, none⟩ (.int .i64 t.k)).setCell ⟨g, i * 4 + 1, none⟩ (.int .i64 t.n)).setCell ⟨g, i * 4 + 2, none⟩ (.int .i64 t.e)).setCell ⟨g, i * 4 + 3, none⟩ u) := by
  have hu : Upd (fun k => k = g) w ((((w.setCell ⟨g, i * 4, none⟩ (.int .i64 t.k)).setCell ⟨g, i * 4 + 1, none⟩ (.int .i64 t.n)).setCell ⟨g, i * 4 + 2, none⟩ (.int .i64 t.e)).setCell ⟨g, i * 4 + 3, none⟩ u) :=
    ((((Upd.refl (fun k => k = g) w).set ⟨g, i * 4, none⟩ (.int .i64 t.k) (.inl rfl)).set ⟨g, i * 4 + 1, none⟩ (.int .i64 t.n) (.inl rfl)).set ⟨g, i * 4 + 2, none⟩ (.int .i64 t.e) (.inl rfl)).set ⟨g, i * 4 + 3, none⟩ u (.inl rfl)
  obtain ⟨zs, hz⟩ := ownS_type h.1 (k := g) rfl
  have hg := (World.ownsRow.lt h.1 g rfl).1
  have hn : ∀ k ys, k = g → Blk w k 58 ys → False := fun k ys e hb => by
    subst e
    exact absurd (blk_type hz hb) (by decide)
  refine ⟨⟨row_set4 tyq_len h.1 hi (t, u) _ _ _ _ rfl, fun p hp => ?_⟩, hu⟩
  rcases List.mem_or_eq_of_mem_set hp with hp | rfl
  · exact (h.2 p hp).upd hu (fun k e => by omega) hn
  · exact ht.upd hu (fun k e => by omega) hn
theorem TOwn.at4 {w : World} {B g n cap i : Nat} {Q : List (Ty × Value)} {p : Ty × Value} (h : TOwn w B (.slice (some ⟨g, 0, none⟩) n cap) Q) (hx : Q[i]? = some p) : w.cell? ⟨g, i * 4, none⟩ = some (.int .i64 p.1.k) ∧ w.cell? ⟨g, i * 4 + 1, none⟩ = some (.int .i64 p.1.n) ∧ w.cell? ⟨g, i * 4 + 2, none⟩ = some (.int .i64 p.1.e) ∧ w.cell? ⟨g, i * 4 + 3, none⟩ = some p.2 := by
  obtain ⟨a, c, e, -, -, hr⟩ := own_grow tyq_len h.1
  injection e with e1 _ _
  subst e1
  obtain ⟨b, off, e2, -, hc⟩ := hr.open (by have := (List.getElem?_eq_some_iff.1 hx).1; omega)
  injection e2 with e2
  injection e2 with e3 e4 _
  subst e3 e4
  have h0 := hc i p hx 0 (by decide); have h1 := hc i p hx 1 (by decide); have h2 := hc i p hx 2 (by decide); have h3 := hc i p hx 3 (by decide)
  simp only [Nat.zero_add, Nat.add_zero] at h0 h1 h2 h3
  exact ⟨h0, h1, h2, h3⟩
theorem TOwn.fr {w : World} {B g n cap : Nat} {Q : List (Ty × Value)} (h : TOwn w B (.slice (some ⟨g, 0, none⟩) n cap) Q) (i : Nat) : w.frozen? ⟨g, i, none⟩ = false := by
  obtain ⟨ys, hy⟩ := ownS_type h.1 (k := g) rfl
  exact hy.frozen i
/-! ### Lists of types and roots: read, kept -/
theorem town_row {w : World} {B n cap : Nat} {a : Option Addr} {Q : List (Ty × Value)} {U : List Ty} (h : TOwn w B (.slice a n cap) Q) (hQ : Q.map (·.1) = U) : TRow w a U := by
  obtain ⟨a', cap', e, hr⟩ := h.row
  injection e with e1 _ _
  subst e1
  rw [hQ] at hr
  exact hr
theorem rown_row {w : World} {B n cap : Nat} {a : Option Addr} {l : List Rt} (h : ROwn w B (.slice a n cap) l) : RRow w a l := by
  obtain ⟨a', cap', e, -, -, hr⟩ := own_grow rtc_len h
  injection e with e1 _ _
  subst e1
  exact hr
theorem ROwn.later {w w' : World} {B : Nat} {v : Value} {l : List Rt} (h : ROwn w B v l) (hB : Below w.heap.size w w') : ROwn w' B v l := ownS_upd h (Upd.of_below (S := fun _ => False) hB) (fun _ _ h => h)
theorem ROwn.other {w : World} {B : Nat} {v : Value} {l : List Rt} (h : ROwn w B v l) {g : Nat} {t : TypeId} {ys : List Value} (hb : Blk w g t ys) (ht : t ≠ 84) (i : Nat) (u : Value) : ROwn (w.setCell ⟨g, i, none⟩ u) B v l :=
  ownS_upd h ((Upd.refl (fun k => k = g) w).set _ _ (.inl rfl)) (fun k hk e => by
    obtain ⟨zs, hz⟩ := ownS_type h hk
    subst e
    exact ht (blk_type hb hz))
theorem st2 {w : World} {B g : Nat} {v vR : Value} {Q : List (Ty × Value)} {l : List Rt} {x0 x1 : Value} (hT : TOwn w B v Q) (hR : ROwn w B vR l) (hK : Blk w g 25 [x0, x1]) (hg : B ≤ g) (y0 y1 : Value) : TOwn ((w.setCell ⟨g, 0, none⟩ y0).setCell ⟨g, 1, none⟩ y1) B v Q ∧ ROwn ((w.setCell ⟨g, 0, none⟩ y0).setCell ⟨g, 1, none⟩ y1) B vR l := by
  have k1 := hK.set 0 y0
  exact ⟨(hT.other hK hg (by decide) (by decide) 0 y0).other k1 hg (by decide) (by decide) 1 y1, (hR.other hK (by decide) 0 y0).other k1 (by decide) 1 y1⟩
theorem cutT_lens (T : List Ty) : LensT (cutT T) := ⟨by simp [cutT]; omega, fun t ht => by
  simp only [cutT, List.mem_map] at ht
  obtain ⟨u, -, rfl⟩ := ht
  rw [cut1_len]
  omega⟩
theorem TOwn.updN {w w' : World} {B : Nat} {v : Value} {Q : List (Ty × Value)} (h : TOwn w B v Q) {g : Nat} {t : TypeId} {ys : List Value} (hu : Upd (fun k => k = g) w w') (hb : Blk w g t ys) (hg : B ≤ g) (h1 : t ≠ 43) (h2 : t ≠ 58) : TOwn w' B v Q := by
  refine ⟨ownS_upd h.1 hu (fun k hk e => ?_), fun p hp => (h.2 p hp).upd hu (fun k e => by omega) (fun k zs e hz => ?_)⟩
  · obtain ⟨zs, hz⟩ := ownS_type h.1 hk
    subst e
    exact h1 (blk_type hb hz)
  · subst e
    exact h2 (blk_type hb hz)
theorem ROwn.updN {w w' : World} {B : Nat} {v : Value} {l : List Rt} (h : ROwn w B v l) {g : Nat} {t : TypeId} {ys : List Value} (hu : Upd (fun k => k = g) w w') (hb : Blk w g t ys) (h1 : t ≠ 84) : ROwn w' B v l :=
  ownS_upd h hu (fun k hk e => by
    obtain ⟨zs, hz⟩ := ownS_type h hk
    subst e
    exact h1 (blk_type hb hz))
end Go.Proofs.Ytncndgfaalojpaa
