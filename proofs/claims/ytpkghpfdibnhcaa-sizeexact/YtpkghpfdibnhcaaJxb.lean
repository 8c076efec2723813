import Derived.Test.YtpkghpfdibnhcaaZto
import Derived.Test.YtpkghpfdibnhcaaOp
import Derived.Test.YtpkghpfdibnhcaaJxa
/- Rows of structs of any kind: copied by append, written over; parts of the call's own. -/
namespace Go.Proofs.Ytpkghpfdibnhcaa
open Go.RowKit
set_option linter.unusedVariables false

theorem row_set_at {α : Type} {c : Nat} {f : α → List Value} (hf : ∀ x, (f x).length = c) (l : List α) (i : Nat) (y : α) (hi : i < l.length) (j : Nat) (hj : j < l.length * c) : (cellsG f (l.set i y))[j]? = if i * c ≤ j ∧ j < i * c + c then (f y)[j - i * c]? else (cellsG f l)[j]? := by
  rcases Nat.eq_zero_or_pos c with h0 | h0
  · subst h0; simp at hj
  have hq : j / c < l.length := Nat.div_lt_of_lt_mul (by rw [Nat.mul_comm]; exact hj)
  have hjm : j = j / c * c + j % c := by rw [Nat.mul_comm]; exact (Nat.div_add_mod j c).symm
  have hml := Nat.mod_lt j h0
  by_cases he : j / c = i
  · have hx : (l.set i y)[j / c]? = some y := by rw [he, List.getElem?_set_self hi]
    have h := cellsG_at hf (l.set i y) (j / c) (j % c) y hx hml
    rw [← hjm] at h
    rw [h, if_pos (by rw [← he]; omega)]
    congr 1
    rw [← he]
    omega
  · have hx : (l.set i y)[j / c]? = some (l[j / c]'hq) := by rw [List.getElem?_set_ne (fun h => he h.symm)]; exact List.getElem?_eq_getElem hq
    have h := cellsG_at hf (l.set i y) (j / c) (j % c) _ hx hml
    have h2 := cellsG_at hf l (j / c) (j % c) _ (List.getElem?_eq_getElem hq) hml
    rw [← hjm] at h h2
    rw [h, h2, if_neg]
    intro ⟨h3, h4⟩
    apply he
    refine Nat.div_eq_of_lt_le h3 ?_
    rw [Nat.add_mul, Nat.one_mul]
    exact h4
/-- The cells of an element of four cells written over. -/
theorem row_set4 {α : Type} {f : α → List Value} (hf : ∀ x, (f x).length = 4) {w : World} {B g n cap i : Nat} {e : TypeId} {l : List α} (h : w.ownsRow B e 4 (.slice (some ⟨g, 0, none⟩) n cap) l.length (cellsG f l)) (hi : i < l.length) (y : α) (y0 y1 y2 y3 : Value) (hy : f y = [y0, y1, y2, y3]) :
    ((((w.setCell ⟨g, i * 4, none⟩ y0).setCell ⟨g, i * 4 + 1, none⟩ y1).setCell ⟨g, i * 4 + 2, none⟩ y2).setCell ⟨g, i * 4 + 3, none⟩ y3).ownsRow B e 4 (.slice (some ⟨g, 0, none⟩) n cap) (l.set i y).length (cellsG f (l.set i y)) := by
  obtain ⟨g', cap', ys, e, hb, hn, hm, hys, ht, hk⟩ := ownS_blk h (by omega)
  injection e with e1 e2 e3
  injection e1 with e1
  injection e1 with e1 _ _
  subst e1 e2 e3
  have hk2 := (((hk.set (i * 4) y0).set (i * 4 + 1) y1).set (i * 4 + 2) y2).set (i * 4 + 3) y3
  have h2 := ownS_of_blk (B := B) (n := l.length) (c := 4) (cap := cap) hk2 hb (by simp [hys]) hn hm
  have e4 : ((((ys.set (i * 4) y0).set (i * 4 + 1) y1).set (i * 4 + 2) y2).set (i * 4 + 3) y3).take (l.length * 4) = cellsG f (l.set i y) := by
    apply List.ext_getElem?
    intro j
    by_cases hj : j < l.length * 4
    · rw [row_set_at hf l i y hi j hj, List.getElem?_take, if_pos hj, ← ht]
      have hjy : j < ys.length := by rw [hys]; have := Nat.mul_le_mul_right 4 hn; omega
      by_cases h0 : j = i * 4
      · subst h0
        rw [if_pos (by omega), List.getElem?_set_ne (by omega), List.getElem?_set_ne (by omega), List.getElem?_set_ne (by omega), List.getElem?_set_self hjy, hy]
        simp
      · by_cases h1 : j = i * 4 + 1
        · subst h1
          rw [if_pos (by omega), List.getElem?_set_ne (by omega), List.getElem?_set_ne (by omega), List.getElem?_set_self (by simpa using hjy), hy]
          simp
        · by_cases h2 : j = i * 4 + 2
          · subst h2
            rw [if_pos (by omega), List.getElem?_set_ne (by omega), List.getElem?_set_self (by simpa using hjy), hy]
            simp
          · by_cases h3 : j = i * 4 + 3
            · subst h3
              rw [if_pos (by omega), List.getElem?_set_self (by simpa using hjy), hy]
              simp
            · rw [if_neg (by omega), List.getElem?_set_ne (by omega), List.getElem?_set_ne (by omega), List.getElem?_set_ne (by omega), List.getElem?_set_ne (by omega), List.getElem?_take, if_pos hj]
    · rw [List.getElem?_eq_none (by simp; omega), List.getElem?_eq_none (by rw [cellsG_len hf]; simp; omega)]
  rw [List.length_set, ← e4]
  exact h2
set_option maxRecDepth 100000 in
/-- append(nil, x...), x a row of structs of any kind: new memory. -/
theorem run_copyG {α : Type} {c : Nat} {f : α → List Value} {P : Program} {t e : TypeId} {z : Value} {bytes : Nat} (hf : ∀ x, (f x).length = c) (hone : ∀ x, ∀ u ∈ f x, u.oneCell' = true) (ht : P.underlying t = some (.slice e)) (hinfo : (P.info? e).map (fun i => (i.zero, i.size, i.bytes)) = some (some z, c, bytes)) (hzs : z.cells.size = c) (hc : 0 < c)
    (w : World) (a : Option Addr) (n cap : Nat) (l : List α) (hn : l.length = n) (hr : GRow c f w a l) (hnil : a = none → cap = 0) (h63 : n ≤ maxLen) (hl : n * bytes ≤ 140737488355328) :
    ∃ v' w', (Builtin.append_ #[t, t] t #[.slice none 0 0, .slice a n cap]).run P w = .ok v' w' ∧ w'.ownsRow w.heap.size e c v' n (cellsG f l) ∧ Below w.heap.size w w' := by
  subst hn
  have hall : ∀ u ∈ cellsG f l, u.oneCell' = true := fun u hu => by
    simp only [cellsG, List.mem_flatMap] at hu
    obtain ⟨x, _, hx⟩ := hu
    exact hone x u hx
  obtain ⟨i0, hi, hz0, hz1, hz2⟩ := info_parts hinfo
  rcases hr with rfl | ⟨b, off, rfl, hb, hcl⟩
  · cases a with
    | none =>
      obtain rfl := hnil rfl
      exact ⟨_, w, run_append_owned_none (P := P) w w.heap.size t t e i0 c ht hi (.slice none 0 0) 0 [] (World.ownsRow_nil _ _ _ _), World.ownsRow_nil _ _ _ _, Below.refl _ _⟩
    | some x =>
      obtain ⟨v', w', hrun, h2, h3, h4, h5⟩ := run_append_own_at (P := P) w w.heap.size t t e i0 z c bytes ht hi hz0 hz1 hz2 hzs hc (.slice none 0 0) 0 [] (World.ownsRow_nil _ _ _ _) x 0 cap [] (by simp) (fun j u hj => by simp at hj) (fun u hu => by cases hu) (by unfold maxLen; omega) (by omega) (Nat.le_refl _)
      have hg := (Upd.refl (fun _ => False) w).grown h3 (fun k hk => by cases hk)
      simp only [List.append_nil, Nat.add_zero] at h2
      exact ⟨v', w', by simpa using hrun, by simpa [cellsG] using h2, hg.below w.heap.size (Nat.le_refl _) (fun k hk => hk.elim)⟩
  · have hcell : ∀ j u, (cellsG f l)[j]? = some u → w.cell? ((⟨b, off, none⟩ : Addr).add j) = some u := fun j u hj => by
      have hlt := (List.getElem?_eq_some_iff.1 hj).1
      rw [cellsG_len hf] at hlt
      have hi : j / c < l.length := Nat.div_lt_of_lt_mul (by rw [Nat.mul_comm]; exact hlt)
      have hx : l[j / c]? = some (l[j / c]'hi) := List.getElem?_eq_getElem hi
      have h1 := hcl (j / c) _ hx (j % c) (Nat.mod_lt _ hc)
      have h2 := cellsG_at hf l (j / c) (j % c) _ hx (Nat.mod_lt _ hc)
      have e : j / c * c + j % c = j := by rw [Nat.mul_comm]; exact Nat.div_add_mod j c
      rw [e] at h2
      rw [add_none, ← hj, h2, ← h1]
      congr 2
      omega
    obtain ⟨v', w', hrun, h2, h3, h4, h5⟩ := run_append_own_at (P := P) w w.heap.size t t e i0 z c bytes ht hi hz0 hz1 hz2 hzs hc (.slice none 0 0) 0 [] (World.ownsRow_nil _ _ _ _) ⟨b, off, none⟩ l.length cap (cellsG f l) (cellsG_len hf l) hcell hall (by omega) (by rw [Nat.zero_add]; exact hl) (Nat.le_refl _)
    rw [Nat.zero_add, List.nil_append] at h2
    have hg := (Upd.refl (fun _ => False) w).grown h3 (fun k hk => by cases hk)
    exact ⟨v', w', hrun, h2, hg.below _ (Nat.le_refl _) (fun k hk => hk.elim)⟩
/-! ### Parts of the call's own -/
theorem infoP : (Try.prog.info? 45).map (fun i => (i.zero, i.size, i.bytes)) = some (some (.agg #[.string ⟨#[]⟩, .int .i64 0, .int .i64 0]), 3, 32) := by kernel_rfl
def POwn (w : World) (B : Nat) (v : Value) (l : List Pt) : Prop := w.ownsRow B 45 3 v l.length (cellsG ptc l)
theorem ptc_one (p : Pt) : ∀ u ∈ ptc p, u.oneCell' = true := fun u hu => by
  simp [ptc] at hu
  rcases hu with rfl | rfl | rfl <;> rfl
theorem POwn.later {w w' : World} {B : Nat} {v : Value} {l : List Pt} (h : POwn w B v l) (hB : Below w.heap.size w w') : POwn w' B v l := ownS_upd h (Upd.of_below (S := fun _ => False) hB) (fun _ _ h => h)
/-- append(nil, parts...). -/
theorem copyP (w : World) (a : Option Addr) (cap : Nat) (l : List Pt) (hr : PRow w a l) (hnil : a = none → cap = 0) (hl : l.length ≤ 1000000) :
    ∃ v' w', (Builtin.append_ #[41, 41] 41 #[.slice none 0 0, .slice a l.length cap]).run Try.prog w = .ok v' w' ∧ POwn w' w.heap.size v' l ∧ Below w.heap.size w w' :=
  run_copyG (P := Try.prog) ptc_len ptc_one Try.underlying41 infoP rfl (by decide) w a l.length cap l rfl hr hnil (by unfold maxLen; omega) (by omega)
/-- append(v, part). -/
theorem POwn.push {w : World} {B : Nat} {v : Value} {l : List Pt} (h : POwn w B v l) (p : Pt) (hl : l.length ≤ 1000000) (hB : B ≤ w.heap.size) :
    ∃ g cap w', (Builtin.append_ #[41, 41] 41 #[v, .slice (some ⟨w.heap.size, 0, none⟩) 1 1]).run Try.prog (w.alloc (.cells #[.string p.label, .int .i64 p.tag, .int .i64 p.ty] 45)) = .ok (.slice (some ⟨g, 0, none⟩) (l.length + 1) cap) w' ∧ POwn w' B (.slice (some ⟨g, 0, none⟩) (l.length + 1) cap) (l ++ [p]) ∧ Below B w w' := by
  obtain ⟨g, cap, w', h1, h2, h3, h4⟩ := run_pushS (P := Try.prog) (t := 41) (e := 45) (c := 3) Try.underlying41 infoP rfl (by decide) w 41 h (ptc p) rfl (ptc_one p) (by unfold maxLen; omega) (by omega) hB
  refine ⟨g, cap, w', h1, ?_, h3.below B hB (fun k hk => (h.lt k hk).1)⟩
  unfold POwn
  rw [cellsG_app, cellsG_one, List.length_append, List.length_singleton]
  exact h2
/-- As a type's parts. -/
theorem POwn.ptIn {w : World} {B B' : Nat} {v : Value} {l : List Pt} (h : POwn w B v l) : PtIn w B' l v := by
  obtain ⟨a, cap, rfl, h1, h2, h3⟩ := own_grow ptc_len h
  refine ⟨a, cap, rfl, h1, h2, h3, .inr (fun x hx => ?_)⟩
  subst hx
  rcases h.2 with ⟨e, _⟩ | ⟨g, cap', cur, e, _⟩
  · cases e
  · injection e with e1 _ _
    injection e1 with e1
    subst e1
    obtain ⟨ys, hy⟩ := ownS_type h (k := g) rfl
    exact .inr ⟨ys, hy⟩
/-! ### A type written over in a list of the call's own -/
theorem TOwn.set4 {w : World} {B g n cap i : Nat} {Q : List (Ty × Value)} (h : TOwn w B (.slice (some ⟨g, 0, none⟩) n cap) Q) (hi : i < Q.length) (t : Ty) (u : Value) (ht : PtIn w B t.ps u) :
    TOwn ((((w.setCell ⟨g, i * 4, none⟩ (.int .i64 t.k)).setCell ⟨g, i * 4 + 1, none⟩ (.int .i64 t.n)).setCell ⟨g, i * 4 + 2, none⟩ (.int .i64 t.e)).setCell ⟨g, i * 4 + 3, none⟩ u) B (.slice (some ⟨g, 0, none⟩) n cap) (Q.set i (t, u)) ∧
    Upd (fun k => k = g) w ((((w.setCell ⟨g, i * 4, none⟩ (.int .i64 t.k)).setCell ⟨g, i * 4 + 1, none⟩ (.int .i64 t.n)).setCell ⟨g, i * 4 + 2, none⟩ (.int .i64 t.e)).setCell ⟨g, i * 4 + 3, none⟩ u) := by
  have hu : Upd (fun k => k = g) w ((((w.setCell ⟨g, i * 4, none⟩ (.int .i64 t.k)).setCell ⟨g, i * 4 + 1, none⟩ (.int .i64 t.n)).setCell ⟨g, i * 4 + 2, none⟩ (.int .i64 t.e)).setCell ⟨g, i * 4 + 3, none⟩ u) :=
    ((((Upd.refl (fun k => k = g) w).set ⟨g, i * 4, none⟩ (.int .i64 t.k) (.inl rfl)).set ⟨g, i * 4 + 1, none⟩ (.int .i64 t.n) (.inl rfl)).set ⟨g, i * 4 + 2, none⟩ (.int .i64 t.e) (.inl rfl)).set ⟨g, i * 4 + 3, none⟩ u (.inl rfl)
  obtain ⟨zs, hz⟩ := ownS_type h.1 (k := g) rfl
  have hg := (World.ownsRow.lt h.1 g rfl).1
  have hn : ∀ k ys, k = g → Blk w k 45 ys → False := fun k ys e hb => by
    subst e
    exact absurd (blk_type hz hb) (by decide)
  refine ⟨⟨row_set4 tyq_len h.1 hi (t, u) _ _ _ _ rfl, fun p hp => ?_⟩, hu⟩
  rcases List.mem_or_eq_of_mem_set hp with hp | rfl
  · exact (h.2 p hp).upd hu (fun k e => by omega) hn
  · exact ht.upd hu (fun k e => by omega) hn
theorem TOwn.at4 {w : World} {B g n cap i : Nat} {Q : List (Ty × Value)} {p : Ty × Value} (h : TOwn w B (.slice (some ⟨g, 0, none⟩) n cap) Q) (hx : Q[i]? = some p) : w.cell? ⟨g, i * 4, none⟩ = some (.int .i64 p.1.k) ∧ w.cell? ⟨g, i * 4 + 1, none⟩ = some (.int .i64 p.1.n) ∧ w.cell? ⟨g, i * 4 + 2, none⟩ = some (.int .i64 p.1.e) ∧ w.cell? ⟨g, i * 4 + 3, none⟩ = some p.2 := by
  obtain ⟨a, c, e, -, -, hr⟩ := own_grow tyq_len h.1
  injection e with e1 _ _
  subst e1
  obtain ⟨b, off, e2, -, hc⟩ := hr.open (by have := (List.getElem?_eq_some_iff.1 hx).1; omega)
  injection e2 with e2
  injection e2 with e3 e4 _
  subst e3 e4
  have h0 := hc i p hx 0 (by decide); have h1 := hc i p hx 1 (by decide); have h2 := hc i p hx 2 (by decide); have h3 := hc i p hx 3 (by decide)
  simp only [Nat.zero_add, Nat.add_zero] at h0 h1 h2 h3
  exact ⟨h0, h1, h2, h3⟩
theorem TOwn.fr {w : World} {B g n cap : Nat} {Q : List (Ty × Value)} (h : TOwn w B (.slice (some ⟨g, 0, none⟩) n cap) Q) (i : Nat) : w.frozen? ⟨g, i, none⟩ = false := by
  obtain ⟨ys, hy⟩ := ownS_type h.1 (k := g) rfl
  exact hy.frozen i
/-! ### Lists of types and roots: read, kept -/
theorem town_row {w : World} {B n cap : Nat} {a : Option Addr} {Q : List (Ty × Value)} {U : List Ty} (h : TOwn w B (.slice a n cap) Q) (hQ : Q.map (·.1) = U) : TRow w a U := by
  obtain ⟨a', cap', e, hr⟩ := h.row
  injection e with e1 _ _
  subst e1
  rw [hQ] at hr
  exact hr
theorem rown_row {w : World} {B n cap : Nat} {a : Option Addr} {l : List Rt} (h : ROwn w B (.slice a n cap) l) : RRow w a l := by
  obtain ⟨a', cap', e, -, -, hr⟩ := own_grow rtc_len h
  injection e with e1 _ _
  subst e1
  exact hr
theorem ROwn.later {w w' : World} {B : Nat} {v : Value} {l : List Rt} (h : ROwn w B v l) (hB : Below w.heap.size w w') : ROwn w' B v l := ownS_upd h (Upd.of_below (S := fun _ => False) hB) (fun _ _ h => h)
theorem ROwn.other {w : World} {B : Nat} {v : Value} {l : List Rt} (h : ROwn w B v l) {g : Nat} {t : TypeId} {ys : List Value} (hb : Blk w g t ys) (ht : t ≠ 73) (i : Nat) (u : Value) : ROwn (w.setCell ⟨g, i, none⟩ u) B v l :=
  ownS_upd h ((Upd.refl (fun k => k = g) w).set _ _ (.inl rfl)) (fun k hk e => by
    obtain ⟨zs, hz⟩ := ownS_type h hk
    subst e
    exact ht (blk_type hb hz))
theorem st2 {w : World} {B g : Nat} {v vR : Value} {Q : List (Ty × Value)} {l : List Rt} {x0 x1 : Value} (hT : TOwn w B v Q) (hR : ROwn w B vR l) (hK : Blk w g 31 [x0, x1]) (hg : B ≤ g) (y0 y1 : Value) : TOwn ((w.setCell ⟨g, 0, none⟩ y0).setCell ⟨g, 1, none⟩ y1) B v Q ∧ ROwn ((w.setCell ⟨g, 0, none⟩ y0).setCell ⟨g, 1, none⟩ y1) B vR l := by
  have k1 := hK.set 0 y0
  exact ⟨(hT.other hK hg (by decide) (by decide) 0 y0).other k1 hg (by decide) (by decide) 1 y1, (hR.other hK (by decide) 0 y0).other k1 (by decide) 1 y1⟩
theorem cutT_lens (T : List Ty) : LensT (cutT T) := ⟨by simp [cutT]; omega, fun t ht => by
  simp only [cutT, List.mem_map] at ht
  obtain ⟨u, -, rfl⟩ := ht
  rw [cut1_len]
  omega⟩
theorem TOwn.updN {w w' : World} {B : Nat} {v : Value} {Q : List (Ty × Value)} (h : TOwn w B v Q) {g : Nat} {t : TypeId} {ys : List Value} (hu : Upd (fun k => k = g) w w') (hb : Blk w g t ys) (hg : B ≤ g) (h1 : t ≠ 43) (h2 : t ≠ 45) : TOwn w' B v Q := by
  refine ⟨ownS_upd h.1 hu (fun k hk e => ?_), fun p hp => (h.2 p hp).upd hu (fun k e => by omega) (fun k zs e hz => ?_)⟩
  · obtain ⟨zs, hz⟩ := ownS_type h.1 hk
    subst e
    exact h1 (blk_type hb hz)
  · subst e
    exact h2 (blk_type hb hz)
theorem ROwn.updN {w w' : World} {B : Nat} {v : Value} {l : List Rt} (h : ROwn w B v l) {g : Nat} {t : TypeId} {ys : List Value} (hu : Upd (fun k => k = g) w w') (hb : Blk w g t ys) (h1 : t ≠ 73) : ROwn w' B v l :=
  ownS_upd h hu (fun k hk e => by
    obtain ⟨zs, hz⟩ := ownS_type h hk
    subst e
    exact h1 (blk_type hb hz))
/-! ### rest -/
theorem tmod_in (n m : Int) (hm : 0 < m) : -m < n.tmod m ∧ n.tmod m < m := by
  rcases Int.le_total 0 n with h | h
  · rw [Int.tmod_eq_emod_of_nonneg h]
    have h1 := Int.emod_nonneg n (show m ≠ 0 by omega)
    have h2 := Int.emod_lt_of_pos n hm
    omega
  · have e : n = -(-n) := by omega
    rw [e, Int.neg_tmod, Int.tmod_eq_emod_of_nonneg (by omega)]
    have h1 := Int.emod_nonneg (-n) (show m ≠ 0 by omega)
    have h2 := Int.emod_lt_of_pos (-n) hm
    omega
set_option maxRecDepth 100000 in
set_option maxHeartbeats 4000000 in
theorem rest_any (n m : Int) (w : World) (hm : 0 < m) (hm2 : m ≤ 1000000000000) : Calls Try.prog 9 #[.int .i64 n, .int .i64 m] w fun e w' => ∃ r : Int, e = .returned (.int .i64 r) ∧ 0 ≤ r ∧ r < m ∧ w = w' := by
  have hz : (m == 0) = false := by simp; omega
  obtain ⟨h1, h2⟩ := tmod_in n m hm
  generalize hq : n.tmod m = q at *
  have hr0 : 0 ≤ (q + m).tmod m := by rw [Int.tmod_eq_emod_of_nonneg (by omega)]; exact Int.emod_nonneg _ (by omega)
  have hr1 : (q + m).tmod m < m := (tmod_in _ m hm).2
  have HQ := hide_ hq
  generalize hs : (q + m).tmod m = r at *
  go_enter Try.func9, Try.ntmps9
  go_wp2
  go_ret
  exact ⟨r, by rfl, hr0, hr1, rfl⟩
end Go.Proofs.Ytpkghpfdibnhcaa
/- Lists lent with a mark behind them: what lies in memory. -/
namespace Go.Proofs.Ytpkghpfdibnhcaa
open Go.RowKit
set_option linter.unusedVariables false

set_option maxRecDepth 100000 in
/-- append(v, x...), x a row of structs of any kind, v a row of the call's own. -/
theorem run_appG {α : Type} {c : Nat} {f : α → List Value} {P : Program} {t e : TypeId} {z : Value} {bytes : Nat} (hf : ∀ x, (f x).length = c) (hone : ∀ x, ∀ u ∈ f x, u.oneCell' = true) (ht : P.underlying t = some (.slice e)) (hinfo : (P.info? e).map (fun i => (i.zero, i.size, i.bytes)) = some (some z, c, bytes)) (hzs : z.cells.size = c) (hc : 0 < c)
    (w : World) {B : Nat} {v : Value} {l : List α} (hown : w.ownsRow B e c v l.length (cellsG f l)) (b off cap : Nat) (r : List α) (hr : ∀ (i : Nat) (x : α), r[i]? = some x → ∀ j, j < c → w.cell? ⟨b, off + i * c + j, none⟩ = (f x)[j]?) (h63 : l.length + r.length ≤ maxLen) (hl : (l.length + r.length) * bytes ≤ 140737488355328) (hB : B ≤ w.heap.size) :
    ∃ v' w', (Builtin.append_ #[t, t] t #[v, .slice (some ⟨b, off, none⟩) r.length cap]).run P w = .ok v' w' ∧ w'.ownsRow B e c v' (l.length + r.length) (cellsG f (l ++ r)) ∧ Upd (fun k => v.ownBlock = some k) w w' ∧ (v'.ownBlock = v.ownBlock ∨ v'.ownBlock = some w.heap.size) := by
  have hall : ∀ u ∈ cellsG f r, u.oneCell' = true := fun u hu => by
    simp only [cellsG, List.mem_flatMap] at hu
    obtain ⟨x, _, hx⟩ := hu
    exact hone x u hx
  obtain ⟨i0, hi, hz0, hz1, hz2⟩ := info_parts hinfo
  have hcell : ∀ j u, (cellsG f r)[j]? = some u → w.cell? ((⟨b, off, none⟩ : Addr).add j) = some u := fun j u hj => by
    have hlt := (List.getElem?_eq_some_iff.1 hj).1
    rw [cellsG_len hf] at hlt
    have hi : j / c < r.length := Nat.div_lt_of_lt_mul (by rw [Nat.mul_comm]; exact hlt)
    have hx : r[j / c]? = some (r[j / c]'hi) := List.getElem?_eq_getElem hi
    have h1 := hr (j / c) _ hx (j % c) (Nat.mod_lt _ hc)
    have h2 := cellsG_at hf r (j / c) (j % c) _ hx (Nat.mod_lt _ hc)
    have e : j / c * c + j % c = j := by rw [Nat.mul_comm]; exact Nat.div_add_mod j c
    rw [e] at h2
    rw [add_none, ← hj, h2, ← h1]
    congr 2
    omega
  obtain ⟨v', w', hrun, h2, h3, h4, h5⟩ := run_append_own_at (P := P) w B t t e i0 z c bytes ht hi hz0 hz1 hz2 hzs hc v l.length (cellsG f l) hown ⟨b, off, none⟩ r.length cap (cellsG f r) (cellsG_len hf r) hcell hall h63 hl hB
  refine ⟨v', w', hrun, by rw [cellsG_app]; exact h2, (Upd.refl _ w).grown h3 (fun k hk => .inl hk), h5⟩
/-- append(v, x), x lies in a block of its own. -/
theorem run_app1 {α : Type} {c : Nat} {f : α → List Value} {P : Program} {t e : TypeId} {z : Value} {bytes : Nat} (hf : ∀ x, (f x).length = c) (hone : ∀ x, ∀ u ∈ f x, u.oneCell' = true) (ht : P.underlying t = some (.slice e)) (hinfo : (P.info? e).map (fun i => (i.zero, i.size, i.bytes)) = some (some z, c, bytes)) (hzs : z.cells.size = c) (hc : 0 < c)
    (w : World) {B : Nat} {v : Value} {l : List α} (hown : w.ownsRow B e c v l.length (cellsG f l)) (b : Nat) (x : α) (hb : Blk w b e (f x)) (h63 : l.length + 1 ≤ maxLen) (hl : (l.length + 1) * bytes ≤ 140737488355328) (hB : B ≤ w.heap.size) :
    ∃ g cap w', (Builtin.append_ #[t, t] t #[v, .slice (some ⟨b, 0, none⟩) 1 1]).run P w = .ok (.slice (some ⟨g, 0, none⟩) (l.length + 1) cap) w' ∧ w'.ownsRow B e c (.slice (some ⟨g, 0, none⟩) (l.length + 1) cap) (l ++ [x]).length (cellsG f (l ++ [x])) ∧ Upd (fun k => v.ownBlock = some k) w w' ∧ B ≤ g ∧ l.length + 1 ≤ cap ∧ (v.ownBlock = some g ∨ w.heap.size ≤ g) := by
  obtain ⟨v', w', h1, h2, h3, h4⟩ := run_appG (P := P) hf hone ht hinfo hzs hc w hown b 0 1 [x] (fun i y hy j hj => by
    have hi := (List.getElem?_eq_some_iff.1 hy).1
    obtain rfl : i = 0 := by simp at hi; omega
    simp at hy
    subst hy
    rw [hb.cell]
    congr 1
    omega) h63 hl hB
  have hlen : l.length + [x].length = (l ++ [x]).length := by simp
  rw [hlen] at h2
  obtain ⟨g, cap, ys, e1, hg, hn, -, -, -, -⟩ := ownS_blk h2 (by simp)
  rw [List.length_append, List.length_singleton] at e1 hn
  subst e1
  refine ⟨g, cap, w', h1, h2, h3, hg, hn, ?_⟩
  rcases h4 with h4 | h4
  · exact .inl (by rw [← h4]; rfl)
  · have : g = w.heap.size := own_is h4
    exact .inr (by omega)
theorem rtc_one1 (r : Rt) : ∀ u ∈ rtc r, u.oneCell' = true := fun u hu => by
  simp [rtc] at hu
  rcases hu with rfl | rfl <;> rfl
/-- A type's parts, of the call's own, with a mark behind them. -/
def MkIn (w : World) (B : Nat) (q : Pt) (ps : List Pt) (u : Value) : Prop := ∃ g c, u = .slice (some ⟨g, 0, none⟩) ps.length c ∧ ps.length + 1 ≤ c ∧ PRow w (some ⟨g, 0, none⟩) (ps ++ [q]) ∧ B ≤ g ∧ ∃ ys, Blk w g 45 ys
theorem MkIn.upd {w w' : World} {B : Nat} {q : Pt} {ps : List Pt} {u : Value} {S : Nat → Prop} (h : MkIn w B q ps u) (hu : Upd S w w') (hn : ∀ k ys, S k → Blk w k 45 ys → False) : MkIn w' B q ps u := by
  obtain ⟨g, c, e, h1, h2, h3, ys, h4⟩ := h
  have hg : ¬ S g := fun hS => hn g ys hS h4
  exact ⟨g, c, e, h1, h2.upd hu (fun x hx => by cases hx; exact hg), h3, ys, h4.upd hu hg⟩
theorem MkIn.later {w w' : World} {B : Nat} {q : Pt} {ps : List Pt} {u : Value} (h : MkIn w B q ps u) (hB : Below w.heap.size w w') : MkIn w' B q ps u := h.upd (Upd.of_below (S := fun _ => False) hB) (fun _ _ h => h.elim)
theorem MkIn.ptIn {w : World} {B : Nat} {q : Pt} {ps : List Pt} {u : Value} (h : MkIn w B q ps u) (B' : Nat) : PtIn w B' ps u := by
  obtain ⟨g, c, rfl, h1, h2, h3, ys, h4⟩ := h
  refine ⟨_, c, rfl, by omega, (fun h => by cases h), ?_, .inr (fun x hx => by cases hx; exact .inr ⟨ys, h4⟩)⟩
  have := h2.take ps.length
  rwa [List.take_left] at this
theorem POwn.mkIn {w : World} {B : Nat} {q : Pt} {ps : List Pt} {g c : Nat} (h : POwn w B (.slice (some ⟨g, 0, none⟩) (ps.length + 1) c) (ps ++ [q])) : MkIn w B q ps (.slice (some ⟨g, 0, none⟩) ps.length c) := by
  obtain ⟨a, c', e, h1, -, h3⟩ := own_grow ptc_len h
  injection e with e1 e2 e3
  subst e1 e3
  obtain ⟨ys, hy⟩ := ownS_type h (k := g) rfl
  exact ⟨g, c, rfl, by simpa using h1, h3, (World.ownsRow.lt h g rfl).1, ys, hy⟩
/-- A schema that is lent: its types with a mark behind, their parts with marks, its roots with a mark. -/
structure LtS (w : World) (B : Nat) (gT cT : Nat) (Q : List (Ty × Value)) (gR cR : Nat) (R : List Rt) (q : Pt) (tq : Ty) (rq : Rt) : Prop where
  ty : TOwn w B (.slice (some ⟨gT, 0, none⟩) (Q.length + 1) cT) (Q ++ [(tq, .slice none 0 0)])
  mks : ∀ p ∈ Q, MkIn w B q p.1.ps p.2
  rt : ROwn w B (.slice (some ⟨gR, 0, none⟩) (R.length + 1) cR) (R ++ [rq])
theorem LtS.later {w w' : World} {B gT cT gR cR : Nat} {Q : List (Ty × Value)} {R : List Rt} {q : Pt} {tq : Ty} {rq : Rt} (h : LtS w B gT cT Q gR cR R q tq rq) (hB : Below w.heap.size w w') : LtS w' B gT cT Q gR cR R q tq rq :=
  ⟨h.ty.later hB, fun p hp => (h.mks p hp).later hB, h.rt.later hB⟩
/-- A store into a block of another type. -/
theorem LtS.other {w : World} {B gT cT gR cR : Nat} {Q : List (Ty × Value)} {R : List Rt} {q : Pt} {tq : Ty} {rq : Rt} (h : LtS w B gT cT Q gR cR R q tq rq) {g : Nat} {t : TypeId} {ys : List Value} (hb : Blk w g t ys) (hg : B ≤ g) (h1 : t ≠ 43) (h2 : t ≠ 45) (h3 : t ≠ 73) (i : Nat) (u : Value) : LtS (w.setCell ⟨g, i, none⟩ u) B gT cT Q gR cR R q tq rq :=
  ⟨h.ty.other hb hg h1 h2 i u, fun p hp => (h.mks p hp).upd ((Upd.refl (fun k => k = g) w).set ⟨g, i, none⟩ u (.inl rfl)) (fun k zs e hz => by subst e; exact h2 (blk_type hb hz)), h.rt.other hb h3 i u⟩
theorem LtS.row {w : World} {B gT cT gR cR : Nat} {Q : List (Ty × Value)} {R : List Rt} {q : Pt} {tq : Ty} {rq : Rt} (h : LtS w B gT cT Q gR cR R q tq rq) : TRow w (some ⟨gT, 0, none⟩) (Q.map (·.1)) ∧ RRow w (some ⟨gR, 0, none⟩) R := by
  have h1 := town_row h.ty rfl
  have h2 := rown_row h.rt
  have h3 := h1.take Q.length
  have h4 := h2.take R.length
  have e3 : (Q.map (·.1)).length = Q.length := by simp
  rw [List.map_append, ← e3, List.take_left] at h3
  rw [List.take_left] at h4
  exact ⟨h3, h4⟩
theorem LtS.caps {w : World} {B gT cT gR cR : Nat} {Q : List (Ty × Value)} {R : List Rt} {q : Pt} {tq : Ty} {rq : Rt} (h : LtS w B gT cT Q gR cR R q tq rq) : Q.length + 1 ≤ cT ∧ R.length + 1 ≤ cR ∧ B ≤ gT ∧ B ≤ gR ∧ w.cell? ⟨gT, Q.length * 4, none⟩ = some (.int .i64 tq.k) ∧ w.cell? ⟨gR, R.length * 2 + 1, none⟩ = some (.int .i64 rq.ty) := by
  obtain ⟨_, _, e, h1, -, -⟩ := own_grow tyq_len h.ty.1
  injection e with _ e2 e3
  obtain ⟨a', _, e', h2, -, h3⟩ := own_grow rtc_len h.rt
  injection e' with e1 e2' e3'
  subst e1
  obtain ⟨b, off, e4, -, hc⟩ := h3.open (by simp)
  injection e4 with e4
  injection e4 with e5 e6 _
  have hk := (h.ty.at4 (i := Q.length) (p := (tq, .slice none 0 0)) (by simp)).1
  have hr := hc R.length rq (by simp) 1 (by decide)
  rw [← e5, ← e6] at hr
  simp only [Nat.zero_add] at hr
  refine ⟨by rw [e3]; simpa using h1, by rw [e3']; simpa using h2, (World.ownsRow.lt h.ty.1 gT rfl).1, (World.ownsRow.lt h.rt gR rfl).1, hk, hr⟩
end Go.Proofs.Ytpkghpfdibnhcaa
/- lent: a schema copied into lists with marks behind them. -/
namespace Go.Proofs.Ytpkghpfdibnhcaa
open Go.RowKit
set_option linter.unusedVariables false

def mkP : Pt := ⟨⟨#[]⟩, 23130, 0⟩
def mkT : Ty := ⟨23130, 0, 0, []⟩
def mkR : Rt := ⟨⟨#[]⟩, 23130⟩
/-- What lent answers. -/
def LentTo (w : World) (T : List Ty) (R : List Rt) (e : Ending) (w' : World) : Prop := ∃ gT cT Q gR cR, e = .returned (.agg #[.slice (some ⟨gT, 0, none⟩) T.length cT, .slice (some ⟨gR, 0, none⟩) R.length cR]) ∧ Hid (LtS w' w.heap.size gT cT Q gR cR R mkP mkT mkR) ∧ Hid (Q.map (·.1) = T) ∧ Hid (Below w.heap.size w w')
theorem ptO (w : World) (va : Option Addr) (vc : Nat) (ps : List Pt) (hP : PRow w va ps) (hvn : va = none → vc = 0) (hpl : ps.length ≤ 1000000) :
    ∃ v1 w1 g2 c2 w2, (Builtin.append_ #[41, 41] 41 #[.slice none 0 0, .slice va ps.length vc]).run Try.prog w = .ok v1 w1 ∧
      (Builtin.append_ #[41, 41] 41 #[v1, .slice (some ⟨w1.heap.size, 0, none⟩) 1 1]).run Try.prog (w1.alloc (.cells #[.string ⟨#[]⟩, .int .i64 23130, .int .i64 0] 45)) = .ok (.slice (some ⟨g2, 0, none⟩) (ps.length + 1) c2) w2 ∧
      MkIn w2 w.heap.size mkP ps (.slice (some ⟨g2, 0, none⟩) ps.length c2) ∧ Below w.heap.size w w1 ∧ Below w.heap.size w w2 ∧ ps.length + 1 ≤ c2 := by
  obtain ⟨v1, w1, h1, h2, h3⟩ := copyP w va vc ps hP hvn hpl
  have kb : Blk (w1.alloc (.cells #[.string ⟨#[]⟩, .int .i64 23130, .int .i64 0] 45)) w1.heap.size 45 (ptc mkP) := Blk.newA w1 _ _
  have ba := below1 w1 (.cells #[.string ⟨#[]⟩, .int .i64 23130, .int .i64 0] 45)
  obtain ⟨g2, c2, w2, k1, k2, k3, k4, k5, -⟩ := run_app1 (P := Try.prog) ptc_len ptc_one Try.underlying41 infoP rfl (by decide) _ (h2.later ba) w1.heap.size mkP kb (by unfold maxLen; omega) (by omega) (Nat.le_trans h3.size ba.size)
  have hb2 : Below w.heap.size w w2 := (below_to h3 ba).trans (k3.below _ (Nat.le_trans h3.size ba.size) (fun k hk => (World.ownsRow.lt h2 k hk).1))
  exact ⟨v1, w1, g2, c2, w2, h1, k1, POwn.mkIn (B := w.heap.size) (by rw [List.length_append, List.length_singleton] at k2; unfold POwn; rw [List.length_append, List.length_singleton]; exact k2), h3, hb2, k5⟩
/-- The other order: the mark is laid first. -/
theorem ptO2 (w : World) (va : Option Addr) (vc : Nat) (ps : List Pt) (hP : PRow w va ps) (hvn : va = none → vc = 0) (hpl : ps.length ≤ 1000000) :
    ∃ v1 w1 g2 c2 w2, (Builtin.append_ #[41, 41] 41 #[.slice none 0 0, .slice va ps.length vc]).run Try.prog (w.alloc (.cells #[.string ⟨#[]⟩, .int .i64 23130, .int .i64 0] 45)) = .ok v1 w1 ∧
      (Builtin.append_ #[41, 41] 41 #[v1, .slice (some ⟨w.heap.size, 0, none⟩) 1 1]).run Try.prog w1 = .ok (.slice (some ⟨g2, 0, none⟩) (ps.length + 1) c2) w2 ∧
      MkIn w2 w.heap.size mkP ps (.slice (some ⟨g2, 0, none⟩) ps.length c2) ∧ Below w.heap.size w w1 ∧ Below w.heap.size w w2 ∧ ps.length + 1 ≤ c2 := by
  have ba := below1 w (.cells #[.string ⟨#[]⟩, .int .i64 23130, .int .i64 0] 45)
  have kb : Blk (w.alloc (.cells #[.string ⟨#[]⟩, .int .i64 23130, .int .i64 0] 45)) w.heap.size 45 (ptc mkP) := Blk.newA w _ _
  obtain ⟨v1, w1, h1, h2, h3⟩ := copyP _ va vc ps (hP.later ba) hvn hpl
  have h2' : POwn w1 w.heap.size v1 ps := own_base h2 ba.size
  obtain ⟨g2, c2, w2, k1, k2, k3, k4, k5, -⟩ := run_app1 (P := Try.prog) ptc_len ptc_one Try.underlying41 infoP rfl (by decide) w1 h2' w.heap.size mkP (kb.later h3) (by unfold maxLen; omega) (by omega) (Nat.le_trans ba.size h3.size)
  have hb1 := below_to ba h3
  have hb2 : Below w.heap.size w w2 := hb1.trans (k3.below _ hb1.size (fun k hk => (World.ownsRow.lt h2' k hk).1))
  exact ⟨v1, w1, g2, c2, w2, h1, k1, POwn.mkIn (B := w.heap.size) (by rw [List.length_append, List.length_singleton] at k2; unfold POwn; rw [List.length_append, List.length_singleton]; exact k2), hb1, hb2, k5⟩
/-- Roots. -/
theorem rtO (w : World) (a : Option Addr) (c : Nat) (R : List Rt) (hR : RRow w a R) (hn : a = none → c = 0) (hl : R.length ≤ 1000000) :
    ∃ v1 w1 g2 c2 w2, (Builtin.append_ #[29, 29] 29 #[.slice none 0 0, .slice a R.length c]).run Try.prog w = .ok v1 w1 ∧
      (Builtin.append_ #[29, 29] 29 #[v1, .slice (some ⟨w1.heap.size, 0, none⟩) 1 1]).run Try.prog (w1.alloc (.cells #[.string ⟨#[]⟩, .int .i64 23130] 73)) = .ok (.slice (some ⟨g2, 0, none⟩) (R.length + 1) c2) w2 ∧
      ROwn w2 w.heap.size (.slice (some ⟨g2, 0, none⟩) (R.length + 1) c2) (R ++ [mkR]) ∧ Below w.heap.size w w1 ∧ Below w.heap.size w w2 ∧ R.length + 1 ≤ c2 := by
  obtain ⟨v1, w1, h1, h2, h3⟩ := run_copyG (P := Try.prog) rtc_len rtc_one1 Try.underlying29 infoR rfl (by decide) w a R.length c R rfl hR hn (by unfold maxLen; omega) (by omega)
  have h2r : ROwn w1 w.heap.size v1 R := h2
  have kb : Blk (w1.alloc (.cells #[.string ⟨#[]⟩, .int .i64 23130] 73)) w1.heap.size 73 (rtc mkR) := Blk.newA w1 _ _
  have ba := below1 w1 (.cells #[.string ⟨#[]⟩, .int .i64 23130] 73)
  obtain ⟨g2, c2, w2, k1, k2, k3, k4, k5, -⟩ := run_app1 (P := Try.prog) rtc_len rtc_one1 Try.underlying29 infoR rfl (by decide) _ (h2r.later ba) w1.heap.size mkR kb (by unfold maxLen; omega) (by omega) (Nat.le_trans h3.size ba.size)
  have hb2 : Below w.heap.size w w2 := (below_to h3 ba).trans (k3.below _ (Nat.le_trans h3.size ba.size) (fun k hk => (World.ownsRow.lt h2r k hk).1))
  exact ⟨v1, w1, g2, c2, w2, h1, k1, k2, h3, hb2, k5⟩
theorem rtO2 (w : World) (a : Option Addr) (c : Nat) (R : List Rt) (hR : RRow w a R) (hn : a = none → c = 0) (hl : R.length ≤ 1000000) :
    ∃ v1 w1 g2 c2 w2, (Builtin.append_ #[29, 29] 29 #[.slice none 0 0, .slice a R.length c]).run Try.prog (w.alloc (.cells #[.string ⟨#[]⟩, .int .i64 23130] 73)) = .ok v1 w1 ∧
      (Builtin.append_ #[29, 29] 29 #[v1, .slice (some ⟨w.heap.size, 0, none⟩) 1 1]).run Try.prog w1 = .ok (.slice (some ⟨g2, 0, none⟩) (R.length + 1) c2) w2 ∧
      ROwn w2 w.heap.size (.slice (some ⟨g2, 0, none⟩) (R.length + 1) c2) (R ++ [mkR]) ∧ Below w.heap.size w w1 ∧ Below w.heap.size w w2 ∧ R.length + 1 ≤ c2 := by
  have ba := below1 w (.cells #[.string ⟨#[]⟩, .int .i64 23130] 73)
  have kb : Blk (w.alloc (.cells #[.string ⟨#[]⟩, .int .i64 23130] 73)) w.heap.size 73 (rtc mkR) := Blk.newA w _ _
  obtain ⟨v1, w1, h1, h2, h3⟩ := run_copyG (P := Try.prog) rtc_len rtc_one1 Try.underlying29 infoR rfl (by decide) _ a R.length c R rfl (hR.later ba) hn (by unfold maxLen; omega) (by omega)
  have h2' : ROwn w1 w.heap.size v1 R := own_base h2 ba.size
  obtain ⟨g2, c2, w2, k1, k2, k3, k4, k5, -⟩ := run_app1 (P := Try.prog) rtc_len rtc_one1 Try.underlying29 infoR rfl (by decide) w1 h2' w.heap.size mkR (kb.later h3) (by unfold maxLen; omega) (by omega) (Nat.le_trans ba.size h3.size)
  have hb1 := below_to ba h3
  have hb2 : Below w.heap.size w w2 := hb1.trans (k3.below _ hb1.size (fun k hk => (World.ownsRow.lt h2' k hk).1))
  exact ⟨v1, w1, g2, c2, w2, h1, k1, k2, hb1, hb2, k5⟩
end Go.Proofs.Ytpkghpfdibnhcaa
/- lent: its walk. -/
namespace Go.Proofs.Ytpkghpfdibnhcaa
open Go.RowKit
set_option linter.unusedVariables false

set_option maxRecDepth 100000 in
set_option maxHeartbeats 8000000 in
theorem lent_any (aT : Option Addr) (cT : Nat) (T : List Ty) (aR : Option Addr) (cR : Nat) (R : List Rt) (w : World) (hn : T.length ≤ 100000000) (hm : R.length ≤ 1000000) (hnil : aR = none → cR = 0) (hl : Hid (∀ t ∈ T, t.ps.length ≤ 1000000)) (hT : Hid (TRow w aT T)) (hRr : Hid (RRow w aR R)) :
    Calls Try.prog 15 #[.agg #[.slice aT T.length cT, .slice aR R.length cR]] w fun e w' => LentTo w T R e w' := by
  obtain ⟨w1, hw1⟩ : ∃ wx, wx = w.alloc (.cells #[.slice aT T.length cT, .slice aR R.length cR] 31) := ⟨_, rfl⟩
  have b1 : Below w.heap.size w w1 := by rw [hw1]; exact below1 _ _
  have k1 : Blk w1 w.heap.size 31 [.slice aT T.length cT, .slice aR R.length cR] := by rw [hw1]; exact Blk.newA w _ _
  have s1 : w1.heap.size = w.heap.size + 1 := by rw [hw1]; simp
  obtain ⟨w2, hw2⟩ : ∃ wx, wx = w1.alloc (.cells #[.slice none 0 0, .slice none 0 0] 31) := ⟨_, rfl⟩
  have b2 : Below w1.heap.size w1 w2 := by rw [hw2]; exact below1 _ _
  have k2 : Blk w2 w1.heap.size 31 [.slice none 0 0, .slice none 0 0] := by rw [hw2]; exact Blk.newA w1 _ _
  have s2 : w2.heap.size = w.heap.size + 2 := by rw [hw2]; simp [s1]
  obtain ⟨w3, hw3⟩ : ∃ wx, wx = w2.alloc (.cells #[.slice none 0 0, .slice none 0 0] 31) := ⟨_, rfl⟩
  have b3 : Below w2.heap.size w2 w3 := by rw [hw3]; exact below1 _ _
  have k3 : Blk w3 w2.heap.size 31 [.slice none 0 0, .slice none 0 0] := by rw [hw3]; exact Blk.newA w2 _ _
  rw [s1] at k2
  rw [s2] at k3
  have HC0 : Hid (CuS w w w3 (.slice aT T.length cT) (.slice aR R.length cR) (.slice none 0 0) []) := hide_ ⟨(k1.later b2).later b3, k2.later b3, k3, ⟨World.ownsRow_nil _ _ _ _, fun p hp => by cases hp⟩, (fun k hk => by cases hk), below_to (below_to b1 b2) b3⟩
  clear b1 b2 b3 k1 k2 k3 s1 s2
  go_enter Try.func15, Try.ntmps15
  go_upto_region 2 with fail
  rw [← hw1, ← hw2, ← hw3]
  clear hw1 hw2 hw3
  go_wp2_with fail
  go_loopw [4] (fun x4 wr => ∃ (i : Nat) (v : Value) (Q : List (Ty × Value)), i ≤ T.length ∧ x4 = .int .i64 (i : Int) ∧ Hid (Q.map (·.1) = T.take i) ∧ Hid (∀ p ∈ Q, MkIn wr w.heap.size mkP p.1.ps p.2) ∧ Hid (CuS w w wr (.slice aT T.length cT) (.slice aR R.length cR) v Q)) (fun x4 _ => T.length - (intOf x4).toNat)
  case atStart => exact ⟨0, _, [], Nat.zero_le _, rfl, hide_ (by simp), hide_ (fun p hp => by cases hp), HC0⟩
  case round =>
    obtain ⟨i, v, Q, hi, rfl, HQ, HMk, HS⟩ := hrel
    clear HC0
    generalize wr = wq at *
    have i0 := HS.out.arg.cell 0
    simp at i0
    by_cases hlt : i < T.length
    · have hlt' : (i : Int) < T.length := by omega
      have hx : T[i]? = some (T[i]'hlt) := List.getElem?_eq_getElem hlt
      obtain ⟨bT, oT, rfl, hbT, hcT⟩ := hT.out.open (by omega)
      obtain ⟨va, vc, hty, hvc, hvn, hpr⟩ := hcT i _ hx
      have HX := hide_ hx
      have hpl := hl.out _ (List.mem_of_getElem? hx)
      generalize T[i]'hlt = t at *
      have hty' : ∀ j, j < 4 → wq.cell? ⟨bT, oT + i * 4 + j, none⟩ = (tyc t (.slice va t.ps.length vc))[j]? := fun j hj => (HS.out.bel.cell (p := ⟨bT, oT + i * 4 + j, none⟩) hbT).trans (hty j hj)
      have y0 := hty' 0 (by decide); have y1 := hty' 1 (by decide); have y2 := hty' 2 (by decide); have y3 := hty' 3 (by decide)
      simp [tyc] at y0 y1 y2 y3
      obtain ⟨av, cv, hav, -⟩ := HS.out.own.row
      rw [List.length_map] at hav
      subst hav
      obtain ⟨wa, hwa⟩ : ∃ wx, wx = wq.alloc (.cells #[.int .i64 t.k, .int .i64 t.n, .int .i64 t.e, .slice va t.ps.length vc] 43) := ⟨_, rfl⟩
      have ba : Below wq.heap.size wq wa := by rw [hwa]; exact below1 _ _
      have ka : Blk wa wq.heap.size 43 [.int .i64 t.k, .int .i64 t.n, .int .i64 t.e, .slice va t.ps.length vc] := by rw [hwa]; exact Blk.newA wq _ _
      have hz0 : w.heap.size ≤ wq.heap.size := HS.out.bel.size
      have hza : w.heap.size ≤ wa.heap.size := Nat.le_trans hz0 ba.size
      have hpa := hpr.later (below_to HS.out.bel ba)
      obtain ⟨Av, Aw, Ag, Ac, Aw2, A1, A2, Am, Ab1, Ab2, Acc⟩ := ptO wa.drew va vc t.ps (hpa.later ((Below.refl _ _).drew)) hvn hpl
      obtain ⟨Bv, Bw, Bg, Bc, Bw2, B1, B2, Bm, Bb1, Bb2, Bcc⟩ := ptO2 wa.drew va vc t.ps (hpa.later ((Below.refl _ _).drew)) hvn hpl
      have lowM : ∀ {w' : World} {u : Value}, MkIn w' wa.drew.heap.size mkP t.ps u → MkIn w' w.heap.size mkP t.ps u := fun h => by
        obtain ⟨g, c, e, h1, h2, h3, h4⟩ := h
        exact ⟨g, c, e, h1, h2, Nat.le_trans hza h3, h4⟩
      have Am := hide_ (lowM Am)
      have Bm := hide_ (lowM Bm)
      have Ab1 := hide_ (below_to ((Below.refl wa.heap.size wa).drew) Ab1)
      have Ab2 := hide_ (below_to ((Below.refl wa.heap.size wa).drew) Ab2)
      have Bb1 := hide_ (below_to ((Below.refl wa.heap.size wa).drew) Bb1)
      have Bb2 := hide_ (below_to ((Below.refl wa.heap.size wa).drew) Bb2)
      have A1 := hide_ A1
      have A2 := hide_ A2
      have B1 := hide_ B1
      have B2 := hide_ B2
      have hAc : (t.ps.length : Int) ≤ Ac := by omega
      have hBc : (t.ps.length : Int) ≤ Bc := by omega
      have KA := hide_ ka
      have HBA := hide_ ba
      have HSS : Hid (∀ w', Below wa.heap.size wa w' → Below wa.heap.size wa w' ∧ w'.cell? ⟨wq.heap.size, 3, none⟩ = some (.slice va t.ps.length vc)) := hide_ (fun w' hB' => ⟨hB', (KA.out.later hB').cell 3⟩)
      clear hty hty' hcT hx hpa hpr lowM ka ba Acc Bcc
      go_upto_region 6 with fail
      rw [← hwa]
      clear hwa i0 y0 y1 y2 y3
      go_cut [] from 18 to 28 (fun wc => ∃ (g c : Nat) (wz : World), wz = wc ∧ Hid (Blk wz wq.heap.size 43 [.int .i64 t.k, .int .i64 t.n, .int .i64 t.e, .slice (some ⟨g, 0, none⟩) t.ps.length c]) ∧ Hid (MkIn wz w.heap.size mkP t.ps (.slice (some ⟨g, 0, none⟩) t.ps.length c)) ∧ Hid (Below wq.heap.size wq wz))
      case first =>
        refine wp_region_last 11 (fun w' => Below wa.heap.size wa w' ∧ w'.cell? ⟨wq.heap.size, 3, none⟩ = some (.slice va t.ps.length vc)) (by kernel_rfl) (HSS.out _ ((Below.refl _ _).drew)) (fun hHeld => ?_)
        refine wpAnyF_take [11] (by kernel_rfl) (i := 0) (v := ?vp1) rfl (by kernel_rfl) (by kernel_rfl) (by kernel_rfl) (fun _ _ _ h => h) (Or.inl ⟨by rfl, ?hyp1⟩) hHeld ?restp1
        case hyp1 => intro w' hSw; (try dsimp only at hSw); go_simp; try with_reducible rfl
        simp only [Act.put]
        refine wpAnyF_take [11] (by kernel_rfl) (i := 1) (v := ?vp2) rfl (by kernel_rfl) (by kernel_rfl) (by kernel_rfl) (fun _ _ _ h => h) (Or.inl ⟨by rfl, ?hyp2⟩) hHeld ?restp2
        case hyp2 => intro w' hSw; (try dsimp only at hSw); go_simp; try with_reducible rfl
        simp only [Act.put]
        refine wpAnyF_take [11] (by kernel_rfl) (i := 3) (v := ?vp3) rfl (by kernel_rfl) (by kernel_rfl) (by kernel_rfl) (fun _ _ _ h => h) (Or.inl ⟨by rfl, ?hyp3⟩) hHeld ?restp3
        case hyp3 => intro w' hSw; (try dsimp only at hSw); go_simp; try with_reducible rfl
        simp only [Act.put]
        refine wpAnyF_take [11] (by kernel_rfl) (i := 6) (v := ?vp4) rfl (by kernel_rfl) (by kernel_rfl) (by kernel_rfl) (fun _ _ _ h => h) (Or.inl ⟨by rfl, ?hyp4⟩) hHeld ?restp4
        case hyp4 => intro w' hSw; (try dsimp only at hSw); go_simp; try with_reducible rfl
        simp only [Act.put]
        refine wpAnyF_take [11] (by kernel_rfl) (i := 7) (v := ?vp5) rfl (by kernel_rfl) (by kernel_rfl) (by kernel_rfl) (fun _ _ _ h => h) (Or.inl ⟨by rfl, ?hyp5⟩) hHeld ?restp5
        case hyp5 => intro w' hSw; (try dsimp only at hSw); go_simp; try with_reducible rfl
        simp only [Act.put]
        refine wpAnyF_take [11] (by kernel_rfl) (i := 8) (v := ?vp6) rfl (by kernel_rfl) (by kernel_rfl) (by kernel_rfl) (fun _ _ _ h => h) (Or.inl ⟨by rfl, ?hyp6⟩) hHeld ?restp6
        case hyp6 => intro w' hSw; (try dsimp only at hSw); go_simp; try with_reducible rfl
        simp only [Act.put]
        refine wpAnyF_ready (rs := [2, 4]) (by kernel_rfl) (by simp) ?_
        refine AllReadyF.cons rfl (fun K hK => ?_) ?_
        · refine step_append_run rfl (.const (.slice none 0 0)) (.tmp 19) 41 41 rfl rfl rfl A1.out ?_
          refine hK.out _ _ (HSS.out _ Ab1.out) (fun hHeld => ?_)
          clear hK K
          refine wpAnyF_ready (rs := [4]) (by kernel_rfl) (by simp) ?_
          refine AllReadyF.cons rfl (fun K hK => ?_) AllReadyF.nil
          go_simp
          refine hK.out _ _ (HSS.out _ (below_to Ab1.out (below1 _ _))) (fun hHeld => ?_)
          clear hK K
          refine wpAnyF_ready (rs := [5]) (by kernel_rfl) (by simp) ?_
          refine AllReadyF.cons rfl (fun K hK => ?_) AllReadyF.nil
          refine step_append_run rfl (.tmp 20) (.tmp 22) 41 41 rfl rfl rfl A2.out ?_
          refine hK.out _ _ (HSS.out _ Ab2.out) (fun hHeld => ?_)
          clear hK K
          refine wpAnyF_take [11] (by kernel_rfl) (i := 9) (v := ?vp7) rfl (by kernel_rfl) (by kernel_rfl) (by kernel_rfl) (fun _ _ _ h => h) (Or.inl ⟨by rfl, ?hyp7⟩) hHeld ?restp7
          case hyp7 => intro w' hSw; (try dsimp only at hSw); go_simp; try with_reducible rfl
          simp only [Act.put]
          refine wpAnyF_take [11] (by kernel_rfl) (i := 10) (v := ?vp8) rfl (by kernel_rfl) (by kernel_rfl) (by kernel_rfl) (fun _ _ _ h => h) (Or.inl ⟨by rfl, ?hyp8⟩) hHeld ?restp8
          case hyp8 => intro w' hSw; (try dsimp only at hSw); go_simp; try with_reducible rfl
          simp only [Act.put]
          refine wpAnyF_ready (rs := [11]) (by kernel_rfl) (by simp) ?_
          refine AllReadyF.last rfl (fun K hK => ?_)
          have kz := KA.out.later Ab2.out
          have l3 := kz.cell 3
          have lf := kz.frozen 3
          simp at l3
          have HKz : Hid (Blk _ wq.heap.size 43 [.int .i64 t.k, .int .i64 t.n, .int .i64 t.e, .slice (some ⟨Ag, 0, none⟩) t.ps.length Ac]) := hide_ (by have h := kz.set 3 (.slice (some ⟨Ag, 0, none⟩) t.ps.length Ac); simpa using h)
          have HBz := hide_ (below_set (below_to HBA.out Ab2.out) wq.heap.size 3 (.slice (some ⟨Ag, 0, none⟩) t.ps.length Ac) (Nat.le_refl _))
          have HMz : Hid (MkIn _ w.heap.size mkP t.ps (.slice (some ⟨Ag, 0, none⟩) t.ps.length Ac)) := hide_ (Am.out.upd ((Upd.refl (fun k => k = wq.heap.size) _).set ⟨wq.heap.size, 3, none⟩ (.slice (some ⟨Ag, 0, none⟩) t.ps.length Ac) (.inl rfl)) (fun k ys e hb => by subst e; exact absurd (blk_type kz hb) (by decide)))
          clear kz
          go_simp
          refine hK.out _ _ ?_
          clear hK K
          refine wpAnyF_done (by kernel_rfl) ?_ _
          go_wp2_with fail
          go_meet
          case rel => exact ⟨Ag, Ac, _, rfl, HKz, HMz, HBz⟩
        refine AllReadyF.cons rfl (fun K hK => ?_) AllReadyF.nil
        go_simp
        refine hK.out _ _ (HSS.out _ (below_to ((Below.refl _ _).drew) (below1 _ _))) (fun hHeld => ?_)
        clear hK K
        refine wpAnyF_ready (rs := [2]) (by kernel_rfl) (by simp) ?_
        refine AllReadyF.cons rfl (fun K hK => ?_) AllReadyF.nil
        refine step_append_run rfl (.const (.slice none 0 0)) (.tmp 19) 41 41 rfl rfl rfl B1.out ?_
        refine hK.out _ _ (HSS.out _ Bb1.out) (fun hHeld => ?_)
        clear hK K
        refine wpAnyF_ready (rs := [5]) (by kernel_rfl) (by simp) ?_
        refine AllReadyF.cons rfl (fun K hK => ?_) AllReadyF.nil
        refine step_append_run rfl (.tmp 20) (.tmp 22) 41 41 rfl rfl rfl B2.out ?_
        refine hK.out _ _ (HSS.out _ Bb2.out) (fun hHeld => ?_)
        clear hK K
        refine wpAnyF_take [11] (by kernel_rfl) (i := 9) (v := ?vp9) rfl (by kernel_rfl) (by kernel_rfl) (by kernel_rfl) (fun _ _ _ h => h) (Or.inl ⟨by rfl, ?hyp9⟩) hHeld ?restp9
        case hyp9 => intro w' hSw; (try dsimp only at hSw); go_simp; try with_reducible rfl
        simp only [Act.put]
        refine wpAnyF_take [11] (by kernel_rfl) (i := 10) (v := ?vp10) rfl (by kernel_rfl) (by kernel_rfl) (by kernel_rfl) (fun _ _ _ h => h) (Or.inl ⟨by rfl, ?hyp10⟩) hHeld ?restp10
        case hyp10 => intro w' hSw; (try dsimp only at hSw); go_simp; try with_reducible rfl
        simp only [Act.put]
        refine wpAnyF_ready (rs := [11]) (by kernel_rfl) (by simp) ?_
        refine AllReadyF.last rfl (fun K hK => ?_)
        have kz := KA.out.later Bb2.out
        have l3 := kz.cell 3
        have lf := kz.frozen 3
        simp at l3
        have HKz : Hid (Blk _ wq.heap.size 43 [.int .i64 t.k, .int .i64 t.n, .int .i64 t.e, .slice (some ⟨Bg, 0, none⟩) t.ps.length Bc]) := hide_ (by have h := kz.set 3 (.slice (some ⟨Bg, 0, none⟩) t.ps.length Bc); simpa using h)
        have HBz := hide_ (below_set (below_to HBA.out Bb2.out) wq.heap.size 3 (.slice (some ⟨Bg, 0, none⟩) t.ps.length Bc) (Nat.le_refl _))
        have HMz : Hid (MkIn _ w.heap.size mkP t.ps (.slice (some ⟨Bg, 0, none⟩) t.ps.length Bc)) := hide_ (Bm.out.upd ((Upd.refl (fun k => k = wq.heap.size) _).set ⟨wq.heap.size, 3, none⟩ (.slice (some ⟨Bg, 0, none⟩) t.ps.length Bc) (.inl rfl)) (fun k ys e hb => by subst e; exact absurd (blk_type kz hb) (by decide)))
        clear kz
        go_simp
        refine hK.out _ _ ?_
        clear hK K
        refine wpAnyF_done (by kernel_rfl) ?_ _
        go_wp2_with fail
        go_meet
        case rel => exact ⟨Bg, Bc, _, rfl, HKz, HMz, HBz⟩
      case rest =>
        obtain ⟨g, c, wz, rfl, KZ, HMz, HBz⟩ := hcut
        clear A1 A2 B1 B2 Am Bm Ab1 Ab2 Bb1 Bb2 hAc hBc HSS KA HBA
        have HCb := hide_ (CuS.mk (w0 := w) (w := w) (wr := wz) (a := .slice (some ⟨bT, oT, none⟩) T.length cT) (b := .slice aR R.length cR) (v := .slice av Q.length cv) (Q := Q) (HS.out.arg.later HBz.out) (HS.out.res.later HBz.out) (HS.out.out.later HBz.out) (HS.out.own.later HBz.out) HS.out.low (below_to HS.out.bel HBz.out))
        obtain ⟨g8, c8, w8, hrun, hO8, hU8, hL8⟩ := HCb.out.own.push2 t (.slice (some ⟨g, 0, none⟩) t.ps.length c) rfl (HMz.out.ptIn _) (by have := congrArg List.length HQ.out; simp at this; omega) HCb.out.bel.size
        have HR := hide_ hrun
        have HO8 := hide_ hO8
        have nb : ∀ k t' ys, Blk wz k t' ys → t' ≠ 43 → ¬ (Value.slice av Q.length cv).ownBlock = some k := fun k t' ys hb ht e => by
          obtain ⟨zs, hz⟩ := ownS_type HCb.out.own.1 e
          exact ht (blk_type hb hz)
        have o8 := HCb.out.out.upd hU8 (nb _ _ _ HCb.out.out (by decide))
        have a8 := HCb.out.arg.upd hU8 (nb _ _ _ HCb.out.arg (by decide))
        have r8 := HCb.out.res.upd hU8 (nb _ _ _ HCb.out.res (by decide))
        have hB8 : Below w.heap.size w w8 := HCb.out.bel.trans (hU8.below _ HCb.out.bel.size (fun k hk => HCb.out.low k hk))
        have hpn : ∀ k ys, (Value.slice av Q.length cv).ownBlock = some k → Blk wz k 45 ys → False := fun k ys hk hb => nb k _ ys hb (by decide) hk
        have hmk8 : ∀ p ∈ Q ++ [(t, Value.slice (some ⟨g, 0, none⟩) t.ps.length c)], MkIn w8 w.heap.size mkP p.1.ps p.2 := fun p hp => by
          rcases List.mem_append.1 hp with hp | hp
          · exact ((HMk.out p hp).later HBz.out).upd hU8 hpn
          · simp at hp
            subst hp
            exact HMz.out.upd hU8 hpn
        have HMn : Hid (∀ p ∈ Q ++ [(t, Value.slice (some ⟨g, 0, none⟩) t.ps.length c)], MkIn (w8.setCell ⟨w.heap.size + 2, 0, none⟩ (.slice (some ⟨g8, 0, none⟩) (Q.length + 1) c8)) w.heap.size mkP p.1.ps p.2) := hide_ (fun p hp => (hmk8 p hp).upd ((Upd.refl (fun k => k = w.heap.size + 2) _).set ⟨w.heap.size + 2, 0, none⟩ (.slice (some ⟨g8, 0, none⟩) (Q.length + 1) c8) (.inl rfl)) (fun k ys e hb => by subst e; exact absurd (blk_type o8 hb) (by decide)))
        have HSn : Hid (CuS w w (w8.setCell ⟨w.heap.size + 2, 0, none⟩ (.slice (some ⟨g8, 0, none⟩) (Q.length + 1) c8)) (.slice (some ⟨bT, oT, none⟩) T.length cT) (.slice aR R.length cR) (.slice (some ⟨g8, 0, none⟩) (Q.length + 1) c8) (Q ++ [(t, .slice (some ⟨g, 0, none⟩) t.ps.length c)])) := hide_ ⟨a8.other _ _ (by show w.heap.size ≠ w.heap.size + 2; omega), r8.other _ _ (by show w.heap.size + 1 ≠ w.heap.size + 2; omega), by have h := o8.set 0 (.slice (some ⟨g8, 0, none⟩) (Q.length + 1) c8); simpa using h, HO8.out.other o8 (by omega) (by decide) (by decide) 0 _, (fun k hk => by have e := own_is hk; exact hL8.elim (fun h => by rw [← e]; exact HCb.out.low _ h) (fun h => by have := HCb.out.bel.size; omega)), below_set hB8 _ _ _ (by omega)⟩
        have q0 := KZ.out.cell 0; have q1 := KZ.out.cell 1; have q2 := KZ.out.cell 2; have q3 := KZ.out.cell 3
        have z0 := HCb.out.out.cell 0
        have z8 := o8.cell 0
        have f8 := o8.frozen 0
        simp at q0 q1 q2 q3 z0 z8
        have HQn : Hid ((Q ++ [(t, Value.slice (some ⟨g, 0, none⟩) t.ps.length c)]).map (·.1) = T.take (i + 1)) := hide_ (by
          have hi := (List.getElem?_eq_some_iff.1 HX.out).1
          rw [List.take_succ_eq_append_getElem hi, (List.getElem?_eq_some_iff.1 HX.out).2, List.map_append, HQ.out]
          rfl)
        clear hrun hO8 hU8 hL8 nb o8 a8 r8 hB8 hpn hmk8 HMk HQ
        go_wp2_with (at_builtin; refine wpList_append_run rfl (.tmp 30) (.tmp 32) 28 28 rfl rfl rfl HR.out ?_)
        go_roundw
        case rel => exact ⟨i + 1, _, _, by omega, by go_num, HQn, HMn, HSn⟩
        case measure => simp [intOf]; omega
    · have hlt' : ¬ (i : Int) < T.length := by omega
      have HQe : Hid (Q.map (·.1) = T) := hide_ (by rw [HQ.out, List.take_of_length_le (by omega)])
      have hql : Q.length = T.length := by have := congrArg List.length HQe.out; simpa using this
      obtain ⟨av, cv, hav, -⟩ := HS.out.own.row
      rw [List.length_map] at hav
      subst hav
      have HA0 := hide_ HS.out.arg
      have HO0 := hide_ HS.out.out
      have hz0 : w.heap.size ≤ wq.heap.size := HS.out.bel.size
      have ownd : TOwn wq.drew w.heap.size (.slice av Q.length cv) Q := HS.out.own.later ((Below.refl _ _).drew)
      obtain ⟨g8, c8, w8, hrun, hO8, hU8, hL8⟩ := ownd.push2 mkT (.slice none 0 0) rfl ⟨none, 0, rfl, Nat.le_refl _, fun _ => rfl, .inl rfl, .inl rfl⟩ (by omega) hz0
      have hc8 : Q.length + 1 ≤ c8 := by
        obtain ⟨_, _, e, h1, -, -⟩ := own_grow tyq_len hO8.1
        injection e with _ _ e3
        rw [e3]
        simpa using h1
      have hc8' : (T.length : Int) ≤ c8 := by omega
      simp only [mkT] at hrun
      have HR8 := hide_ hrun
      have hUq : Upd (fun k => (Value.slice av Q.length cv).ownBlock = some k) wq w8 := ⟨hU8.os, hU8.tape, hU8.output, hU8.size, hU8.block⟩
      have nb : ∀ k t' ys, Blk wq k t' ys → t' ≠ 43 → ¬ (Value.slice av Q.length cv).ownBlock = some k := fun k t' ys hb ht e => by
        obtain ⟨zs, hz⟩ := ownS_type HS.out.own.1 e
        exact ht (blk_type hb hz)
      have o8 := HS.out.out.upd hUq (nb _ _ _ HS.out.out (by decide))
      have a8 := HS.out.arg.upd hUq (nb _ _ _ HS.out.arg (by decide))
      have r8 := HS.out.res.upd hUq (nb _ _ _ HS.out.res (by decide))
      have hB8 : Below w.heap.size w w8 := HS.out.bel.trans (hUq.below _ HS.out.bel.size (fun k hk => HS.out.low k hk))
      have hmk8 : ∀ p ∈ Q, MkIn w8 w.heap.size mkP p.1.ps p.2 := fun p hp => (HMk.out p hp).upd hUq (fun k ys hk hb => nb k _ ys hb (by decide) hk)
      obtain ⟨wz, hwz⟩ : ∃ wx, wx = w8.setCell ⟨w.heap.size + 2, 0, none⟩ (.slice (some ⟨g8, 0, none⟩) T.length c8) := ⟨_, rfl⟩
      have HTz : Hid (TOwn wz w.heap.size (.slice (some ⟨g8, 0, none⟩) (Q.length + 1) c8) (Q ++ [(mkT, .slice none 0 0)])) := hide_ (by rw [hwz]; exact hO8.other o8 (by omega) (by decide) (by decide) 0 _)
      have HMz : Hid (∀ p ∈ Q, MkIn wz w.heap.size mkP p.1.ps p.2) := hide_ (fun p hp => by
        rw [hwz]
        exact (hmk8 p hp).upd ((Upd.refl (fun k => k = w.heap.size + 2) _).set ⟨w.heap.size + 2, 0, none⟩ (.slice (some ⟨g8, 0, none⟩) T.length c8) (.inl rfl)) (fun k ys e hb => by subst e; exact absurd (blk_type o8 hb) (by decide)))
      have KO : Hid (Blk wz (w.heap.size + 2) 31 [.slice (some ⟨g8, 0, none⟩) T.length c8, .slice none 0 0]) := hide_ (by rw [hwz]; have h := o8.set 0 (.slice (some ⟨g8, 0, none⟩) T.length c8); simpa using h)
      have KAr : Hid (Blk wz w.heap.size 31 [.slice aT T.length cT, .slice aR R.length cR]) := hide_ (by rw [hwz]; exact a8.other _ _ (by show w.heap.size ≠ w.heap.size + 2; omega))
      have KRs : Hid (Blk wz (w.heap.size + 1) 31 [.slice none 0 0, .slice none 0 0]) := hide_ (by rw [hwz]; exact r8.other _ _ (by show w.heap.size + 1 ≠ w.heap.size + 2; omega))
      have HBz : Hid (Below w.heap.size w wz) := hide_ (by rw [hwz]; exact below_set hB8 _ _ _ (by omega))
      have l0 := o8.cell 0
      have lf := o8.frozen 0
      simp at l0
      clear hrun hO8 hL8 hU8 hUq nb r8 hB8 hmk8 ownd hql hc8
      go_upto_region 8 with fail
      refine wp_region_last 10 (fun w' => w'.cell? ⟨w.heap.size + 2, 0, none⟩ = some (.slice av Q.length cv) ∧ w'.cell? ⟨w.heap.size, 0, none⟩ = some (.slice aT T.length cT)) (by kernel_rfl) (⟨HO0.out.cell 0, HA0.out.cell 0⟩) (fun hHeld => ?_)
      refine wpAnyF_take [10] (by kernel_rfl) (i := 0) (v := ?vy1) rfl (by kernel_rfl) (by kernel_rfl) (by kernel_rfl) (fun _ _ _ h => h) (Or.inl ⟨by rfl, ?hyy1⟩) hHeld ?resty1
      case hyy1 => intro w' hSw; (try dsimp only at hSw); go_simp; try with_reducible rfl
      simp only [Act.put]
      refine wpAnyF_take [10] (by kernel_rfl) (i := 1) (v := ?vy2) rfl (by kernel_rfl) (by kernel_rfl) (by kernel_rfl) (fun _ _ _ h => h) (Or.inl ⟨by rfl, ?hyy2⟩) hHeld ?resty2
      case hyy2 => intro w' hSw; (try dsimp only at hSw); go_simp; try with_reducible rfl
      simp only [Act.put]
      refine wpAnyF_take [10] (by kernel_rfl) (i := 2) (v := ?vy3) rfl (by kernel_rfl) (by kernel_rfl) (by kernel_rfl) (fun _ _ _ h => h) (Or.inl ⟨by rfl, ?hyy3⟩) hHeld ?resty3
      case hyy3 => intro w' hSw; (try dsimp only at hSw); go_simp; try with_reducible rfl
      simp only [Act.put]
      refine wpAnyF_take [10] (by kernel_rfl) (i := 5) (v := ?vy4) rfl (by kernel_rfl) (by kernel_rfl) (by kernel_rfl) (fun _ _ _ h => h) (Or.inl ⟨by rfl, ?hyy4⟩) hHeld ?resty4
      case hyy4 => intro w' hSw; (try dsimp only at hSw); go_simp; try with_reducible rfl
      simp only [Act.put]
      refine wpAnyF_take [10] (by kernel_rfl) (i := 6) (v := ?vy5) rfl (by kernel_rfl) (by kernel_rfl) (by kernel_rfl) (fun _ _ _ h => h) (Or.inl ⟨by rfl, ?hyy5⟩) hHeld ?resty5
      case hyy5 => intro w' hSw; (try dsimp only at hSw); go_simp; try with_reducible rfl
      simp only [Act.put]
      refine wpAnyF_take [10] (by kernel_rfl) (i := 7) (v := ?vy6) rfl (by kernel_rfl) (by kernel_rfl) (by kernel_rfl) (fun _ _ _ h => h) (Or.inl ⟨by rfl, ?hyy6⟩) hHeld ?resty6
      case hyy6 => intro w' hSw; (try dsimp only at hSw); go_simp; try with_reducible rfl
      simp only [Act.put]
      refine wpAnyF_ready (rs := [3]) (by kernel_rfl) (by simp) ?_
      refine AllReadyF.cons rfl (fun K hK => ?_) AllReadyF.nil
      go_simp
      refine hK.out _ _ (⟨(HO0.out.later (below1 _ _)).cell 0, (HA0.out.later (below1 _ _)).cell 0⟩) (fun hHeld => ?_)
      clear hK K
      refine wpAnyF_ready (rs := [4]) (by kernel_rfl) (by simp) ?_
      refine AllReadyF.cons rfl (fun K hK => ?_) AllReadyF.nil
      refine step_append_run rfl (.tmp 36) (.tmp 38) 28 28 rfl rfl rfl HR8.out ?_
      refine hK.out _ _ (⟨o8.cell 0, a8.cell 0⟩) (fun hHeld => ?_)
      clear hK K
      refine wpAnyF_take [10] (by kernel_rfl) (i := 8) (v := ?vy7) rfl (by kernel_rfl) (by kernel_rfl) (by kernel_rfl) (fun _ _ _ h => h) (Or.inl ⟨by rfl, ?hyy7⟩) hHeld ?resty7
      case hyy7 => intro w' hSw; (try dsimp only at hSw); go_simp; try with_reducible rfl
      simp only [Act.put]
      refine wpAnyF_take [10] (by kernel_rfl) (i := 9) (v := ?vy8) rfl (by kernel_rfl) (by kernel_rfl) (by kernel_rfl) (fun _ _ _ h => h) (Or.inl ⟨by rfl, ?hyy8⟩) hHeld ?resty8
      case hyy8 => intro w' hSw; (try dsimp only at hSw); go_simp; try with_reducible rfl
      simp only [Act.put]
      refine wpAnyF_ready (rs := [10]) (by kernel_rfl) (by simp) ?_
      refine AllReadyF.last rfl (fun K hK => ?_)
      go_simp
      refine hK.out _ _ ?_
      clear hK K
      refine wpAnyF_done (by kernel_rfl) ?_ _
      have hza : w.heap.size ≤ wz.heap.size := HBz.out.size
      have hrz := hRr.out.later HBz.out
      obtain ⟨Av, Aw, Ag, Ac, Aw2, A1, A2, Am, Ab1, Ab2, Acc⟩ := rtO wz.drew aR cR R (hrz.later ((Below.refl _ _).drew)) hnil hm
      obtain ⟨Bv, Bw, Bg, Bc, Bw2, B1, B2, Bm, Bb1, Bb2, Bcc⟩ := rtO2 wz.drew aR cR R (hrz.later ((Below.refl _ _).drew)) hnil hm
      have Am : Hid (ROwn Aw2 w.heap.size _ _) := hide_ (own_base Am hza)
      have Bm : Hid (ROwn Bw2 w.heap.size _ _) := hide_ (own_base Bm hza)
      have Ab1 := hide_ (below_to ((Below.refl wz.heap.size wz).drew) Ab1)
      have Ab2 := hide_ (below_to ((Below.refl wz.heap.size wz).drew) Ab2)
      have Bb1 := hide_ (below_to ((Below.refl wz.heap.size wz).drew) Bb1)
      have Bb2 := hide_ (below_to ((Below.refl wz.heap.size wz).drew) Bb2)
      have A1 := hide_ A1
      have A2 := hide_ A2
      have B1 := hide_ B1
      have B2 := hide_ B2
      have hAc : (R.length : Int) ≤ Ac := by omega
      have hBc : (R.length : Int) ≤ Bc := by omega
      have HSS : Hid (∀ w', Below wz.heap.size wz w' → Below wz.heap.size wz w' ∧ w'.cell? ⟨w.heap.size, 1, none⟩ = some (.slice aR R.length cR)) := hide_ (fun w' hB' => ⟨hB', (KAr.out.later hB').cell 1⟩)
      clear hrz Acc Bcc HA0 HO0 HS HMk HQ HR8 a8 o8
      go_upto_region 9 with fail
      rw [← hwz]
      clear hwz l0 lf i0
      go_cut [] from 45 to 55 (fun wc => ∃ (gR cR' : Nat) (wy : World), wy = wc ∧ Hid (LtS wy w.heap.size g8 c8 Q gR cR' R mkP mkT mkR) ∧ Hid (Blk wy (w.heap.size + 2) 31 [.slice (some ⟨g8, 0, none⟩) T.length c8, .slice (some ⟨gR, 0, none⟩) R.length cR']) ∧ Hid (Blk wy (w.heap.size + 1) 31 [.slice none 0 0, .slice none 0 0]) ∧ Hid (Below w.heap.size w wy))
      case first =>
        refine wp_region_last 11 (fun w' => Below wz.heap.size wz w' ∧ w'.cell? ⟨w.heap.size, 1, none⟩ = some (.slice aR R.length cR)) (by kernel_rfl) (HSS.out _ ((Below.refl _ _).drew)) (fun hHeld => ?_)
        refine wpAnyF_take [11] (by kernel_rfl) (i := 0) (v := ?vr1) rfl (by kernel_rfl) (by kernel_rfl) (by kernel_rfl) (fun _ _ _ h => h) (Or.inl ⟨by rfl, ?hyr1⟩) hHeld ?restr1
        case hyr1 => intro w' hSw; (try dsimp only at hSw); go_simp; try with_reducible rfl
        simp only [Act.put]
        refine wpAnyF_take [11] (by kernel_rfl) (i := 1) (v := ?vr2) rfl (by kernel_rfl) (by kernel_rfl) (by kernel_rfl) (fun _ _ _ h => h) (Or.inl ⟨by rfl, ?hyr2⟩) hHeld ?restr2
        case hyr2 => intro w' hSw; (try dsimp only at hSw); go_simp; try with_reducible rfl
        simp only [Act.put]
        refine wpAnyF_take [11] (by kernel_rfl) (i := 3) (v := ?vr3) rfl (by kernel_rfl) (by kernel_rfl) (by kernel_rfl) (fun _ _ _ h => h) (Or.inl ⟨by rfl, ?hyr3⟩) hHeld ?restr3
        case hyr3 => intro w' hSw; (try dsimp only at hSw); go_simp; try with_reducible rfl
        simp only [Act.put]
        refine wpAnyF_take [11] (by kernel_rfl) (i := 6) (v := ?vr4) rfl (by kernel_rfl) (by kernel_rfl) (by kernel_rfl) (fun _ _ _ h => h) (Or.inl ⟨by rfl, ?hyr4⟩) hHeld ?restr4
        case hyr4 => intro w' hSw; (try dsimp only at hSw); go_simp; try with_reducible rfl
        simp only [Act.put]
        refine wpAnyF_take [11] (by kernel_rfl) (i := 7) (v := ?vr5) rfl (by kernel_rfl) (by kernel_rfl) (by kernel_rfl) (fun _ _ _ h => h) (Or.inl ⟨by rfl, ?hyr5⟩) hHeld ?restr5
        case hyr5 => intro w' hSw; (try dsimp only at hSw); go_simp; try with_reducible rfl
        simp only [Act.put]
        refine wpAnyF_take [11] (by kernel_rfl) (i := 8) (v := ?vr6) rfl (by kernel_rfl) (by kernel_rfl) (by kernel_rfl) (fun _ _ _ h => h) (Or.inl ⟨by rfl, ?hyr6⟩) hHeld ?restr6
        case hyr6 => intro w' hSw; (try dsimp only at hSw); go_simp; try with_reducible rfl
        simp only [Act.put]
        refine wpAnyF_ready (rs := [2, 4]) (by kernel_rfl) (by simp) ?_
        refine AllReadyF.cons rfl (fun K hK => ?_) ?_
        · refine step_append_run rfl (.const (.slice none 0 0)) (.tmp 46) 29 29 rfl rfl rfl A1.out ?_
          refine hK.out _ _ (HSS.out _ Ab1.out) (fun hHeld => ?_)
          clear hK K
          refine wpAnyF_ready (rs := [4]) (by kernel_rfl) (by simp) ?_
          refine AllReadyF.cons rfl (fun K hK => ?_) AllReadyF.nil
          go_simp
          refine hK.out _ _ (HSS.out _ (below_to Ab1.out (below1 _ _))) (fun hHeld => ?_)
          clear hK K
          refine wpAnyF_ready (rs := [5]) (by kernel_rfl) (by simp) ?_
          refine AllReadyF.cons rfl (fun K hK => ?_) AllReadyF.nil
          refine step_append_run rfl (.tmp 47) (.tmp 49) 29 29 rfl rfl rfl A2.out ?_
          refine hK.out _ _ (HSS.out _ Ab2.out) (fun hHeld => ?_)
          clear hK K
          refine wpAnyF_take [11] (by kernel_rfl) (i := 9) (v := ?vr7) rfl (by kernel_rfl) (by kernel_rfl) (by kernel_rfl) (fun _ _ _ h => h) (Or.inl ⟨by rfl, ?hyr7⟩) hHeld ?restr7
          case hyr7 => intro w' hSw; (try dsimp only at hSw); go_simp; try with_reducible rfl
          simp only [Act.put]
          refine wpAnyF_take [11] (by kernel_rfl) (i := 10) (v := ?vr8) rfl (by kernel_rfl) (by kernel_rfl) (by kernel_rfl) (fun _ _ _ h => h) (Or.inl ⟨by rfl, ?hyr8⟩) hHeld ?restr8
          case hyr8 => intro w' hSw; (try dsimp only at hSw); go_simp; try with_reducible rfl
          simp only [Act.put]
          refine wpAnyF_ready (rs := [11]) (by kernel_rfl) (by simp) ?_
          refine AllReadyF.last rfl (fun K hK => ?_)
          have kz := KO.out.later Ab2.out
          have l1 := kz.cell 1
          have lf := kz.frozen 1
          simp at l1
          have hrs := Am.out
          have hlt : LtS _ w.heap.size g8 c8 Q Ag Ac R mkP mkT mkR := ⟨HTz.out.later Ab2.out, fun p hp => (HMz.out p hp).later Ab2.out, hrs⟩
          have HLz := hide_ (hlt.other kz (by omega) (by decide) (by decide) (by decide) 1 (.slice (some ⟨Ag, 0, none⟩) R.length Ac))
          have HKz : Hid (Blk _ (w.heap.size + 2) 31 [.slice (some ⟨g8, 0, none⟩) T.length c8, .slice (some ⟨Ag, 0, none⟩) R.length Ac]) := hide_ (by have h := kz.set 1 (.slice (some ⟨Ag, 0, none⟩) R.length Ac); simpa using h)
          have HKr := hide_ ((KRs.out.later Ab2.out).other ⟨w.heap.size + 2, 1, none⟩ (.slice (some ⟨Ag, 0, none⟩) R.length Ac) (by show w.heap.size + 1 ≠ w.heap.size + 2; omega))
          have HBf := hide_ (below_set (below_to HBz.out Ab2.out) (w.heap.size + 2) 1 (.slice (some ⟨Ag, 0, none⟩) R.length Ac) (by omega))
          clear kz hrs hlt
          go_simp
          refine hK.out _ _ ?_
          clear hK K
          refine wpAnyF_done (by kernel_rfl) ?_ _
          go_wp2_with fail
          go_meet
          case rel => exact ⟨Ag, Ac, _, rfl, HLz, HKz, HKr, HBf⟩
        refine AllReadyF.cons rfl (fun K hK => ?_) AllReadyF.nil
        go_simp
        refine hK.out _ _ (HSS.out _ (below_to ((Below.refl _ _).drew) (below1 _ _))) (fun hHeld => ?_)
        clear hK K
        refine wpAnyF_ready (rs := [2]) (by kernel_rfl) (by simp) ?_
        refine AllReadyF.cons rfl (fun K hK => ?_) AllReadyF.nil
        refine step_append_run rfl (.const (.slice none 0 0)) (.tmp 46) 29 29 rfl rfl rfl B1.out ?_
        refine hK.out _ _ (HSS.out _ Bb1.out) (fun hHeld => ?_)
        clear hK K
        refine wpAnyF_ready (rs := [5]) (by kernel_rfl) (by simp) ?_
        refine AllReadyF.cons rfl (fun K hK => ?_) AllReadyF.nil
        refine step_append_run rfl (.tmp 47) (.tmp 49) 29 29 rfl rfl rfl B2.out ?_
        refine hK.out _ _ (HSS.out _ Bb2.out) (fun hHeld => ?_)
        clear hK K
        refine wpAnyF_take [11] (by kernel_rfl) (i := 9) (v := ?vr9) rfl (by kernel_rfl) (by kernel_rfl) (by kernel_rfl) (fun _ _ _ h => h) (Or.inl ⟨by rfl, ?hyr9⟩) hHeld ?restr9
        case hyr9 => intro w' hSw; (try dsimp only at hSw); go_simp; try with_reducible rfl
        simp only [Act.put]
        refine wpAnyF_take [11] (by kernel_rfl) (i := 10) (v := ?vr10) rfl (by kernel_rfl) (by kernel_rfl) (by kernel_rfl) (fun _ _ _ h => h) (Or.inl ⟨by rfl, ?hyr10⟩) hHeld ?restr10
        case hyr10 => intro w' hSw; (try dsimp only at hSw); go_simp; try with_reducible rfl
        simp only [Act.put]
        refine wpAnyF_ready (rs := [11]) (by kernel_rfl) (by simp) ?_
        refine AllReadyF.last rfl (fun K hK => ?_)
        have kz := KO.out.later Bb2.out
        have l1 := kz.cell 1
        have lf := kz.frozen 1
        simp at l1
        have hrs := Bm.out
        have hlt : LtS _ w.heap.size g8 c8 Q Bg Bc R mkP mkT mkR := ⟨HTz.out.later Bb2.out, fun p hp => (HMz.out p hp).later Bb2.out, hrs⟩
        have HLz := hide_ (hlt.other kz (by omega) (by decide) (by decide) (by decide) 1 (.slice (some ⟨Bg, 0, none⟩) R.length Bc))
        have HKz : Hid (Blk _ (w.heap.size + 2) 31 [.slice (some ⟨g8, 0, none⟩) T.length c8, .slice (some ⟨Bg, 0, none⟩) R.length Bc]) := hide_ (by have h := kz.set 1 (.slice (some ⟨Bg, 0, none⟩) R.length Bc); simpa using h)
        have HKr := hide_ ((KRs.out.later Bb2.out).other ⟨w.heap.size + 2, 1, none⟩ (.slice (some ⟨Bg, 0, none⟩) R.length Bc) (by show w.heap.size + 1 ≠ w.heap.size + 2; omega))
        have HBf := hide_ (below_set (below_to HBz.out Bb2.out) (w.heap.size + 2) 1 (.slice (some ⟨Bg, 0, none⟩) R.length Bc) (by omega))
        clear kz hrs hlt
        go_simp
        refine hK.out _ _ ?_
        clear hK K
        refine wpAnyF_done (by kernel_rfl) ?_ _
        go_wp2_with fail
        go_meet
        case rel => exact ⟨Bg, Bc, _, rfl, HLz, HKz, HKr, HBf⟩
      case rest =>
        obtain ⟨gR, cR', wy, rfl, HLy, KOy, KRy, HBy⟩ := hcut
        clear A1 A2 B1 B2 Am Bm Ab1 Ab2 Bb1 Bb2 hAc hBc HSS
        have k9 := KRy.out
        have HK := hide_ (wr2 k9 (.slice (some ⟨g8, 0, none⟩) T.length c8) (.slice (some ⟨gR, 0, none⟩) R.length cR'))
        have HBf := hide_ (below_wr2 HBy.out (w.heap.size + 1) (by omega) (.slice (some ⟨g8, 0, none⟩) T.length c8) (.slice (some ⟨gR, 0, none⟩) R.length cR'))
        have HL1 := HLy.out.other k9 (by omega) (by decide) (by decide) (by decide) 0 (.slice (some ⟨g8, 0, none⟩) T.length c8)
        have HL2 := hide_ (HL1.other (k9.set 0 (.slice (some ⟨g8, 0, none⟩) T.length c8)) (by omega) (by decide) (by decide) (by decide) 1 (.slice (some ⟨gR, 0, none⟩) R.length cR'))
        have q0 := KOy.out.cell 0; have q1 := KOy.out.cell 1
        have z0 := k9.cell 0; have z1 := k9.cell 1
        have zf := fun i => k9.frozen i
        simp at q0 q1 z0 z1
        clear k9 HL1
        go_wp2
        exact retSc rfl rfl HK.out ⟨g8, c8, Q, gR, cR', rfl, HL2, HQe, HBf⟩
end Go.Proofs.Ytpkghpfdibnhcaa
