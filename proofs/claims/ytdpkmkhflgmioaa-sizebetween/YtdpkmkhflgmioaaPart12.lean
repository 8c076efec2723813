import Derived.Test.YtdpkmkhflgmioaaPart11
import Derived.BigQuiet

/- Lists of types of the call's own. -/
namespace Go.Proofs.Ytdpkmkhflgmioaa
open Go.RowKit
set_option linter.unusedVariables false

/-! ### Lists of types of the call's own: each type with the slice of its parts -/
def tyq (p : Ty × Value) : List Value := tyc p.1 p.2
theorem tyq_len (p : Ty × Value) : (tyq p).length = 4 := rfl
/-- A type's parts lie in older memory, or in a block of parts. -/
def PtIn (w : World) (B : Nat) (ps : List Pt) (u : Value) : Prop := ∃ va vc, u = .slice va ps.length vc ∧ ps.length ≤ vc ∧ (va = none → vc = 0) ∧ PRow w va ps ∧ (ps = [] ∨ ∀ x, va = some x → x.block < B ∨ ∃ ys, Blk w x.block 64 ys)
def TOwn (w : World) (B : Nat) (v : Value) (Q : List (Ty × Value)) : Prop := w.ownsRow B 62 4 v Q.length (cellsG tyq Q) ∧ ∀ p ∈ Q, PtIn w B p.1.ps p.2
theorem PtIn.upd {w w' : World} {B : Nat} {ps : List Pt} {u : Value} {S : Nat → Prop} (h : PtIn w B ps u) (hu : Upd S w w') (hs : ∀ k, S k → B ≤ k) (hn : ∀ k ys, S k → Blk w k 64 ys → False) : PtIn w' B ps u := by
  obtain ⟨va, vc, e, h1, h2, h3, h4⟩ := h
  rcases h4 with h4 | h4
  · exact ⟨va, vc, e, h1, h2, .inl h4, .inl h4⟩
  have key : ∀ x, va = some x → ¬ S x.block := fun x hx hS => by
    rcases h4 x hx with h | ⟨ys, h⟩
    · have := hs _ hS; omega
    · exact hn _ ys hS h
  refine ⟨va, vc, e, h1, h2, h3.upd hu key, .inr (fun x hx => ?_)⟩
  rcases h4 x hx with h | ⟨ys, h⟩
  · exact .inl h
  · exact .inr ⟨ys, h.upd hu (key x hx)⟩
theorem TOwn.later {w w' : World} {B : Nat} {v : Value} {Q : List (Ty × Value)} (h : TOwn w B v Q) (hB : Below w.heap.size w w') : TOwn w' B v Q :=
  ⟨ownS_upd h.1 (Upd.of_below (S := fun _ => False) hB) (fun _ _ h => h), fun p hp => (h.2 p hp).upd (Upd.of_below (S := fun _ => False) hB) (fun _ h => h.elim) (fun _ _ h => h.elim)⟩
/-- A store into a block of another type. -/
theorem TOwn.other {w : World} {B : Nat} {v : Value} {Q : List (Ty × Value)} (h : TOwn w B v Q) {g : Nat} {t : TypeId} {ys : List Value} (hb : Blk w g t ys) (hg : B ≤ g) (h1 : t ≠ 62) (h2 : t ≠ 64) (i : Nat) (u : Value) : TOwn (w.setCell ⟨g, i, none⟩ u) B v Q := by
  have hu : Upd (fun k => k = g) w (w.setCell ⟨g, i, none⟩ u) := (Upd.refl _ w).set _ _ (.inl rfl)
  refine ⟨ownS_upd h.1 hu (fun k hk e => ?_), fun p hp => (h.2 p hp).upd hu (fun k e => by omega) (fun k zs e hz => ?_)⟩
  · obtain ⟨zs, hz⟩ := ownS_type h.1 hk
    subst e
    exact h1 (blk_type hb hz)
  · subst e
    exact h2 (blk_type hb hz)
theorem infoT : (Try.prog.info? 62).map (fun i => (i.zero, i.size, i.bytes)) = some (some (.agg #[.int .i64 0, .int .i64 0, .int .i64 0, .slice none 0 0]), 4, 48) := by kernel_rfl
theorem TOwn.push {w : World} {B : Nat} {v : Value} {Q : List (Ty × Value)} (h : TOwn w B v Q) (t : Ty) (u : Value) (hu1 : u.oneCell' = true) (ht : PtIn w B t.ps u) (hl : Q.length ≤ 1000000000) (hB : B ≤ w.heap.size) :
    ∃ v' w', (Builtin.append_ #[22, 22] 22 #[v, .slice (some ⟨w.heap.size, 0, none⟩) 1 1]).run Try.prog (w.alloc (.cells #[.int .i64 t.k, .int .i64 t.n, .int .i64 t.e, u] 62)) = .ok v' w' ∧ TOwn w' B v' (Q ++ [(t, u)]) ∧ Upd (fun k => v.ownBlock = some k) w w' ∧ ∃ g c, v' = .slice (some ⟨g, 0, none⟩) (Q.length + 1) c := by
  obtain ⟨g, cap, w', h1, h2, h3, h4⟩ := run_pushS (P := Try.prog) (t := 22) (e := 62) (c := 4) Try.underlying22 infoT rfl (by decide) w 22 h.1 (tyc t u) rfl (fun x hx => by simp [tyc] at hx; rcases hx with rfl | rfl | rfl | rfl; rfl; rfl; rfl; exact hu1) (by unfold maxLen; omega) (by omega) hB
  have hs : ∀ k, v.ownBlock = some k → B ≤ k := fun k hk => (h.1.lt k hk).1
  have hn : ∀ k ys, v.ownBlock = some k → Blk w k 64 ys → False := fun k ys hk hb => by
    obtain ⟨zs, hz⟩ := ownS_type h.1 hk
    exact absurd (blk_type hz hb) (by decide)
  refine ⟨_, w', h1, ⟨?_, fun p hp => ?_⟩, h3, g, cap, rfl⟩
  · rw [cellsG_app, cellsG_one, List.length_append, List.length_singleton]
    exact h2
  · rcases List.mem_append.1 hp with hp | hp
    · exact (h.2 p hp).upd h3 hs hn
    · simp at hp
      subst hp
      exact ht.upd h3 hs hn
theorem TOwn.row {w : World} {B : Nat} {v : Value} {Q : List (Ty × Value)} (h : TOwn w B v Q) : ∃ a cap, v = .slice a (Q.map (·.1)).length cap ∧ TRow w a (Q.map (·.1)) := by
  obtain ⟨a, cap, rfl, -, -, hr⟩ := own_grow tyq_len h.1
  refine ⟨a, cap, by rw [List.length_map], ?_⟩
  rcases hr with rfl | ⟨b, off, rfl, hb, hc⟩
  · exact .inl rfl
  · refine .inr ⟨b, off, rfl, hb, fun i t ht => ?_⟩
    rw [List.getElem?_map, Option.map_eq_some_iff] at ht
    obtain ⟨p, hp, rfl⟩ := ht
    obtain ⟨va, vc, e, h1, h2, h3, -⟩ := h.2 p (List.mem_of_getElem? hp)
    refine ⟨va, vc, fun j hj => ?_, h1, h2, h3⟩
    rw [← e]
    exact hc i p hp j hj
theorem retSc {fn : Func} {p : Tmp} (h : fn.results = #[.cell p 25]) {R : Ending → World → Prop} {tmps : Array Value} {g : Nat} {w : World} {x y : Value} (hp : tmps.getD p undef = .pointer (some ⟨g, 0, none⟩)) (hK : Blk w g 25 [x, y]) (hR : R (.returned (.agg #[x, y])) w) :
    bodyPost Try.prog fn R Exit.ret ⟨tmps, []⟩ w :=
  bodyPost_ret (results_cell_row h _ _ _ _ #[x, y] _ _ hp (show w.heap[g]? = some (.cells #[x, y] 25 (0, 0)) from hK) Try.underlying25 rfl (by show _ = some 2; kernel_rfl)) rfl hR

def cut1 (t : Ty) : Ty := ⟨t.k, t.n, t.e, t.ps.take 70⟩
def cutT (T : List Ty) : List Ty := (T.take 120).map cut1
theorem cutT_succ {T : List Ty} {i : Nat} {t : Ty} (h : T[i]? = some t) : (T.take (i + 1)).map cut1 = (T.take i).map cut1 ++ [cut1 t] := by
  have hi := (List.getElem?_eq_some_iff.1 h).1
  rw [List.take_succ_eq_append_getElem hi, (List.getElem?_eq_some_iff.1 h).2, List.map_append]
  rfl
theorem cut1_len (t : Ty) : (cut1 t).ps.length = min 70 t.ps.length := by simp [cut1]
theorem infoR : (Try.prog.info? 70).map (fun i => (i.zero, i.size, i.bytes)) = some (some (.agg #[.string ⟨#[]⟩, .int .i64 0]), 2, 24) := by kernel_rfl
/-- A list of roots of the call's own. -/
def ROwn (w : World) (B : Nat) (v : Value) (l : List Rt) : Prop := w.ownsRow B 70 2 v l.length (cellsG rtc l)
theorem rtc_one (l : List Rt) : ∀ u ∈ cellsG rtc l, u.oneCell' = true := by
  intro u hu
  simp only [cellsG, List.mem_flatMap] at hu
  obtain ⟨x, _, hx⟩ := hu
  simp [rtc] at hx
  rcases hx with rfl | rfl <;> rfl
set_option maxRecDepth 100000 in
/-- append(nil, x...), x a row of roots. -/
theorem run_copyR (w : World) (B : Nat) (a : Option Addr) (n cap : Nat) (l : List Rt) (hn : l.length = n) (hr : RRow w a l) (hnil : a = none → cap = 0) (hl : n ≤ 1000000) (hB : B ≤ w.heap.size) :
    ∃ v' w', (Builtin.append_ #[23, 23] 23 #[.slice none 0 0, .slice a n cap]).run Try.prog w = .ok v' w' ∧ ROwn w' B v' l ∧ Below w.heap.size w w' ∧ (∃ a' c', v' = .slice a' n c') := by
  subst hn
  obtain ⟨i0, hi, hz0, hz1, hz2⟩ := info_parts infoR
  rcases hr with rfl | ⟨b, off, rfl, hb, hc⟩
  · cases a with
    | none =>
      obtain rfl := hnil rfl
      exact ⟨_, w, run_append_owned_none (P := Try.prog) w w.heap.size 23 23 70 i0 2 Try.underlying23 hi (.slice none 0 0) 0 [] (World.ownsRow_nil _ _ _ _), World.ownsRow_nil _ _ _ _, Below.refl _ _, _, _, rfl⟩
    | some x =>
      obtain ⟨v', w', hrun, h2, h3, h4, h5⟩ := run_append_own_at (P := Try.prog) w w.heap.size 23 23 70 i0 _ 2 24 Try.underlying23 hi hz0 hz1 hz2 rfl (by decide) (.slice none 0 0) 0 [] (World.ownsRow_nil _ _ _ _) x 0 cap [] rfl (fun j u hj => by simp at hj) (fun u hu => by cases hu) (by unfold maxLen; omega) (by omega) (Nat.le_refl _)
      have hg := (Upd.refl (fun _ => False) w).grown h3 (fun k hk => by cases hk)
      simp only [List.append_nil, Nat.add_zero] at h2
      have h6 : ROwn w' B v' [] := by have h := own_base h2 hB; simpa [ROwn, cellsG] using h
      refine ⟨v', w', by simpa using hrun, h6, hg.below w.heap.size (Nat.le_refl _) (fun k hk => hk.elim), ?_⟩
      obtain ⟨a', c', e, _⟩ := own_grow rtc_len h6
      exact ⟨a', c', e⟩
  · have hcell : ∀ j u, (cellsG rtc l)[j]? = some u → w.cell? ((⟨b, off, none⟩ : Addr).add j) = some u := fun j u hj => by
      have hlt := (List.getElem?_eq_some_iff.1 hj).1
      rw [cellsG_len rtc_len] at hlt
      have hi : j / 2 < l.length := by omega
      have hx : l[j / 2]? = some (l[j / 2]'hi) := List.getElem?_eq_getElem hi
      have h1 := hc (j / 2) _ hx (j % 2) (Nat.mod_lt _ (by decide))
      have h2 := cellsG_at rtc_len l (j / 2) (j % 2) _ hx (Nat.mod_lt _ (by decide))
      have e : j / 2 * 2 + j % 2 = j := by omega
      rw [e] at h2
      rw [add_none, ← hj, h2, ← h1]
      congr 2
      omega
    obtain ⟨v', w', hrun, h2, h3, h4, h5⟩ := run_append_own_at (P := Try.prog) w w.heap.size 23 23 70 i0 _ 2 24 Try.underlying23 hi hz0 hz1 hz2 rfl (by decide) (.slice none 0 0) 0 [] (World.ownsRow_nil _ _ _ _) ⟨b, off, none⟩ l.length cap (cellsG rtc l) (cellsG_len rtc_len l) hcell (rtc_one l) (by unfold maxLen; omega) (by omega) (Nat.le_refl _)
    rw [Nat.zero_add, List.nil_append] at h2
    have hg := (Upd.refl (fun _ => False) w).grown h3 (fun k hk => by cases hk)
    have h6 : ROwn w' B v' l := own_base h2 hB
    refine ⟨v', w', hrun, h6, hg.below _ (Nat.le_refl _) (fun k hk => hk.elim), ?_⟩
    obtain ⟨a', c', e, _⟩ := own_grow rtc_len h6
    exact ⟨a', c', e⟩
end Go.Proofs.Ytdpkmkhflgmioaa

/- Rows of structs of any kind: copied by append, written over; parts of the call's own. -/
namespace Go.Proofs.Ytdpkmkhflgmioaa
open Go.RowKit
set_option linter.unusedVariables false

theorem row_set_at {α : Type} {c : Nat} {f : α → List Value} (hf : ∀ x, (f x).length = c) (l : List α) (i : Nat) (y : α) (hi : i < l.length) (j : Nat) (hj : j < l.length * c) : (cellsG f (l.set i y))[j]? = if i * c ≤ j ∧ j < i * c + c then (f y)[j - i * c]? else (cellsG f l)[j]? := by
  rcases Nat.eq_zero_or_pos c with h0 | h0
  · subst h0; simp at hj
  have hq : j / c < l.length := Nat.div_lt_of_lt_mul (by rw [Nat.mul_comm]; exact hj)
  have hjm : j = j / c * c + j % c := by rw [Nat.mul_comm]; exact (Nat.div_add_mod j c).symm
  have hml := Nat.mod_lt j h0
  by_cases he : j / c = i
  · have hx : (l.set i y)[j / c]? = some y := by rw [he, List.getElem?_set_self hi]
    have h := cellsG_at hf (l.set i y) (j / c) (j % c) y hx hml
    rw [← hjm] at h
    rw [h, if_pos (by rw [← he]; omega)]
    congr 1
    rw [← he]
    omega
  · have hx : (l.set i y)[j / c]? = some (l[j / c]'hq) := by rw [List.getElem?_set_ne (fun h => he h.symm)]; exact List.getElem?_eq_getElem hq
    have h := cellsG_at hf (l.set i y) (j / c) (j % c) _ hx hml
    have h2 := cellsG_at hf l (j / c) (j % c) _ (List.getElem?_eq_getElem hq) hml
    rw [← hjm] at h h2
    rw [h, h2, if_neg]
    intro ⟨h3, h4⟩
    apply he
    refine Nat.div_eq_of_lt_le h3 ?_
    rw [Nat.add_mul, Nat.one_mul]
    exact h4
/-- The cells of an element of four cells written over. -/
theorem row_set4 {α : Type} {f : α → List Value} (hf : ∀ x, (f x).length = 4) {w : World} {B g n cap i : Nat} {e : TypeId} {l : List α} (h : w.ownsRow B e 4 (.slice (some ⟨g, 0, none⟩) n cap) l.length (cellsG f l)) (hi : i < l.length) (y : α) (y0 y1 y2 y3 : Value) (hy : f y = [y0, y1, y2, y3]) :
    ((((w.setCell ⟨g, i * 4, none⟩ y0).setCell ⟨g, i * 4 + 1, none⟩ y1).setCell ⟨g, i * 4 + 2, none⟩ y2).setCell ⟨g, i * 4 + 3, none⟩ y3).ownsRow B e 4 (.slice (some ⟨g, 0, none⟩) n cap) (l.set i y).length (cellsG f (l.set i y)) := by
  obtain ⟨g', cap', ys, e, hb, hn, hm, hys, ht, hk⟩ := ownS_blk h (by omega)
  injection e with e1 e2 e3
  injection e1 with e1
  injection e1 with e1 _ _
  subst e1 e2 e3
  have hk2 := (((hk.set (i * 4) y0).set (i * 4 + 1) y1).set (i * 4 + 2) y2).set (i * 4 + 3) y3
  have h2 := ownS_of_blk (B := B) (n := l.length) (c := 4) (cap := cap) hk2 hb (by simp [hys]) hn hm
  have e4 : ((((ys.set (i * 4) y0).set (i * 4 + 1) y1).set (i * 4 + 2) y2).set (i * 4 + 3) y3).take (l.length * 4) = cellsG f (l.set i y) := by
    apply List.ext_getElem?
    intro j
    by_cases hj : j < l.length * 4
    · rw [row_set_at hf l i y hi j hj, List.getElem?_take, if_pos hj, ← ht]
      have hjy : j < ys.length := by rw [hys]; have := Nat.mul_le_mul_right 4 hn; omega
      by_cases h0 : j = i * 4
      · subst h0
        rw [if_pos (by omega), List.getElem?_set_ne (by omega), List.getElem?_set_ne (by omega), List.getElem?_set_ne (by omega), List.getElem?_set_self hjy, hy]
        simp
      · by_cases h1 : j = i * 4 + 1
        · subst h1
          rw [if_pos (by omega), List.getElem?_set_ne (by omega), List.getElem?_set_ne (by omega), List.getElem?_set_self (by simpa using hjy), hy]
          simp
        · by_cases h2 : j = i * 4 + 2
          · subst h2
            rw [if_pos (by omega), List.getElem?_set_ne (by omega), List.getElem?_set_self (by simpa using hjy), hy]
            simp
          · by_cases h3 : j = i * 4 + 3
            · subst h3
              rw [if_pos (by omega), List.getElem?_set_self (by simpa using hjy), hy]
              simp
            · rw [if_neg (by omega), List.getElem?_set_ne (by omega), List.getElem?_set_ne (by omega), List.getElem?_set_ne (by omega), List.getElem?_set_ne (by omega), List.getElem?_take, if_pos hj]
    · rw [List.getElem?_eq_none (by simp; omega), List.getElem?_eq_none (by rw [cellsG_len hf]; simp; omega)]
  rw [List.length_set, ← e4]
  exact h2
set_option maxRecDepth 100000 in
/-- append(nil, x...), x a row of structs of any kind: new memory. -/
theorem run_copyG {α : Type} {c : Nat} {f : α → List Value} {P : Program} {t e : TypeId} {z : Value} {bytes : Nat} (hf : ∀ x, (f x).length = c) (hone : ∀ x, ∀ u ∈ f x, u.oneCell' = true) (ht : P.underlying t = some (.slice e)) (hinfo : (P.info? e).map (fun i => (i.zero, i.size, i.bytes)) = some (some z, c, bytes)) (hzs : z.cells.size = c) (hc : 0 < c)
    (w : World) (a : Option Addr) (n cap : Nat) (l : List α) (hn : l.length = n) (hr : GRow c f w a l) (hnil : a = none → cap = 0) (h63 : n ≤ maxLen) (hl : n * bytes ≤ 140737488355328) :
    ∃ v' w', (Builtin.append_ #[t, t] t #[.slice none 0 0, .slice a n cap]).run P w = .ok v' w' ∧ w'.ownsRow w.heap.size e c v' n (cellsG f l) ∧ Below w.heap.size w w' := by
  subst hn
  have hall : ∀ u ∈ cellsG f l, u.oneCell' = true := fun u hu => by
    simp only [cellsG, List.mem_flatMap] at hu
    obtain ⟨x, _, hx⟩ := hu
    exact hone x u hx
  obtain ⟨i0, hi, hz0, hz1, hz2⟩ := info_parts hinfo
  rcases hr with rfl | ⟨b, off, rfl, hb, hcl⟩
  · cases a with
    | none =>
      obtain rfl := hnil rfl
      exact ⟨_, w, run_append_owned_none (P := P) w w.heap.size t t e i0 c ht hi (.slice none 0 0) 0 [] (World.ownsRow_nil _ _ _ _), World.ownsRow_nil _ _ _ _, Below.refl _ _⟩
    | some x =>
      obtain ⟨v', w', hrun, h2, h3, h4, h5⟩ := run_append_own_at (P := P) w w.heap.size t t e i0 z c bytes ht hi hz0 hz1 hz2 hzs hc (.slice none 0 0) 0 [] (World.ownsRow_nil _ _ _ _) x 0 cap [] (by simp) (fun j u hj => by simp at hj) (fun u hu => by cases hu) (by unfold maxLen; omega) (by omega) (Nat.le_refl _)
      have hg := (Upd.refl (fun _ => False) w).grown h3 (fun k hk => by cases hk)
      simp only [List.append_nil, Nat.add_zero] at h2
      exact ⟨v', w', by simpa using hrun, by simpa [cellsG] using h2, hg.below w.heap.size (Nat.le_refl _) (fun k hk => hk.elim)⟩
  · have hcell : ∀ j u, (cellsG f l)[j]? = some u → w.cell? ((⟨b, off, none⟩ : Addr).add j) = some u := fun j u hj => by
      have hlt := (List.getElem?_eq_some_iff.1 hj).1
      rw [cellsG_len hf] at hlt
      have hi : j / c < l.length := Nat.div_lt_of_lt_mul (by rw [Nat.mul_comm]; exact hlt)
      have hx : l[j / c]? = some (l[j / c]'hi) := List.getElem?_eq_getElem hi
      have h1 := hcl (j / c) _ hx (j % c) (Nat.mod_lt _ hc)
      have h2 := cellsG_at hf l (j / c) (j % c) _ hx (Nat.mod_lt _ hc)
      have e : j / c * c + j % c = j := by rw [Nat.mul_comm]; exact Nat.div_add_mod j c
      rw [e] at h2
      rw [add_none, ← hj, h2, ← h1]
      congr 2
      omega
    obtain ⟨v', w', hrun, h2, h3, h4, h5⟩ := run_append_own_at (P := P) w w.heap.size t t e i0 z c bytes ht hi hz0 hz1 hz2 hzs hc (.slice none 0 0) 0 [] (World.ownsRow_nil _ _ _ _) ⟨b, off, none⟩ l.length cap (cellsG f l) (cellsG_len hf l) hcell hall (by omega) (by rw [Nat.zero_add]; exact hl) (Nat.le_refl _)
    rw [Nat.zero_add, List.nil_append] at h2
    have hg := (Upd.refl (fun _ => False) w).grown h3 (fun k hk => by cases hk)
    exact ⟨v', w', hrun, h2, hg.below _ (Nat.le_refl _) (fun k hk => hk.elim)⟩
/-! ### Parts of the call's own -/
theorem infoP : (Try.prog.info? 64).map (fun i => (i.zero, i.size, i.bytes)) = some (some (.agg #[.string ⟨#[]⟩, .int .i64 0, .int .i64 0]), 3, 32) := by kernel_rfl
def POwn (w : World) (B : Nat) (v : Value) (l : List Pt) : Prop := w.ownsRow B 64 3 v l.length (cellsG ptc l)
theorem ptc_one (p : Pt) : ∀ u ∈ ptc p, u.oneCell' = true := fun u hu => by
  simp [ptc] at hu
  rcases hu with rfl | rfl | rfl <;> rfl
theorem POwn.later {w w' : World} {B : Nat} {v : Value} {l : List Pt} (h : POwn w B v l) (hB : Below w.heap.size w w') : POwn w' B v l := ownS_upd h (Upd.of_below (S := fun _ => False) hB) (fun _ _ h => h)
/-- append(nil, parts...). -/
theorem copyP (w : World) (a : Option Addr) (cap : Nat) (l : List Pt) (hr : PRow w a l) (hnil : a = none → cap = 0) (hl : l.length ≤ 1000000) :
    ∃ v' w', (Builtin.append_ #[60, 60] 60 #[.slice none 0 0, .slice a l.length cap]).run Try.prog w = .ok v' w' ∧ POwn w' w.heap.size v' l ∧ Below w.heap.size w w' :=
  run_copyG (P := Try.prog) ptc_len ptc_one Try.underlying60 infoP rfl (by decide) w a l.length cap l rfl hr hnil (by unfold maxLen; omega) (by omega)
/-- append(v, part). -/
theorem POwn.push {w : World} {B : Nat} {v : Value} {l : List Pt} (h : POwn w B v l) (p : Pt) (hl : l.length ≤ 1000000) (hB : B ≤ w.heap.size) :
    ∃ g cap w', (Builtin.append_ #[60, 60] 60 #[v, .slice (some ⟨w.heap.size, 0, none⟩) 1 1]).run Try.prog (w.alloc (.cells #[.string p.label, .int .i64 p.tag, .int .i64 p.ty] 64)) = .ok (.slice (some ⟨g, 0, none⟩) (l.length + 1) cap) w' ∧ POwn w' B (.slice (some ⟨g, 0, none⟩) (l.length + 1) cap) (l ++ [p]) ∧ Below B w w' := by
  obtain ⟨g, cap, w', h1, h2, h3, h4⟩ := run_pushS (P := Try.prog) (t := 60) (e := 64) (c := 3) Try.underlying60 infoP rfl (by decide) w 60 h (ptc p) rfl (ptc_one p) (by unfold maxLen; omega) (by omega) hB
  refine ⟨g, cap, w', h1, ?_, h3.below B hB (fun k hk => (h.lt k hk).1)⟩
  unfold POwn
  rw [cellsG_app, cellsG_one, List.length_append, List.length_singleton]
  exact h2
/-- As a type's parts. -/
theorem POwn.ptIn {w : World} {B B' : Nat} {v : Value} {l : List Pt} (h : POwn w B v l) : PtIn w B' l v := by
  obtain ⟨a, cap, rfl, h1, h2, h3⟩ := own_grow ptc_len h
  refine ⟨a, cap, rfl, h1, h2, h3, .inr (fun x hx => ?_)⟩
  subst hx
  rcases h.2 with ⟨e, _⟩ | ⟨g, cap', cur, e, _⟩
  · cases e
  · injection e with e1 _ _
    injection e1 with e1
    subst e1
    obtain ⟨ys, hy⟩ := ownS_type h (k := g) rfl
    exact .inr ⟨ys, hy⟩
/-! ### A type written over in a list of the call's own -/
theorem TOwn.set4 {w : World} {B g n cap i : Nat} {Q : List (Ty × Value)} (h : TOwn w B (.slice (some ⟨g, 0, none⟩) n cap) Q) (hi : i < Q.length) (t : Ty) (u : Value) (ht : PtIn w B t.ps u) :
    TOwn ((((w.setCell ⟨g, i * 4, none⟩ (.int .i64 t.k)).setCell ⟨g, i * 4 + 1, none⟩ (.int .i64 t.n)).setCell ⟨g, i * 4 + 2, none⟩ (.int .i64 t.e)).setCell ⟨g, i * 4 + 3, none⟩ u) B (.slice (some ⟨g, 0, none⟩) n cap) (Q.set i (t, u)) ∧
    Upd (fun k => k = g) w ((((w.setCell ⟨g, i * 4, none⟩ (.int .i64 t.k)).setCell ⟨g, i * 4 + 1, none⟩ (.int .i64 t.n)).setCell ⟨g, i * 4 + 2, none⟩ (.int .i64 t.e)).setCell ⟨g, i * 4 + 3, none⟩ u) := by
  have hu : Upd (fun k => k = g) w ((((w.setCell ⟨g, i * 4, none⟩ (.int .i64 t.k)).setCell ⟨g, i * 4 + 1, none⟩ (.int .i64 t.n)).setCell ⟨g, i * 4 + 2, none⟩ (.int .i64 t.e)).setCell ⟨g, i * 4 + 3, none⟩ u) :=
    ((((Upd.refl (fun k => k = g) w).set ⟨g, i * 4, none⟩ (.int .i64 t.k) (.inl rfl)).set ⟨g, i * 4 + 1, none⟩ (.int .i64 t.n) (.inl rfl)).set ⟨g, i * 4 + 2, none⟩ (.int .i64 t.e) (.inl rfl)).set ⟨g, i * 4 + 3, none⟩ u (.inl rfl)
  obtain ⟨zs, hz⟩ := ownS_type h.1 (k := g) rfl
  have hg := (World.ownsRow.lt h.1 g rfl).1
  have hn : ∀ k ys, k = g → Blk w k 64 ys → False := fun k ys e hb => by
    subst e
    exact absurd (blk_type hz hb) (by decide)
  refine ⟨⟨row_set4 tyq_len h.1 hi (t, u) _ _ _ _ rfl, fun p hp => ?_⟩, hu⟩
  rcases List.mem_or_eq_of_mem_set hp with hp | rfl
  · exact (h.2 p hp).upd hu (fun k e => by omega) hn
  · exact ht.upd hu (fun k e => by omega) hn
theorem TOwn.at4 {w : World} {B g n cap i : Nat} {Q : List (Ty × Value)} {p : Ty × Value} (h : TOwn w B (.slice (some ⟨g, 0, none⟩) n cap) Q) (hx : Q[i]? = some p) : w.cell? ⟨g, i * 4, none⟩ = some (.int .i64 p.1.k) ∧ w.cell? ⟨g, i * 4 + 1, none⟩ = some (.int .i64 p.1.n) ∧ w.cell? ⟨g, i * 4 + 2, none⟩ = some (.int .i64 p.1.e) ∧ w.cell? ⟨g, i * 4 + 3, none⟩ = some p.2 := by
  obtain ⟨a, c, e, -, -, hr⟩ := own_grow tyq_len h.1
  injection e with e1 _ _
  subst e1
  obtain ⟨b, off, e2, -, hc⟩ := hr.open (by have := (List.getElem?_eq_some_iff.1 hx).1; omega)
  injection e2 with e2
  injection e2 with e3 e4 _
  subst e3 e4
  have h0 := hc i p hx 0 (by decide); have h1 := hc i p hx 1 (by decide); have h2 := hc i p hx 2 (by decide); have h3 := hc i p hx 3 (by decide)
  simp only [Nat.zero_add, Nat.add_zero] at h0 h1 h2 h3
  exact ⟨h0, h1, h2, h3⟩
theorem TOwn.fr {w : World} {B g n cap : Nat} {Q : List (Ty × Value)} (h : TOwn w B (.slice (some ⟨g, 0, none⟩) n cap) Q) (i : Nat) : w.frozen? ⟨g, i, none⟩ = false := by
  obtain ⟨ys, hy⟩ := ownS_type h.1 (k := g) rfl
  exact hy.frozen i
/-! ### Lists of types and roots: read, kept -/
theorem town_row {w : World} {B n cap : Nat} {a : Option Addr} {Q : List (Ty × Value)} {U : List Ty} (h : TOwn w B (.slice a n cap) Q) (hQ : Q.map (·.1) = U) : TRow w a U := by
  obtain ⟨a', cap', e, hr⟩ := h.row
  injection e with e1 _ _
  subst e1
  rw [hQ] at hr
  exact hr
theorem rown_row {w : World} {B n cap : Nat} {a : Option Addr} {l : List Rt} (h : ROwn w B (.slice a n cap) l) : RRow w a l := by
  obtain ⟨a', cap', e, -, -, hr⟩ := own_grow rtc_len h
  injection e with e1 _ _
  subst e1
  exact hr
theorem ROwn.later {w w' : World} {B : Nat} {v : Value} {l : List Rt} (h : ROwn w B v l) (hB : Below w.heap.size w w') : ROwn w' B v l := ownS_upd h (Upd.of_below (S := fun _ => False) hB) (fun _ _ h => h)
theorem ROwn.other {w : World} {B : Nat} {v : Value} {l : List Rt} (h : ROwn w B v l) {g : Nat} {t : TypeId} {ys : List Value} (hb : Blk w g t ys) (ht : t ≠ 70) (i : Nat) (u : Value) : ROwn (w.setCell ⟨g, i, none⟩ u) B v l :=
  ownS_upd h ((Upd.refl (fun k => k = g) w).set _ _ (.inl rfl)) (fun k hk e => by
    obtain ⟨zs, hz⟩ := ownS_type h hk
    subst e
    exact ht (blk_type hb hz))
theorem st2 {w : World} {B g : Nat} {v vR : Value} {Q : List (Ty × Value)} {l : List Rt} {x0 x1 : Value} (hT : TOwn w B v Q) (hR : ROwn w B vR l) (hK : Blk w g 25 [x0, x1]) (hg : B ≤ g) (y0 y1 : Value) : TOwn ((w.setCell ⟨g, 0, none⟩ y0).setCell ⟨g, 1, none⟩ y1) B v Q ∧ ROwn ((w.setCell ⟨g, 0, none⟩ y0).setCell ⟨g, 1, none⟩ y1) B vR l := by
  have k1 := hK.set 0 y0
  exact ⟨(hT.other hK hg (by decide) (by decide) 0 y0).other k1 hg (by decide) (by decide) 1 y1, (hR.other hK (by decide) 0 y0).other k1 (by decide) 1 y1⟩
theorem cutT_lens (T : List Ty) : LensT (cutT T) := ⟨by simp [cutT]; omega, fun t ht => by
  simp only [cutT, List.mem_map] at ht
  obtain ⟨u, -, rfl⟩ := ht
  rw [cut1_len]
  omega⟩
theorem TOwn.updN {w w' : World} {B : Nat} {v : Value} {Q : List (Ty × Value)} (h : TOwn w B v Q) {g : Nat} {t : TypeId} {ys : List Value} (hu : Upd (fun k => k = g) w w') (hb : Blk w g t ys) (hg : B ≤ g) (h1 : t ≠ 62) (h2 : t ≠ 64) : TOwn w' B v Q := by
  refine ⟨ownS_upd h.1 hu (fun k hk e => ?_), fun p hp => (h.2 p hp).upd hu (fun k e => by omega) (fun k zs e hz => ?_)⟩
  · obtain ⟨zs, hz⟩ := ownS_type h.1 hk
    subst e
    exact h1 (blk_type hb hz)
  · subst e
    exact h2 (blk_type hb hz)
theorem ROwn.updN {w w' : World} {B : Nat} {v : Value} {l : List Rt} (h : ROwn w B v l) {g : Nat} {t : TypeId} {ys : List Value} (hu : Upd (fun k => k = g) w w') (hb : Blk w g t ys) (h1 : t ≠ 70) : ROwn w' B v l :=
  ownS_upd h hu (fun k hk e => by
    obtain ⟨zs, hz⟩ := ownS_type h hk
    subst e
    exact h1 (blk_type hb hz))
/-! ### rest -/
theorem tmod_in (n m : Int) (hm : 0 < m) : -m < n.tmod m ∧ n.tmod m < m := by
  rcases Int.le_total 0 n with h | h
  · rw [Int.tmod_eq_emod_of_nonneg h]
    have h1 := Int.emod_nonneg n (show m ≠ 0 by omega)
    have h2 := Int.emod_lt_of_pos n hm
    omega
  · have e : n = -(-n) := by omega
    rw [e, Int.neg_tmod, Int.tmod_eq_emod_of_nonneg (by omega)]
    have h1 := Int.emod_nonneg (-n) (show m ≠ 0 by omega)
    have h2 := Int.emod_lt_of_pos (-n) hm
    omega
set_option maxRecDepth 100000 in
set_option maxHeartbeats 4000000 in
theorem rest_any (n m : Int) (w : World) (hm : 0 < m) (hm2 : m ≤ 1000000000000) : Calls Try.prog 10 #[.int .i64 n, .int .i64 m] w fun e w' => ∃ r : Int, e = .returned (.int .i64 r) ∧ 0 ≤ r ∧ r < m ∧ w = w' := by
  have hz : (m == 0) = false := by simp; omega
  obtain ⟨h1, h2⟩ := tmod_in n m hm
  generalize hq : n.tmod m = q at *
  have hr0 : 0 ≤ (q + m).tmod m := by rw [Int.tmod_eq_emod_of_nonneg (by omega)]; exact Int.emod_nonneg _ (by omega)
  have hr1 : (q + m).tmod m < m := (tmod_in _ m hm).2
  have HQ := hide_ hq
  generalize hs : (q + m).tmod m = r at *
  go_enter Try.func10, Try.ntmps10
  go_wp2
  go_ret
  exact ⟨r, by rfl, hr0, hr1, rfl⟩
end Go.Proofs.Ytdpkmkhflgmioaa

/- Lists lent with a mark behind them: what lies in memory. -/
namespace Go.Proofs.Ytdpkmkhflgmioaa
open Go.RowKit
set_option linter.unusedVariables false

set_option maxRecDepth 100000 in
/-- append(v, x...), x a row of structs of any kind, v a row of the call's own. -/
theorem run_appG {α : Type} {c : Nat} {f : α → List Value} {P : Program} {t e : TypeId} {z : Value} {bytes : Nat} (hf : ∀ x, (f x).length = c) (hone : ∀ x, ∀ u ∈ f x, u.oneCell' = true) (ht : P.underlying t = some (.slice e)) (hinfo : (P.info? e).map (fun i => (i.zero, i.size, i.bytes)) = some (some z, c, bytes)) (hzs : z.cells.size = c) (hc : 0 < c)
    (w : World) {B : Nat} {v : Value} {l : List α} (hown : w.ownsRow B e c v l.length (cellsG f l)) (b off cap : Nat) (r : List α) (hr : ∀ (i : Nat) (x : α), r[i]? = some x → ∀ j, j < c → w.cell? ⟨b, off + i * c + j, none⟩ = (f x)[j]?) (h63 : l.length + r.length ≤ maxLen) (hl : (l.length + r.length) * bytes ≤ 140737488355328) (hB : B ≤ w.heap.size) :
    ∃ v' w', (Builtin.append_ #[t, t] t #[v, .slice (some ⟨b, off, none⟩) r.length cap]).run P w = .ok v' w' ∧ w'.ownsRow B e c v' (l.length + r.length) (cellsG f (l ++ r)) ∧ Upd (fun k => v.ownBlock = some k) w w' ∧ (v'.ownBlock = v.ownBlock ∨ v'.ownBlock = some w.heap.size) := by
  have hall : ∀ u ∈ cellsG f r, u.oneCell' = true := fun u hu => by
    simp only [cellsG, List.mem_flatMap] at hu
    obtain ⟨x, _, hx⟩ := hu
    exact hone x u hx
  obtain ⟨i0, hi, hz0, hz1, hz2⟩ := info_parts hinfo
  have hcell : ∀ j u, (cellsG f r)[j]? = some u → w.cell? ((⟨b, off, none⟩ : Addr).add j) = some u := fun j u hj => by
    have hlt := (List.getElem?_eq_some_iff.1 hj).1
    rw [cellsG_len hf] at hlt
    have hi : j / c < r.length := Nat.div_lt_of_lt_mul (by rw [Nat.mul_comm]; exact hlt)
    have hx : r[j / c]? = some (r[j / c]'hi) := List.getElem?_eq_getElem hi
    have h1 := hr (j / c) _ hx (j % c) (Nat.mod_lt _ hc)
    have h2 := cellsG_at hf r (j / c) (j % c) _ hx (Nat.mod_lt _ hc)
    have e : j / c * c + j % c = j := by rw [Nat.mul_comm]; exact Nat.div_add_mod j c
    rw [e] at h2
    rw [add_none, ← hj, h2, ← h1]
    congr 2
    omega
  obtain ⟨v', w', hrun, h2, h3, h4, h5⟩ := run_append_own_at (P := P) w B t t e i0 z c bytes ht hi hz0 hz1 hz2 hzs hc v l.length (cellsG f l) hown ⟨b, off, none⟩ r.length cap (cellsG f r) (cellsG_len hf r) hcell hall h63 hl hB
  refine ⟨v', w', hrun, by rw [cellsG_app]; exact h2, (Upd.refl _ w).grown h3 (fun k hk => .inl hk), h5⟩
/-- append(v, x), x lies in a block of its own. -/
theorem run_app1 {α : Type} {c : Nat} {f : α → List Value} {P : Program} {t e : TypeId} {z : Value} {bytes : Nat} (hf : ∀ x, (f x).length = c) (hone : ∀ x, ∀ u ∈ f x, u.oneCell' = true) (ht : P.underlying t = some (.slice e)) (hinfo : (P.info? e).map (fun i => (i.zero, i.size, i.bytes)) = some (some z, c, bytes)) (hzs : z.cells.size = c) (hc : 0 < c)
    (w : World) {B : Nat} {v : Value} {l : List α} (hown : w.ownsRow B e c v l.length (cellsG f l)) (b : Nat) (x : α) (hb : Blk w b e (f x)) (h63 : l.length + 1 ≤ maxLen) (hl : (l.length + 1) * bytes ≤ 140737488355328) (hB : B ≤ w.heap.size) :
    ∃ g cap w', (Builtin.append_ #[t, t] t #[v, .slice (some ⟨b, 0, none⟩) 1 1]).run P w = .ok (.slice (some ⟨g, 0, none⟩) (l.length + 1) cap) w' ∧ w'.ownsRow B e c (.slice (some ⟨g, 0, none⟩) (l.length + 1) cap) (l ++ [x]).length (cellsG f (l ++ [x])) ∧ Upd (fun k => v.ownBlock = some k) w w' ∧ B ≤ g ∧ l.length + 1 ≤ cap ∧ (v.ownBlock = some g ∨ w.heap.size ≤ g) := by
  obtain ⟨v', w', h1, h2, h3, h4⟩ := run_appG (P := P) hf hone ht hinfo hzs hc w hown b 0 1 [x] (fun i y hy j hj => by
    have hi := (List.getElem?_eq_some_iff.1 hy).1
    obtain rfl : i = 0 := by simp at hi; omega
    simp at hy
    subst hy
    rw [hb.cell]
    congr 1
    omega) h63 hl hB
  have hlen : l.length + [x].length = (l ++ [x]).length := by simp
  rw [hlen] at h2
  obtain ⟨g, cap, ys, e1, hg, hn, -, -, -, -⟩ := ownS_blk h2 (by simp)
  rw [List.length_append, List.length_singleton] at e1 hn
  subst e1
  refine ⟨g, cap, w', h1, h2, h3, hg, hn, ?_⟩
  rcases h4 with h4 | h4
  · exact .inl (by rw [← h4]; rfl)
  · have : g = w.heap.size := own_is h4
    exact .inr (by omega)
theorem rtc_one1 (r : Rt) : ∀ u ∈ rtc r, u.oneCell' = true := fun u hu => by
  simp [rtc] at hu
  rcases hu with rfl | rfl <;> rfl
/-- A type's parts, of the call's own, with a mark behind them. -/
def MkIn (w : World) (B : Nat) (q : Pt) (ps : List Pt) (u : Value) : Prop := ∃ g c, u = .slice (some ⟨g, 0, none⟩) ps.length c ∧ ps.length + 1 ≤ c ∧ PRow w (some ⟨g, 0, none⟩) (ps ++ [q]) ∧ B ≤ g ∧ ∃ ys, Blk w g 64 ys
theorem MkIn.upd {w w' : World} {B : Nat} {q : Pt} {ps : List Pt} {u : Value} {S : Nat → Prop} (h : MkIn w B q ps u) (hu : Upd S w w') (hn : ∀ k ys, S k → Blk w k 64 ys → False) : MkIn w' B q ps u := by
  obtain ⟨g, c, e, h1, h2, h3, ys, h4⟩ := h
  have hg : ¬ S g := fun hS => hn g ys hS h4
  exact ⟨g, c, e, h1, h2.upd hu (fun x hx => by cases hx; exact hg), h3, ys, h4.upd hu hg⟩
theorem MkIn.later {w w' : World} {B : Nat} {q : Pt} {ps : List Pt} {u : Value} (h : MkIn w B q ps u) (hB : Below w.heap.size w w') : MkIn w' B q ps u := h.upd (Upd.of_below (S := fun _ => False) hB) (fun _ _ h => h.elim)
theorem MkIn.ptIn {w : World} {B : Nat} {q : Pt} {ps : List Pt} {u : Value} (h : MkIn w B q ps u) (B' : Nat) : PtIn w B' ps u := by
  obtain ⟨g, c, rfl, h1, h2, h3, ys, h4⟩ := h
  refine ⟨_, c, rfl, by omega, (fun h => by cases h), ?_, .inr (fun x hx => by cases hx; exact .inr ⟨ys, h4⟩)⟩
  have := h2.take ps.length
  rwa [List.take_left] at this
theorem POwn.mkIn {w : World} {B : Nat} {q : Pt} {ps : List Pt} {g c : Nat} (h : POwn w B (.slice (some ⟨g, 0, none⟩) (ps.length + 1) c) (ps ++ [q])) : MkIn w B q ps (.slice (some ⟨g, 0, none⟩) ps.length c) := by
  obtain ⟨a, c', e, h1, -, h3⟩ := own_grow ptc_len h
  injection e with e1 e2 e3
  subst e1 e3
  obtain ⟨ys, hy⟩ := ownS_type h (k := g) rfl
  exact ⟨g, c, rfl, by simpa using h1, h3, (World.ownsRow.lt h g rfl).1, ys, hy⟩
/-- A schema that is lent: its types with a mark behind, their parts with marks, its roots with a mark. -/
structure LtS (w : World) (B : Nat) (gT cT : Nat) (Q : List (Ty × Value)) (gR cR : Nat) (R : List Rt) (q : Pt) (tq : Ty) (rq : Rt) : Prop where
  ty : TOwn w B (.slice (some ⟨gT, 0, none⟩) (Q.length + 1) cT) (Q ++ [(tq, .slice none 0 0)])
  mks : ∀ p ∈ Q, MkIn w B q p.1.ps p.2
  rt : ROwn w B (.slice (some ⟨gR, 0, none⟩) (R.length + 1) cR) (R ++ [rq])
theorem LtS.later {w w' : World} {B gT cT gR cR : Nat} {Q : List (Ty × Value)} {R : List Rt} {q : Pt} {tq : Ty} {rq : Rt} (h : LtS w B gT cT Q gR cR R q tq rq) (hB : Below w.heap.size w w') : LtS w' B gT cT Q gR cR R q tq rq :=
  ⟨h.ty.later hB, fun p hp => (h.mks p hp).later hB, h.rt.later hB⟩
/-- A store into a block of another type. -/
theorem LtS.other {w : World} {B gT cT gR cR : Nat} {Q : List (Ty × Value)} {R : List Rt} {q : Pt} {tq : Ty} {rq : Rt} (h : LtS w B gT cT Q gR cR R q tq rq) {g : Nat} {t : TypeId} {ys : List Value} (hb : Blk w g t ys) (hg : B ≤ g) (h1 : t ≠ 62) (h2 : t ≠ 64) (h3 : t ≠ 70) (i : Nat) (u : Value) : LtS (w.setCell ⟨g, i, none⟩ u) B gT cT Q gR cR R q tq rq :=
  ⟨h.ty.other hb hg h1 h2 i u, fun p hp => (h.mks p hp).upd ((Upd.refl (fun k => k = g) w).set ⟨g, i, none⟩ u (.inl rfl)) (fun k zs e hz => by subst e; exact h2 (blk_type hb hz)), h.rt.other hb h3 i u⟩
theorem LtS.row {w : World} {B gT cT gR cR : Nat} {Q : List (Ty × Value)} {R : List Rt} {q : Pt} {tq : Ty} {rq : Rt} (h : LtS w B gT cT Q gR cR R q tq rq) : TRow w (some ⟨gT, 0, none⟩) (Q.map (·.1)) ∧ RRow w (some ⟨gR, 0, none⟩) R := by
  have h1 := town_row h.ty rfl
  have h2 := rown_row h.rt
  have h3 := h1.take Q.length
  have h4 := h2.take R.length
  have e3 : (Q.map (·.1)).length = Q.length := by simp
  rw [List.map_append, ← e3, List.take_left] at h3
  rw [List.take_left] at h4
  exact ⟨h3, h4⟩
theorem LtS.caps {w : World} {B gT cT gR cR : Nat} {Q : List (Ty × Value)} {R : List Rt} {q : Pt} {tq : Ty} {rq : Rt} (h : LtS w B gT cT Q gR cR R q tq rq) : Q.length + 1 ≤ cT ∧ R.length + 1 ≤ cR ∧ B ≤ gT ∧ B ≤ gR ∧ w.cell? ⟨gT, Q.length * 4, none⟩ = some (.int .i64 tq.k) ∧ w.cell? ⟨gR, R.length * 2 + 1, none⟩ = some (.int .i64 rq.ty) := by
  obtain ⟨_, _, e, h1, -, -⟩ := own_grow tyq_len h.ty.1
  injection e with _ e2 e3
  obtain ⟨a', _, e', h2, -, h3⟩ := own_grow rtc_len h.rt
  injection e' with e1 e2' e3'
  subst e1
  obtain ⟨b, off, e4, -, hc⟩ := h3.open (by simp)
  injection e4 with e4
  injection e4 with e5 e6 _
  have hk := (h.ty.at4 (i := Q.length) (p := (tq, .slice none 0 0)) (by simp)).1
  have hr := hc R.length rq (by simp) 1 (by decide)
  rw [← e5, ← e6] at hr
  simp only [Nat.zero_add] at hr
  refine ⟨by rw [e3]; simpa using h1, by rw [e3']; simpa using h2, (World.ownsRow.lt h.ty.1 gT rfl).1, (World.ownsRow.lt h.rt gR rfl).1, hk, hr⟩
end Go.Proofs.Ytdpkmkhflgmioaa

/- The document's Same, of two schemas that are alike. -/
namespace Go.Proofs.Ytdpkmkhflgmioaa
open Go.RowKit
set_option linter.unusedVariables false

set_option maxRecDepth 100000 in
set_option maxHeartbeats 8000000 in
theorem same_yes (a1 : Option Addr) (c1 : Nat) (r1 : Option Addr) (d1 : Nat) (a2 : Option Addr) (c2 : Nat) (r2 : Option Addr) (d2 : Nat) (T : List Ty) (R : List Rt) (w : World) (hn : T.length ≤ 9223372036854775806) (hm : R.length ≤ 9223372036854775806) (hL : Hid (LensT T)) (hT1 : Hid (TRow w a1 T)) (hR1 : Hid (RRow w r1 R)) (hT2 : Hid (TRow w a2 T)) (hR2 : Hid (RRow w r2 R)) :
    Calls Try.prog 36 #[.agg #[.slice a1 T.length c1, .slice r1 R.length d1], .agg #[.slice a2 T.length c2, .slice r2 R.length d2]] w fun e w' => e = .returned (.bool true) ∧ Below w.heap.size w w' := by
  have hB := below2 w (.cells #[.slice a1 T.length c1, .slice r1 R.length d1] 25) (.cells #[.slice a2 T.length c2, .slice r2 R.length d2] 25)
  obtain ⟨k1, k2⟩ := blk2 w #[.slice a1 T.length c1, .slice r1 R.length d1] #[.slice a2 T.length c2, .slice r2 R.length d2] 25 25
  obtain ⟨w0, hw0⟩ : ∃ wx, wx = (w.alloc (.cells #[.slice a1 T.length c1, .slice r1 R.length d1] 25)).alloc (.cells #[.slice a2 T.length c2, .slice r2 R.length d2] 25) := ⟨_, rfl⟩
  rw [← hw0] at hB k1 k2
  have HB0 := hide_ hB
  have K1 := hide_ k1
  have K2 := hide_ k2
  have i0 := k1.cell 0; have i1 := k1.cell 1; have j0 := k2.cell 0; have j1 := k2.cell 1
  simp at i0 i1 j0 j1
  clear hB k1 k2
  go_enter Try.func36, Try.ntmps36
  go_upto_region 1 with fail
  rw [← hw0]
  clear hw0
  go_wp2_with fail
  go_loopw [5] (fun x5 wr => ∃ (i : Nat), i ≤ T.length ∧ x5 = .int .i64 (i : Int) ∧ Hid (Below w0.heap.size w0 wr)) (fun x5 _ => T.length - (intOf x5).toNat)
  case atStart => exact ⟨0, Nat.zero_le _, rfl, hide_ (Below.refl _ _)⟩
  case round =>
    obtain ⟨i, hi, rfl, HB⟩ := hrel
    generalize wr = wq at *
    clear i0 i1 j0 j1
    have i0 := (K1.out.later HB.out).cell 0; have i1 := (K1.out.later HB.out).cell 1; have j0 := (K2.out.later HB.out).cell 0; have j1 := (K2.out.later HB.out).cell 1
    simp at i0 i1 j0 j1
    by_cases hlt : i < T.length
    · have hlt' : (i : Int) < T.length := by omega
      have hx : T[i]? = some (T[i]'hlt) := List.getElem?_eq_getElem hlt
      have hB' := below_to HB0.out HB.out
      obtain ⟨b1, o1, rfl, hb1, h1⟩ := (hT1.out.later hB').open (by omega)
      obtain ⟨b2, o2, rfl, hb2, h2⟩ := (hT2.out.later hB').open (by omega)
      obtain ⟨va, vc, hc1, hv1, -, hP1⟩ := h1 i _ hx
      obtain ⟨ua, uc, hc2, hv2, -, hP2⟩ := h2 i _ hx
      have hpl := hL.out.at hx
      generalize T[i]'hlt = t at *
      obtain ⟨k, n, el, ps⟩ := t
      simp only at hv1 hv2 hP1 hP2 hpl
      have p0 := hc1 0 (by decide); have p1 := hc1 1 (by decide); have p2 := hc1 2 (by decide); have p3 := hc1 3 (by decide)
      have q0 := hc2 0 (by decide); have q1 := hc2 1 (by decide); have q2 := hc2 2 (by decide); have q3 := hc2 3 (by decide)
      simp [tyc] at p0 p1 p2 p3 q0 q1 q2 q3
      obtain ⟨wa, hwa⟩ : ∃ wx, wx = wq.alloc (.cells #[.int .i64 k, .int .i64 n, .int .i64 el, .slice va ps.length vc] 62) := ⟨_, rfl⟩
      have ba : Below wq.heap.size wq wa := by rw [hwa]; exact below1 _ _
      have ka : Blk wa wq.heap.size 62 [.int .i64 k, .int .i64 n, .int .i64 el, .slice va ps.length vc] := by rw [hwa]; exact Blk.newA wq _ _
      obtain ⟨wb, hwb⟩ : ∃ wx, wx = wa.alloc (.cells #[.int .i64 k, .int .i64 n, .int .i64 el, .slice ua ps.length uc] 62) := ⟨_, rfl⟩
      have bb : Below wa.heap.size wa wb := by rw [hwb]; exact below1 _ _
      have kb : Blk wb wa.heap.size 62 [.int .i64 k, .int .i64 n, .int .i64 el, .slice ua ps.length uc] := by rw [hwb]; exact Blk.newA wa _ _
      have x0 := (hc2 0 (by decide)); 
      have y0 := (ba.cell (p := ⟨b2, o2 + i * 4 + 0, none⟩) hb2).trans (hc2 0 (by decide))
      have y1 := (ba.cell (p := ⟨b2, o2 + i * 4 + 1, none⟩) hb2).trans (hc2 1 (by decide))
      have y2 := (ba.cell (p := ⟨b2, o2 + i * 4 + 2, none⟩) hb2).trans (hc2 2 (by decide))
      have y3 := (ba.cell (p := ⟨b2, o2 + i * 4 + 3, none⟩) hb2).trans (hc2 3 (by decide))
      have s0 := ((K2.out.later HB.out).later ba).cell 0
      simp [tyc] at y0 y1 y2 y3 s0
      have KA := hide_ (ka.later bb)
      have KB := hide_ kb
      have HBb := hide_ (below_to (below_to HB.out ba) bb)
      have HPa := hide_ ((hP1.later ba).later bb)
      have HPb := hide_ ((hP2.later ba).later bb)
      clear hx hB' h1 h2 hc1 hc2 hP1 hP2 x0 q0 q1 q2 q3 bb ba ka kb
      go_upto_region 7 with fail
      rw [← hwa]
      clear hwa p0 p1 p2 p3 i0 i1 j0 j1
      go_upto_region 8 with fail
      rw [← hwb]
      clear hwb y0 y1 y2 y3 s0
      have a0 := KA.out.cell 0; have a1 := KA.out.cell 1; have a2 := KA.out.cell 2; have a3 := KA.out.cell 3
      have b0 := KB.out.cell 0; have b1' := KB.out.cell 1; have b2' := KB.out.cell 2; have b3 := KB.out.cell 3
      simp at a0 a1 a2 a3 b0 b1' b2' b3
      go_wp2_with fail
      clear a0 a1 a2 a3 b0 b1' b2' b3
      go_loopw [8] (fun x8 wr => ∃ (j : Nat), j ≤ ps.length ∧ x8 = .int .i64 (j : Int) ∧ Hid (Below wb.heap.size wb wr)) (fun x8 _ => ps.length - (intOf x8).toNat)
      case atStart => exact ⟨0, Nat.zero_le _, rfl, hide_ (Below.refl _ _)⟩
      case round =>
        obtain ⟨j, hj, rfl, HC⟩ := hrel
        generalize wr = wp at *
        have a3 := (KA.out.later HC.out).cell 3; have b3 := (KB.out.later HC.out).cell 3
        simp at a3 b3
        by_cases hjl : j < ps.length
        · have hjl' : (j : Int) < ps.length := by omega
          have hq : ps[j]? = some (ps[j]'hjl) := List.getElem?_eq_getElem hjl
          obtain ⟨g1, f1, rfl, -, z1⟩ := (HPa.out.later HC.out).open (by omega)
          obtain ⟨g2, f2, rfl, -, z2⟩ := (HPb.out.later HC.out).open (by omega)
          have e0 := z1 j _ hq 0 (by decide); have e1 := z1 j _ hq 1 (by decide); have e2 := z1 j _ hq 2 (by decide)
          have m0 := z2 j _ hq 0 (by decide); have m1 := z2 j _ hq 1 (by decide); have m2 := z2 j _ hq 2 (by decide)
          simp [ptc] at e0 e1 e2 m0 m1 m2
          generalize ps[j]'hjl = pp at *
          have hse := str_eq pp.label pp.label
          simp at hse
          clear hq z1 z2
          go_wp2_with fail
          go_quiet (fail)
          have HCq : ∀ q, Hid (Below wb.heap.size wb (wp.drewN q)) := fun q => hide_ (below_drewN HC.out q)
          go_wp2_with fail
          go_roundw
          case rel => exact ⟨j + 1, by omega, by go_num, HCq _⟩
          case measure => simp [intOf]; omega
        · have hjl' : ¬ (j : Int) < ps.length := by omega
          have HBn := hide_ (below_to HBb.out HC.out)
          go_wp2_with fail
          go_roundw
          case rel => exact ⟨i + 1, by omega, by go_num, HBn⟩
          case measure => simp [intOf]; omega
    · have hlt' : ¬ (i : Int) < T.length := by omega
      have HBr := HB
      go_wp2_with fail
      go_loopw [9] (fun x9 wr => ∃ (j : Nat), j ≤ R.length ∧ x9 = .int .i64 (j : Int) ∧ Hid (Below w0.heap.size w0 wr)) (fun x9 _ => R.length - (intOf x9).toNat)
      case atStart => exact ⟨0, Nat.zero_le _, rfl, HB⟩
      case round =>
        obtain ⟨j, hj, rfl, HC⟩ := hrel
        generalize wr = wp at *
        clear i0 i1 j0 j1
        have i1 := (K1.out.later HC.out).cell 1; have j1 := (K2.out.later HC.out).cell 1
        simp at i1 j1
        by_cases hjl : j < R.length
        · have hjl' : (j : Int) < R.length := by omega
          have hq : R[j]? = some (R[j]'hjl) := List.getElem?_eq_getElem hjl
          obtain ⟨g1, f1, rfl, -, z1⟩ := (hR1.out.later (below_to HB0.out HC.out)).open (by omega)
          obtain ⟨g2, f2, rfl, -, z2⟩ := (hR2.out.later (below_to HB0.out HC.out)).open (by omega)
          have e0 := z1 j _ hq 0 (by decide); have e1 := z1 j _ hq 1 (by decide)
          have m0 := z2 j _ hq 0 (by decide); have m1 := z2 j _ hq 1 (by decide)
          simp [rtc] at e0 e1 m0 m1
          generalize R[j]'hjl = rr at *
          have hse := str_eq rr.name rr.name
          simp at hse
          clear hq z1 z2
          go_wp2_with fail
          go_quiet (fail)
          have HCq : ∀ q, Hid (Below w0.heap.size w0 (wp.drewN q)) := fun q => hide_ (below_drewN HC.out q)
          go_wp2_with fail
          go_roundw
          case rel => exact ⟨j + 1, by omega, by go_num, HCq _⟩
          case measure => simp [intOf]; omega
        · have hjl' : ¬ (j : Int) < R.length := by omega
          have HBn := hide_ (below_to HB0.out HC.out)
          go_wp2
          go_ret
          exact ⟨rfl, HBn.out⟩
end Go.Proofs.Ytdpkmkhflgmioaa
