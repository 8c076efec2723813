import Derived.Test.YtbgjgbddpcofcaaGreatDoorPart22
import Derived.Test.YtbgjgbddpcofcaaGreatDoorPart10

/- A row with one cell set. -/
namespace Go.Proofs.YtbgjgbddpcofcaaGreatDoor
open Go.RowKit
set_option linter.unusedVariables false

theorem row_setc {α : Type} {c : Nat} {f : α → List Value} (hf : ∀ x, (f x).length = c) {w : World} {B g n cap i j : Nat} {e : TypeId} {l : List α} {x : α} (h : w.ownsRow B e c (.slice (some ⟨g, 0, none⟩) n cap) l.length (cellsG f l)) (hx : l[i]? = some x) (y : α) (u : Value) (hj : j < c) (hy : f y = (f x).set j u) :
    (w.setCell ⟨g, i * c + j, none⟩ u).ownsRow B e c (.slice (some ⟨g, 0, none⟩) n cap) (l.set i y).length (cellsG f (l.set i y)) := by
  have hi := (List.getElem?_eq_some_iff.1 hx).1
  obtain ⟨g', cap', ys, e, hb, hn, hm, hys, ht, hk⟩ := ownS_blk h (by omega)
  injection e with e1 e2 e3
  injection e1 with e1
  injection e1 with e1 _ _
  subst e1 e2 e3
  have hk2 := hk.set (i * c + j) u
  have h2 := ownS_of_blk (B := B) (n := l.length) (c := c) (cap := cap) hk2 hb (by simp [hys]) hn hm
  have hic : i * c + c ≤ l.length * c := by rw [← Nat.succ_mul]; exact Nat.mul_le_mul_right c hi
  have e4 : (ys.set (i * c + j) u).take (l.length * c) = cellsG f (l.set i y) := by
    apply List.ext_getElem?
    intro q
    by_cases hq : q < l.length * c
    · rw [row_set_at hf l i y hi q hq, List.getElem?_take, if_pos hq, ← ht]
      have hqy : q < ys.length := by rw [hys]; exact Nat.lt_of_lt_of_le hq (Nat.mul_le_mul_right c hn)
      by_cases h0 : q = i * c + j
      · subst h0
        rw [if_pos (by omega), List.getElem?_set_self hqy, hy, Nat.add_sub_cancel_left, List.getElem?_set_self (by rw [hf]; exact hj)]
      · rw [List.getElem?_set_ne (fun h => h0 h.symm)]
        by_cases h1 : i * c ≤ q ∧ q < i * c + c
        · rw [if_pos h1, hy, List.getElem?_set_ne (by omega)]
          have h3 := cellsG_at hf l i (q - i * c) x hx (by omega)
          rw [show i * c + (q - i * c) = q by omega] at h3
          rw [← h3, ← ht, List.getElem?_take, if_pos hq]
        · rw [if_neg h1, List.getElem?_take, if_pos hq]
    · rw [List.getElem?_eq_none (by simp; omega), List.getElem?_eq_none (by rw [cellsG_len hf]; simp; omega)]
  rw [List.length_set, ← e4]
  exact h2
end Go.Proofs.YtbgjgbddpcofcaaGreatDoor

/- mortiselaw17's own: what lies in memory. -/
namespace Go.Proofs.YtbgjgbddpcofcaaGreatDoor
open Go.RowKit
set_option linter.unusedVariables false

theorem TOwn.push2 {w : World} {B : Nat} {v : Value} {Q : List (Ty × Value)} (h : TOwn w B v Q) (t : Ty) (u : Value) (hu1 : u.oneCell' = true) (ht : PtIn w B t.ps u) (hl : Q.length ≤ 2932031007401) (hB : B ≤ w.heap.size) :
    ∃ g c w', (Builtin.append_ #[26, 26] 26 #[v, .slice (some ⟨w.heap.size, 0, none⟩) 1 1]).run Tryz.prog (w.alloc (.cells #[.int .i64 t.k, .int .i64 t.n, .int .i64 t.e, u] 49)) = .ok (.slice (some ⟨g, 0, none⟩) (Q.length + 1) c) w' ∧ TOwn w' B (.slice (some ⟨g, 0, none⟩) (Q.length + 1) c) (Q ++ [(t, u)]) ∧ Upd (fun k => v.ownBlock = some k) w w' ∧ (v.ownBlock = some g ∨ w.heap.size ≤ g) := by
  obtain ⟨g, cap, w', h1, h2, h3, h4⟩ := run_pushS (P := Tryz.prog) (t := 26) (e := 49) (c := 4) Tryz.underlying26 infoT rfl (by decide) w 26 h.1 (tyc t u) rfl (fun x hx => by simp [tyc] at hx; rcases hx with rfl | rfl | rfl | rfl; rfl; rfl; rfl; exact hu1) (by unfold maxLen; omega) (by omega) hB
  have hs : ∀ k, v.ownBlock = some k → B ≤ k := fun k hk => (h.1.lt k hk).1
  have hn : ∀ k ys, v.ownBlock = some k → Blk w k 67 ys → False := fun k ys hk hb => by
    obtain ⟨zs, hz⟩ := ownS_type h.1 hk
    exact absurd (blk_type hz hb) (by decide)
  refine ⟨g, cap, w', h1, ⟨?_, fun p hp => ?_⟩, h3, h4⟩
  · rw [cellsG_app, cellsG_one, List.length_append, List.length_singleton]
    exact h2
  · rcases List.mem_append.1 hp with hp | hp
    · exact (h.2 p hp).upd h3 hs hn
    · simp at hp
      subst hp
      exact ht.upd h3 hs hn
def mkP : Ptz := ⟨⟨#[109, 97, 114, 107]⟩, 7, 0⟩
def mkT : Ty := ⟨77, 0, 0, []⟩
/-- append(v, x...), v an empty row of the call's own. -/
theorem run_copyEz {α : Type} {c : Nat} {f : α → List Value} {P : Program} {t e : TypeId} {z : Value} {bytes : Nat} (hf : ∀ x, (f x).length = c) (hone : ∀ x, ∀ u ∈ f x, u.oneCell' = true) (ht : P.underlying t = some (.slice e)) (hinfo : (P.info? e).map (fun i => (i.zero, i.size, i.bytes)) = some (some z, c, bytes)) (hzs : z.cells.size = c) (hc : 0 < c)
    (w : World) {B : Nat} {v : Value} (hv : w.ownsRow B e c v 0 []) (a : Option Addr) (n cap : Nat) (l : List α) (hn : l.length = n) (hr : GRow c f w a l) (hnil : a = none → cap = 0) (h63 : n ≤ maxLen) (hl : n * bytes ≤ 140737488355328) (hB : B ≤ w.heap.size) :
    ∃ v' w', (Builtin.append_ #[t, t] t #[v, .slice a n cap]).run P w = .ok v' w' ∧ w'.ownsRow B e c v' n (cellsG f l) ∧ Upd (fun k => v.ownBlock = some k) w w' := by
  subst hn
  have hv2 : w.ownsRow B e c v ([] : List α).length (cellsG f ([] : List α)) := hv
  obtain ⟨i0, hi, hz0, hz1, hz2⟩ := info_parts hinfo
  rcases hr with rfl | ⟨b, off, rfl, hb, hcl⟩
  · cases a with
    | none =>
      obtain rfl := hnil rfl
      exact ⟨_, w, run_append_owned_none (P := P) w B t t e i0 c ht hi v 0 [] hv, hv, Upd.refl _ _⟩
    | some x =>
      obtain ⟨v', w', hrun, h2, h3, h4, h5⟩ := run_append_own_at (P := P) w B t t e i0 z c bytes ht hi hz0 hz1 hz2 hzs hc v 0 [] hv x 0 cap [] (by simp) (fun j u hj => by simp at hj) (fun u hu => by cases hu) (by unfold maxLen; omega) (by omega) hB
      simp only [List.append_nil, Nat.add_zero] at h2
      exact ⟨v', w', by simpa using hrun, by simpa [cellsG] using h2, (Upd.refl _ w).grown h3 (fun k hk => .inl hk)⟩
  · obtain ⟨v', w', h1, h2, h3, -⟩ := run_appG (P := P) hf hone ht hinfo hzs hc w hv2 b off cap l (fun i x hx j hj => hcl i x hx j hj) (by simpa using h63) (by simpa using hl) hB
    refine ⟨v', w', h1, ?_, h3⟩
    simpa using h2
/-- An empty list laid. -/
theorem emptyE (w : World) (e : TypeId) (c B : Nat) (hB : B ≤ w.heap.size) : (w.alloc (.cells #[] e)).ownsRow B e c (.slice (some ⟨w.heap.size, 0, none⟩) 0 0) 0 [] := by
  have h := ownS_of_blk (B := B) (n := 0) (c := c) (cap := 0) (Blk.newA w #[] e) hB (by simp) (Nat.le_refl _) (by unfold maxLen; omega)
  simpa using h
theorem ptE (w : World) (va : Option Addr) (vc : Nat) (ps : List Ptz) (hP : PRow w va ps) (hvn : va = none → vc = 0) (hpl : ps.length ≤ 4398046510976) :
    ∃ a1 c1 w1 g2 c2 w2, (Builtin.append_ #[47, 47] 47 #[.slice (some ⟨w.heap.size, 0, none⟩) 0 0, .slice va ps.length vc]).run Tryz.prog (w.alloc (.cells #[] 67)) = .ok (.slice a1 ps.length c1) w1 ∧
      (Builtin.append_ #[47, 47] 47 #[.slice a1 ps.length c1, .slice (some ⟨w1.heap.size, 0, none⟩) 1 1]).run Tryz.prog (w1.alloc (.cells #[.string ⟨#[109, 97, 114, 107]⟩, .int .i64 7, .int .i64 0] 67)) = .ok (.slice (some ⟨g2, 0, none⟩) (ps.length + 1) c2) w2 ∧
      MkIn w2 w.heap.size mkP ps (.slice (some ⟨g2, 0, none⟩) ps.length c2) ∧ Below w.heap.size w w2 ∧ ps.length + 1 ≤ c2 := by
  have b0 := below1 w (.cells #[] 67)
  obtain ⟨v1, w1, h1, h2, h3⟩ := run_copyEz (P := Tryz.prog) ptc_len ptc_one Tryz.underlying47 infoP rfl (by decide) _ (emptyE w 67 3 w.heap.size (Nat.le_refl _)) va ps.length vc ps rfl (hP.later b0) hvn (by unfold maxLen; omega) (by omega) b0.size
  have h2' : POwn w1 w.heap.size v1 ps := h2
  have hb1 : Below w.heap.size w w1 := b0.trans (h3.below _ b0.size (fun k hk => by have := own_is hk; omega))
  have kb : Blk (w1.alloc (.cells #[.string ⟨#[109, 97, 114, 107]⟩, .int .i64 7, .int .i64 0] 67)) w1.heap.size 67 (ptc mkP) := Blk.newA w1 _ _
  have ba := below1 w1 (.cells #[.string ⟨#[109, 97, 114, 107]⟩, .int .i64 7, .int .i64 0] 67)
  obtain ⟨g2, c2, w2, k1, k2, k3, k4, k5, -⟩ := run_app1 (P := Tryz.prog) ptc_len ptc_one Tryz.underlying47 infoP rfl (by decide) _ (h2'.later ba) w1.heap.size mkP kb (by unfold maxLen; omega) (by omega) (Nat.le_trans hb1.size ba.size)
  have hb2 : Below w.heap.size w w2 := (below_to hb1 ba).trans (k3.below _ (Nat.le_trans hb1.size ba.size) (fun k hk => (World.ownsRow.lt h2' k hk).1))
  obtain ⟨a1, c1, e1, -, -, -⟩ := own_grow ptc_len h2'
  subst e1
  exact ⟨a1, c1, w1, g2, c2, w2, h1, k1, POwn.mkIn (B := w.heap.size) (by rw [List.length_append, List.length_singleton] at k2; unfold POwn; rw [List.length_append, List.length_singleton]; exact k2), hb2, k5⟩
/-- Types with where their parts lie. -/
theorem TRowz.pairs {w : World} {a : Option Addr} {T : List Ty} (h : TRowz w a T) (B : Nat) (hB : w.heap.size ≤ B) : ∃ Q : List (Ty × Value), Q.map (·.1) = T ∧ GRow 4 tyq w a Q ∧ ∀ p ∈ Q, PtIn w B p.1.ps p.2 := by
  rcases h with h | ⟨b, off, rfl, hb, hc⟩
  · exact ⟨[], by rw [h]; rfl, .inl rfl, fun p hp => by cases hp⟩
  · have key : ∀ n, n ≤ T.length → ∃ Q : List (Ty × Value), Q.map (·.1) = T.take n ∧ (∀ (i : Nat) (p : Ty × Value), Q[i]? = some p → (∀ j, j < 4 → w.cell? ⟨b, off + i * 4 + j, none⟩ = (tyq p)[j]?)) ∧ ∀ p ∈ Q, PtIn w B p.1.ps p.2 := fun n => by
      induction n with
      | zero => exact fun _ => ⟨[], by simp, fun i p hp => by simp at hp, fun p hp => by cases hp⟩
      | succ n ih =>
        intro hn
        obtain ⟨Q, h1, h2, h3⟩ := ih (by omega)
        have hx : T[n]? = some (T[n]'(by omega)) := List.getElem?_eq_getElem _
        obtain ⟨va, vc, c1, c2, c3, c4⟩ := hc n _ hx
        have hl : Q.length = n := by have := congrArg List.length h1; simp at this; omega
        refine ⟨Q ++ [(T[n]'(by omega), .slice va (T[n]'(by omega)).ps.length vc)], ?_, fun i p hp => ?_, fun p hp => ?_⟩
        · rw [List.map_append, h1, List.take_succ_eq_append_getElem (by omega)]
          rfl
        · by_cases hi : i < Q.length
          · rw [List.getElem?_append_left hi] at hp
            exact h2 i p hp
          · have hi2 : i = n := by
              have := (List.getElem?_eq_some_iff.1 hp).1
              simp at this
              omega
            subst hi2
            rw [List.getElem?_append_right (by omega), hl, Nat.sub_self] at hp
            simp at hp
            subst hp
            exact c1
        · rcases List.mem_append.1 hp with hp | hp
          · exact h3 p hp
          · simp at hp
            subst hp
            refine ⟨va, vc, rfl, c2, c3, c4, ?_⟩
            rcases c4 with c4 | ⟨b', o', rfl, hb', -⟩
            · exact .inl c4
            · exact .inr (fun x hx => by injection hx with hx; subst hx; exact .inl (by show b' < B; omega))
    obtain ⟨Q, h1, h2, h3⟩ := key T.length (Nat.le_refl _)
    rw [List.take_length] at h1
    exact ⟨Q, h1, .inr ⟨b, off, rfl, hb, h2⟩, h3⟩
theorem TOwn.set3 {w : World} {B g n cap i : Nat} {Q : List (Ty × Value)} {p : Ty × Value} (h : TOwn w B (.slice (some ⟨g, 0, none⟩) n cap) Q) (hx : Q[i]? = some p) (u : Value) (ht : PtIn w B p.1.ps u) :
    TOwn (w.setCell ⟨g, i * 4 + 3, none⟩ u) B (.slice (some ⟨g, 0, none⟩) n cap) (Q.set i (p.1, u)) ∧ Upd (fun k => k = g) w (w.setCell ⟨g, i * 4 + 3, none⟩ u) := by
  have hu : Upd (fun k => k = g) w (w.setCell ⟨g, i * 4 + 3, none⟩ u) := (Upd.refl (fun k => k = g) w).set ⟨g, i * 4 + 3, none⟩ u (.inl rfl)
  obtain ⟨zs, hz⟩ := ownS_type h.1 (k := g) rfl
  have hg := (World.ownsRow.lt h.1 g rfl).1
  have hn : ∀ k ys, k = g → Blk w k 67 ys → False := fun k ys e hb => by
    subst e
    exact absurd (blk_type hz hb) (by decide)
  refine ⟨⟨row_setc tyq_len h.1 hx (p.1, u) u (j := 3) (by decide) rfl, fun q hq => ?_⟩, hu⟩
  rcases List.mem_or_eq_of_mem_set hq with hq | rfl
  · exact (h.2 q hq).upd hu (fun k e => by omega) hn
  · exact ht.upd hu (fun k e => by omega) hn
set_option maxRecDepth 100000 in
/-- append(v, x...), x types with where their parts lie. -/
theorem run_copyE2 (w : World) {B : Nat} {v : Value} (hv : w.ownsRow B 49 4 v 0 []) (a : Option Addr) (n cap : Nat) (Q : List (Ty × Value)) (hn : Q.length = n) (hr : GRow 4 tyq w a Q) {w0 : World} {B0 : Nat} (hp : ∀ p ∈ Q, PtIn w0 B0 p.1.ps p.2) (hnil : a = none → cap = 0) (hl : n ≤ 2932031007401) (hB : B ≤ w.heap.size) :
    ∃ v' w', (Builtin.append_ #[26, 26] 26 #[v, .slice a n cap]).run Tryz.prog w = .ok v' w' ∧ w'.ownsRow B 49 4 v' n (cellsG tyq Q) ∧ Upd (fun k => v.ownBlock = some k) w w' := by
  subst hn
  obtain ⟨i0, hi, hz0, hz1, hz2⟩ := info_parts infoT
  rcases hr with rfl | ⟨b, off, rfl, hb, hcl⟩
  · cases a with
    | none =>
      obtain rfl := hnil rfl
      exact ⟨_, w, run_append_owned_none (P := Tryz.prog) w B _ _ _ i0 4 Tryz.underlying26 hi v 0 [] hv, hv, Upd.refl _ _⟩
    | some x =>
      obtain ⟨v', w', hrun, h2, h3, h4, h5⟩ := run_append_own_at (P := Tryz.prog) w B _ _ _ i0 _ 4 48 Tryz.underlying26 hi hz0 hz1 hz2 rfl (by decide) v 0 [] hv x 0 cap [] (by simp) (fun j u hj => by simp at hj) (fun u hu => by cases hu) (by unfold maxLen; omega) (by omega) hB
      simp only [List.append_nil, Nat.add_zero] at h2
      exact ⟨v', w', by simpa using hrun, by simpa [cellsG] using h2, (Upd.refl _ w).grown h3 (fun k hk => .inl hk)⟩
  · have hall : ∀ u ∈ cellsG tyq Q, u.oneCell' = true := fun u hu => by
      simp only [cellsG, List.mem_flatMap] at hu
      obtain ⟨p, hp1, hx⟩ := hu
      obtain ⟨va, vc, e, -⟩ := hp p hp1
      simp [tyq, tyc, e] at hx
      rcases hx with rfl | rfl | rfl | rfl <;> rfl
    have hcell : ∀ j u, (cellsG tyq Q)[j]? = some u → w.cell? ((⟨b, off, none⟩ : Addr).add j) = some u := fun j u hj => by
      have hlt := (List.getElem?_eq_some_iff.1 hj).1
      rw [cellsG_len tyq_len] at hlt
      have hi : j / 4 < Q.length := by omega
      have hx : Q[j / 4]? = some (Q[j / 4]'hi) := List.getElem?_eq_getElem hi
      have h1 := hcl (j / 4) _ hx (j % 4) (Nat.mod_lt _ (by decide))
      have h2 := cellsG_at tyq_len Q (j / 4) (j % 4) _ hx (Nat.mod_lt _ (by decide))
      have e : j / 4 * 4 + j % 4 = j := by omega
      rw [e] at h2
      rw [add_none, ← hj, h2, ← h1]
      congr 2
      omega
    obtain ⟨v', w', hrun, h2, h3, h4, h5⟩ := run_append_own_at (P := Tryz.prog) w B _ _ _ i0 _ 4 48 Tryz.underlying26 hi hz0 hz1 hz2 rfl (by decide) v 0 [] hv ⟨b, off, none⟩ Q.length cap (cellsG tyq Q) (cellsG_len tyq_len Q) hcell hall (by unfold maxLen; omega) (by omega) hB
    rw [Nat.zero_add, List.nil_append] at h2
    exact ⟨v', w', hrun, h2, (Upd.refl _ w).grown h3 (fun k hk => .inl hk)⟩
/-- The copy under way. -/
structure OwS (w wr : World) (v : Value) (Q : List (Ty × Value)) (i : Nat) (a b : Value) : Prop where
  ty : TOwn wr w.heap.size v Q
  mks : ∀ (j : Nat) (p : Ty × Value), j < i → Q[j]? = some p → MkIn wr w.heap.size mkP p.1.ps p.2
  kb : Blk wr w.heap.size 29 [a, b]
  kr : Blk wr (w.heap.size + 1) 29 [.slice none 0 0, .slice none 0 0]
  bl : Below w.heap.size w wr
theorem OwS.later {w wr wz : World} {v a b : Value} {Q : List (Ty × Value)} {i : Nat} (h : OwS w wr v Q i a b) (hB : Below wr.heap.size wr wz) : OwS w wz v Q i a b :=
  ⟨h.ty.later hB, fun j p hj hp => (h.mks j p hj hp).later hB, h.kb.later hB, h.kr.later hB, below_to h.bl hB⟩
/-- A type's parts are copied, with a mark behind them. -/
theorem OwS.step {w wr : World} {g n cap i : Nat} {a b : Value} {Q : List (Ty × Value)} {t : Ty} {u : Value} (h : OwS w wr (.slice (some ⟨g, 0, none⟩) n cap) Q i a b) (hx : Q[i]? = some (t, u)) (hpl : t.ps.length ≤ 4398046510976) :
    ∃ va vc a1 c1 w1 g2 c2 w2, u = .slice va t.ps.length vc ∧ wr.cell? ⟨g, i * 4 + 3, none⟩ = some (.slice va t.ps.length vc) ∧ (wr.alloc (.cells #[] 67)).cell? ⟨g, i * 4 + 3, none⟩ = some (.slice va t.ps.length vc) ∧ (Builtin.append_ #[47, 47] 47 #[.slice (some ⟨wr.heap.size, 0, none⟩) 0 0, .slice va t.ps.length vc]).run Tryz.prog (wr.alloc (.cells #[] 67)) = .ok (.slice a1 t.ps.length c1) w1 ∧
      (Builtin.append_ #[47, 47] 47 #[.slice a1 t.ps.length c1, .slice (some ⟨w1.heap.size, 0, none⟩) 1 1]).run Tryz.prog (w1.alloc (.cells #[.string ⟨#[109, 97, 114, 107]⟩, .int .i64 7, .int .i64 0] 67)) = .ok (.slice (some ⟨g2, 0, none⟩) (t.ps.length + 1) c2) w2 ∧
      w2.cell? ⟨g, i * 4 + 3, none⟩ = some (.slice va t.ps.length vc) ∧ w2.frozen? ⟨g, i * 4 + 3, none⟩ = false ∧ t.ps.length + 1 ≤ c2 ∧ OwS w (w2.setCell ⟨g, i * 4 + 3, none⟩ (.slice (some ⟨g2, 0, none⟩) t.ps.length c2)) (.slice (some ⟨g, 0, none⟩) n cap) (Q.set i (t, .slice (some ⟨g2, 0, none⟩) t.ps.length c2)) (i + 1) a b := by
  have hpin : PtIn wr w.heap.size t.ps u := h.ty.2 _ (List.mem_of_getElem? hx)
  obtain ⟨va, vc, rfl, p1, p2, p3, p4⟩ := hpin
  obtain ⟨a1, c1, w1, g2, c2, w2, h1, h2, h3, h4, h5⟩ := ptE wr va vc t.ps p3 p2 hpl
  have hil : i < Q.length := (List.getElem?_eq_some_iff.1 hx).1
  have H2 := h.later h4
  have hB : w.heap.size ≤ wr.heap.size := h.bl.size
  have hm : MkIn w2 w.heap.size mkP t.ps (.slice (some ⟨g2, 0, none⟩) t.ps.length c2) := by
    obtain ⟨g', c', e, q1, q2, q3, q4⟩ := h3
    exact ⟨g', c', e, q1, q2, Nat.le_trans hB q3, q4⟩
  obtain ⟨hs, hu⟩ := H2.ty.set3 hx (.slice (some ⟨g2, 0, none⟩) t.ps.length c2) (hm.ptIn _)
  obtain ⟨zs, hz⟩ := ownS_type H2.ty.1 (k := g) rfl
  have hg := (World.ownsRow.lt H2.ty.1 g rfl).1
  have hn : ∀ k ys, k = g → Blk w2 k 67 ys → False := fun k ys e hb => by
    subst e
    exact absurd (blk_type hz hb) (by decide)
  refine ⟨va, vc, a1, c1, w1, g2, c2, w2, rfl, (h.ty.at4 hx).2.2.2, ((h.ty.later (below1 wr _)).at4 hx).2.2.2, h1, h2, (H2.ty.at4 hx).2.2.2, H2.ty.fr _, h5, hs, fun j p hj hp => ?_, H2.kb.upd hu (fun e => by rw [e] at hg; have := H2.kb; subst e; exact absurd (blk_type hz this) (by decide)), H2.kr.upd hu (fun e => by have := H2.kr; rw [e] at this; exact absurd (blk_type hz this) (by decide)), H2.bl.trans (hu.below _ H2.bl.size (fun k e => by omega))⟩
  by_cases hji : j = i
  · subst hji
    rw [List.getElem?_set_self hil] at hp
    injection hp with hp
    subst hp
    exact hm.upd hu hn
  · rw [List.getElem?_set_ne (fun e => hji e.symm)] at hp
    exact (H2.mks j p (by omega) hp).upd hu hn
/-- A schema lent by own. -/
structure LtO (w : World) (B gT cT : Nat) (Q : List (Ty × Value)) (vR : Value) (R : List Rt) : Prop where
  ty : TOwn w B (.slice (some ⟨gT, 0, none⟩) (Q.length + 1) cT) (Q ++ [(mkT, .slice none 0 0)])
  mks : ∀ p ∈ Q, MkIn w B mkP p.1.ps p.2
  rt : ROwn w B vR R
theorem LtO.later {w w' : World} {B gT cT : Nat} {Q : List (Ty × Value)} {vR : Value} {R : List Rt} (h : LtO w B gT cT Q vR R) (hB : Below w.heap.size w w') : LtO w' B gT cT Q vR R := ⟨h.ty.later hB, fun p hp => (h.mks p hp).later hB, h.rt.later hB⟩
theorem LtO.row {w : World} {B gT cT nR cR : Nat} {aR : Option Addr} {Q : List (Ty × Value)} {R : List Rt} (h : LtO w B gT cT Q (.slice aR nR cR) R) : TRowz w (some ⟨gT, 0, none⟩) (Q.map (·.1)) ∧ RRow w aR R := by
  have h1 := town_row h.ty rfl
  have h3 := h1.take Q.length
  have e3 : (Q.map (·.1)).length = Q.length := by simp
  rw [List.map_append, ← e3, List.take_left] at h3
  exact ⟨h3, rown_row h.rt⟩
theorem LtO.caps {w : World} {B gT cT : Nat} {Q : List (Ty × Value)} {vR : Value} {R : List Rt} (h : LtO w B gT cT Q vR R) : Q.length + 1 ≤ cT ∧ w.cell? ⟨gT, Q.length * 4, none⟩ = some (.int .i64 77) := by
  obtain ⟨_, _, e, h1, -, -⟩ := own_grow tyq_len h.ty.1
  injection e with _ e2 e3
  exact ⟨by rw [e3]; simpa using h1, (h.ty.at4 (i := Q.length) (p := (mkT, .slice none 0 0)) (by simp)).1⟩
/-- The mark behind the types. -/
theorem OwS.seal {w wr : World} {v a b : Value} {Q : List (Ty × Value)} (h : OwS w wr v Q Q.length a b) (hl : Q.length ≤ 2932031007401) :
    ∃ g c w', (Builtin.append_ #[26, 26] 26 #[v, .slice (some ⟨wr.heap.size, 0, none⟩) 1 1]).run Tryz.prog (wr.alloc (.cells #[.int .i64 77, .int .i64 0, .int .i64 0, .slice none 0 0] 49)) = .ok (.slice (some ⟨g, 0, none⟩) (Q.length + 1) c) w' ∧ TOwn w' w.heap.size (.slice (some ⟨g, 0, none⟩) (Q.length + 1) c) (Q ++ [(mkT, .slice none 0 0)]) ∧ (∀ p ∈ Q, MkIn w' w.heap.size mkP p.1.ps p.2) ∧ Blk w' w.heap.size 29 [a, b] ∧ Blk w' (w.heap.size + 1) 29 [.slice none 0 0, .slice none 0 0] ∧ Below w.heap.size w w' ∧ Q.length + 1 ≤ c := by
  obtain ⟨g, c, w', h1, h2, h3, h4⟩ := h.ty.push2 mkT (.slice none 0 0) rfl ⟨none, 0, rfl, Nat.le_refl _, fun _ => rfl, .inl rfl, .inl rfl⟩ (by omega) h.bl.size
  have hty : ∀ k, v.ownBlock = some k → ∃ zs, Blk wr k 49 zs := fun k hk => ownS_type h.ty.1 hk
  have hN : ∀ {g t xs}, Blk wr g t xs → t ≠ 49 → Blk w' g t xs := fun hb ht => hb.upd h3 (fun e => by
    obtain ⟨zs, hz⟩ := hty _ e
    exact ht (blk_type hb hz))
  obtain ⟨_, _, e, hc, -, -⟩ := own_grow tyq_len h2.1
  injection e with _ e2 e3
  refine ⟨g, c, w', h1, h2, fun p hp => ?_, hN h.kb (by decide), hN h.kr (by decide), h.bl.trans (h3.below _ h.bl.size (fun k hk => (h.ty.1.lt k hk).1)), by rw [e3]; simpa using hc⟩
  obtain ⟨j, hj, rfl⟩ := List.getElem_of_mem hp
  exact (h.mks j _ hj (List.getElem?_eq_getElem hj)).upd h3 (fun k ys hk hb => by
    obtain ⟨zs, hz⟩ := hty k hk
    exact absurd (blk_type hz hb) (by decide))
end Go.Proofs.YtbgjgbddpcofcaaGreatDoor
