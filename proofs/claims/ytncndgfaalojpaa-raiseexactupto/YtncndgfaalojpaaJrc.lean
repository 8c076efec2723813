import Derived.Test.YtncndgfaalojpaaZlm
import Derived.Test.YtncndgfaalojpaaRwa
import Derived.Test.YtncndgfaalojpaaRgf
import Derived.Test.YtncndgfaalojpaaRwb
import Derived.BigQuiet
import Derived.Test.YtncndgfaalojpaaJrb
import Derived.Test.YtncndgfaalojpaaRows
import Derived.Test.YtncndgfaalojpaaRead
import Derived.Test.YtncndgfaalojpaaZrs
import Derived.WalkKit
import Derived.Below
import Derived.OpenShut
import Derived.JoinedCond
/- mortiselaw17's own: what lies in memory. -/
namespace Go.Proofs.Ytncndgfaalojpaa
open Go.RowKit
set_option linter.unusedVariables false

theorem TOwn.push2 {w : World} {B : Nat} {v : Value} {Q : List (Ty × Value)} (h : TOwn w B v Q) (t : Ty) (u : Value) (hu1 : u.oneCell' = true) (ht : PtIn w B t.ps u) (hl : Q.length ≤ 1000000000) (hB : B ≤ w.heap.size) :
    ∃ g c w', (Builtin.append_ #[22, 22] 22 #[v, .slice (some ⟨w.heap.size, 0, none⟩) 1 1]).run Try.prog (w.alloc (.cells #[.int .i64 t.k, .int .i64 t.n, .int .i64 t.e, u] 43)) = .ok (.slice (some ⟨g, 0, none⟩) (Q.length + 1) c) w' ∧ TOwn w' B (.slice (some ⟨g, 0, none⟩) (Q.length + 1) c) (Q ++ [(t, u)]) ∧ Upd (fun k => v.ownBlock = some k) w w' ∧ (v.ownBlock = some g ∨ w.heap.size ≤ g) := by
  obtain ⟨g, cap, w', h1, h2, h3, h4⟩ := run_pushS (P := Try.prog) (t := 22) (e := 43) (c := 4) Try.underlying22 infoT rfl (by decide) w 22 h.1 (tyc t u) rfl (fun x hx => by simp [tyc] at hx; rcases hx with rfl | rfl | rfl | rfl; rfl; rfl; rfl; exact hu1) (by unfold maxLen; omega) (by omega) hB
  have hs : ∀ k, v.ownBlock = some k → B ≤ k := fun k hk => (h.1.lt k hk).1
  have hn : ∀ k ys, v.ownBlock = some k → Blk w k 58 ys → False := fun k ys hk hb => by
    obtain ⟨zs, hz⟩ := ownS_type h.1 hk
    exact absurd (blk_type hz hb) (by decide)
  refine ⟨g, cap, w', h1, ⟨?_, fun p hp => ?_⟩, h3, h4⟩
  · rw [cellsG_app, cellsG_one, List.length_append, List.length_singleton]
    exact h2
  · rcases List.mem_append.1 hp with hp | hp
    · exact (h.2 p hp).upd h3 hs hn
    · simp at hp
      subst hp
      exact ht.upd h3 hs hn
def mkP : Pt := ⟨⟨#[109, 97, 114, 107]⟩, 7, 0⟩
def mkT : Ty := ⟨77, 0, 0, []⟩
/-- append(v, x...), v an empty row of the call's own. -/
theorem run_copyE {α : Type} {c : Nat} {f : α → List Value} {P : Program} {t e : TypeId} {z : Value} {bytes : Nat} (hf : ∀ x, (f x).length = c) (hone : ∀ x, ∀ u ∈ f x, u.oneCell' = true) (ht : P.underlying t = some (.slice e)) (hinfo : (P.info? e).map (fun i => (i.zero, i.size, i.bytes)) = some (some z, c, bytes)) (hzs : z.cells.size = c) (hc : 0 < c)
    (w : World) {B : Nat} {v : Value} (hv : w.ownsRow B e c v 0 []) (a : Option Addr) (n cap : Nat) (l : List α) (hn : l.length = n) (hr : GRow c f w a l) (hnil : a = none → cap = 0) (h63 : n ≤ maxLen) (hl : n * bytes ≤ 140737488355328) (hB : B ≤ w.heap.size) :
    ∃ v' w', (Builtin.append_ #[t, t] t #[v, .slice a n cap]).run P w = .ok v' w' ∧ w'.ownsRow B e c v' n (cellsG f l) ∧ Upd (fun k => v.ownBlock = some k) w w' := by
  subst hn
  have hv2 : w.ownsRow B e c v ([] : List α).length (cellsG f ([] : List α)) := hv
  obtain ⟨i0, hi, hz0, hz1, hz2⟩ := info_parts hinfo
  rcases hr with rfl | ⟨b, off, rfl, hb, hcl⟩
  · cases a with
    | none =>
      obtain rfl := hnil rfl
      exact ⟨_, w, run_append_owned_none (P := P) w B t t e i0 c ht hi v 0 [] hv, hv, Upd.refl _ _⟩
    | some x =>
      obtain ⟨v', w', hrun, h2, h3, h4, h5⟩ := run_append_own_at (P := P) w B t t e i0 z c bytes ht hi hz0 hz1 hz2 hzs hc v 0 [] hv x 0 cap [] (by simp) (fun j u hj => by simp at hj) (fun u hu => by cases hu) (by unfold maxLen; omega) (by omega) hB
      simp only [List.append_nil, Nat.add_zero] at h2
      exact ⟨v', w', by simpa using hrun, by simpa [cellsG] using h2, (Upd.refl _ w).grown h3 (fun k hk => .inl hk)⟩
  · obtain ⟨v', w', h1, h2, h3, -⟩ := run_appG (P := P) hf hone ht hinfo hzs hc w hv2 b off cap l (fun i x hx j hj => hcl i x hx j hj) (by simpa using h63) (by simpa using hl) hB
    refine ⟨v', w', h1, ?_, h3⟩
    simpa using h2
/-- An empty list laid. -/
theorem emptyE (w : World) (e : TypeId) (c B : Nat) (hB : B ≤ w.heap.size) : (w.alloc (.cells #[] e)).ownsRow B e c (.slice (some ⟨w.heap.size, 0, none⟩) 0 0) 0 [] := by
  have h := ownS_of_blk (B := B) (n := 0) (c := c) (cap := 0) (Blk.newA w #[] e) hB (by simp) (Nat.le_refl _) (by unfold maxLen; omega)
  simpa using h
theorem ptE (w : World) (va : Option Addr) (vc : Nat) (ps : List Pt) (hP : PRow w va ps) (hvn : va = none → vc = 0) (hpl : ps.length ≤ 2000000) :
    ∃ a1 c1 w1 g2 c2 w2, (Builtin.append_ #[41, 41] 41 #[.slice (some ⟨w.heap.size, 0, none⟩) 0 0, .slice va ps.length vc]).run Try.prog (w.alloc (.cells #[] 58)) = .ok (.slice a1 ps.length c1) w1 ∧
      (Builtin.append_ #[41, 41] 41 #[.slice a1 ps.length c1, .slice (some ⟨w1.heap.size, 0, none⟩) 1 1]).run Try.prog (w1.alloc (.cells #[.string ⟨#[109, 97, 114, 107]⟩, .int .i64 7, .int .i64 0] 58)) = .ok (.slice (some ⟨g2, 0, none⟩) (ps.length + 1) c2) w2 ∧
      MkIn w2 w.heap.size mkP ps (.slice (some ⟨g2, 0, none⟩) ps.length c2) ∧ Below w.heap.size w w2 ∧ ps.length + 1 ≤ c2 := by
  have b0 := below1 w (.cells #[] 58)
  obtain ⟨v1, w1, h1, h2, h3⟩ := run_copyE (P := Try.prog) ptc_len ptc_one Try.underlying41 infoP rfl (by decide) _ (emptyE w 58 3 w.heap.size (Nat.le_refl _)) va ps.length vc ps rfl (hP.later b0) hvn (by unfold maxLen; omega) (by omega) b0.size
  have h2' : POwn w1 w.heap.size v1 ps := h2
  have hb1 : Below w.heap.size w w1 := b0.trans (h3.below _ b0.size (fun k hk => by have := own_is hk; omega))
  have kb : Blk (w1.alloc (.cells #[.string ⟨#[109, 97, 114, 107]⟩, .int .i64 7, .int .i64 0] 58)) w1.heap.size 58 (ptc mkP) := Blk.newA w1 _ _
  have ba := below1 w1 (.cells #[.string ⟨#[109, 97, 114, 107]⟩, .int .i64 7, .int .i64 0] 58)
  obtain ⟨g2, c2, w2, k1, k2, k3, k4, k5, -⟩ := run_app1 (P := Try.prog) ptc_len ptc_one Try.underlying41 infoP rfl (by decide) _ (h2'.later ba) w1.heap.size mkP kb (by unfold maxLen; omega) (by omega) (Nat.le_trans hb1.size ba.size)
  have hb2 : Below w.heap.size w w2 := (below_to hb1 ba).trans (k3.below _ (Nat.le_trans hb1.size ba.size) (fun k hk => (World.ownsRow.lt h2' k hk).1))
  obtain ⟨a1, c1, e1, -, -, -⟩ := own_grow ptc_len h2'
  subst e1
  exact ⟨a1, c1, w1, g2, c2, w2, h1, k1, POwn.mkIn (B := w.heap.size) (by rw [List.length_append, List.length_singleton] at k2; unfold POwn; rw [List.length_append, List.length_singleton]; exact k2), hb2, k5⟩
/-- Types with where their parts lie. -/
theorem TRow.pairs {w : World} {a : Option Addr} {T : List Ty} (h : TRow w a T) (B : Nat) (hB : w.heap.size ≤ B) : ∃ Q : List (Ty × Value), Q.map (·.1) = T ∧ GRow 4 tyq w a Q ∧ ∀ p ∈ Q, PtIn w B p.1.ps p.2 := by
  rcases h with h | ⟨b, off, rfl, hb, hc⟩
  · exact ⟨[], by rw [h]; rfl, .inl rfl, fun p hp => by cases hp⟩
  · have key : ∀ n, n ≤ T.length → ∃ Q : List (Ty × Value), Q.map (·.1) = T.take n ∧ (∀ (i : Nat) (p : Ty × Value), Q[i]? = some p → (∀ j, j < 4 → w.cell? ⟨b, off + i * 4 + j, none⟩ = (tyq p)[j]?)) ∧ ∀ p ∈ Q, PtIn w B p.1.ps p.2 := fun n => by
      induction n with
      | zero => exact fun _ => ⟨[], by simp, fun i p hp => by simp at hp, fun p hp => by cases hp⟩
      | succ n ih =>
        intro hn
        obtain ⟨Q, h1, h2, h3⟩ := ih (by omega)
        have hx : T[n]? = some (T[n]'(by omega)) := List.getElem?_eq_getElem _
        obtain ⟨va, vc, c1, c2, c3, c4⟩ := hc n _ hx
        have hl : Q.length = n := by have := congrArg List.length h1; simp at this; omega
        refine ⟨Q ++ [(T[n]'(by omega), .slice va (T[n]'(by omega)).ps.length vc)], ?_, fun i p hp => ?_, fun p hp => ?_⟩
        · rw [List.map_append, h1, List.take_succ_eq_append_getElem (by omega)]
          rfl
        · by_cases hi : i < Q.length
          · rw [List.getElem?_append_left hi] at hp
            exact h2 i p hp
          · have hi2 : i = n := by
              have := (List.getElem?_eq_some_iff.1 hp).1
              simp at this
              omega
            subst hi2
            rw [List.getElem?_append_right (by omega), hl, Nat.sub_self] at hp
            simp at hp
            subst hp
            exact c1
        · rcases List.mem_append.1 hp with hp | hp
          · exact h3 p hp
          · simp at hp
            subst hp
            refine ⟨va, vc, rfl, c2, c3, c4, ?_⟩
            rcases c4 with c4 | ⟨b', o', rfl, hb', -⟩
            · exact .inl c4
            · exact .inr (fun x hx => by injection hx with hx; subst hx; exact .inl (by show b' < B; omega))
    obtain ⟨Q, h1, h2, h3⟩ := key T.length (Nat.le_refl _)
    rw [List.take_length] at h1
    exact ⟨Q, h1, .inr ⟨b, off, rfl, hb, h2⟩, h3⟩
theorem TOwn.set3 {w : World} {B g n cap i : Nat} {Q : List (Ty × Value)} {p : Ty × Value} (h : TOwn w B (.slice (some ⟨g, 0, none⟩) n cap) Q) (hx : Q[i]? = some p) (u : Value) (ht : PtIn w B p.1.ps u) :
    TOwn (w.setCell ⟨g, i * 4 + 3, none⟩ u) B (.slice (some ⟨g, 0, none⟩) n cap) (Q.set i (p.1, u)) ∧ Upd (fun k => k = g) w (w.setCell ⟨g, i * 4 + 3, none⟩ u) := by
  have hu : Upd (fun k => k = g) w (w.setCell ⟨g, i * 4 + 3, none⟩ u) := (Upd.refl (fun k => k = g) w).set ⟨g, i * 4 + 3, none⟩ u (.inl rfl)
  obtain ⟨zs, hz⟩ := ownS_type h.1 (k := g) rfl
  have hg := (World.ownsRow.lt h.1 g rfl).1
  have hn : ∀ k ys, k = g → Blk w k 58 ys → False := fun k ys e hb => by
    subst e
    exact absurd (blk_type hz hb) (by decide)
  refine ⟨⟨row_setc tyq_len h.1 hx (p.1, u) u (j := 3) (by decide) rfl, fun q hq => ?_⟩, hu⟩
  rcases List.mem_or_eq_of_mem_set hq with hq | rfl
  · exact (h.2 q hq).upd hu (fun k e => by omega) hn
  · exact ht.upd hu (fun k e => by omega) hn
set_option maxRecDepth 100000 in
/-- append(v, x...), x types with where their parts lie. -/
theorem run_copyE2 (w : World) {B : Nat} {v : Value} (hv : w.ownsRow B 43 4 v 0 []) (a : Option Addr) (n cap : Nat) (Q : List (Ty × Value)) (hn : Q.length = n) (hr : GRow 4 tyq w a Q) {w0 : World} {B0 : Nat} (hp : ∀ p ∈ Q, PtIn w0 B0 p.1.ps p.2) (hnil : a = none → cap = 0) (hl : n ≤ 2000000) (hB : B ≤ w.heap.size) :
    ∃ v' w', (Builtin.append_ #[22, 22] 22 #[v, .slice a n cap]).run Try.prog w = .ok v' w' ∧ w'.ownsRow B 43 4 v' n (cellsG tyq Q) ∧ Upd (fun k => v.ownBlock = some k) w w' := by
  subst hn
  obtain ⟨i0, hi, hz0, hz1, hz2⟩ := info_parts infoT
  rcases hr with rfl | ⟨b, off, rfl, hb, hcl⟩
  · cases a with
    | none =>
      obtain rfl := hnil rfl
      exact ⟨_, w, run_append_owned_none (P := Try.prog) w B _ _ _ i0 4 Try.underlying22 hi v 0 [] hv, hv, Upd.refl _ _⟩
    | some x =>
      obtain ⟨v', w', hrun, h2, h3, h4, h5⟩ := run_append_own_at (P := Try.prog) w B _ _ _ i0 _ 4 48 Try.underlying22 hi hz0 hz1 hz2 rfl (by decide) v 0 [] hv x 0 cap [] (by simp) (fun j u hj => by simp at hj) (fun u hu => by cases hu) (by unfold maxLen; omega) (by omega) hB
      simp only [List.append_nil, Nat.add_zero] at h2
      exact ⟨v', w', by simpa using hrun, by simpa [cellsG] using h2, (Upd.refl _ w).grown h3 (fun k hk => .inl hk)⟩
  · have hall : ∀ u ∈ cellsG tyq Q, u.oneCell' = true := fun u hu => by
      simp only [cellsG, List.mem_flatMap] at hu
      obtain ⟨p, hp1, hx⟩ := hu
      obtain ⟨va, vc, e, -⟩ := hp p hp1
      simp [tyq, tyc, e] at hx
      rcases hx with rfl | rfl | rfl | rfl <;> rfl
    have hcell : ∀ j u, (cellsG tyq Q)[j]? = some u → w.cell? ((⟨b, off, none⟩ : Addr).add j) = some u := fun j u hj => by
      have hlt := (List.getElem?_eq_some_iff.1 hj).1
      rw [cellsG_len tyq_len] at hlt
      have hi : j / 4 < Q.length := by omega
      have hx : Q[j / 4]? = some (Q[j / 4]'hi) := List.getElem?_eq_getElem hi
      have h1 := hcl (j / 4) _ hx (j % 4) (Nat.mod_lt _ (by decide))
      have h2 := cellsG_at tyq_len Q (j / 4) (j % 4) _ hx (Nat.mod_lt _ (by decide))
      have e : j / 4 * 4 + j % 4 = j := by omega
      rw [e] at h2
      rw [add_none, ← hj, h2, ← h1]
      congr 2
      omega
    obtain ⟨v', w', hrun, h2, h3, h4, h5⟩ := run_append_own_at (P := Try.prog) w B _ _ _ i0 _ 4 48 Try.underlying22 hi hz0 hz1 hz2 rfl (by decide) v 0 [] hv ⟨b, off, none⟩ Q.length cap (cellsG tyq Q) (cellsG_len tyq_len Q) hcell hall (by unfold maxLen; omega) (by omega) hB
    rw [Nat.zero_add, List.nil_append] at h2
    exact ⟨v', w', hrun, h2, (Upd.refl _ w).grown h3 (fun k hk => .inl hk)⟩
/-- The copy under way. -/
structure OwS (w wr : World) (v : Value) (Q : List (Ty × Value)) (i : Nat) (a b : Value) : Prop where
  ty : TOwn wr w.heap.size v Q
  mks : ∀ (j : Nat) (p : Ty × Value), j < i → Q[j]? = some p → MkIn wr w.heap.size mkP p.1.ps p.2
  kb : Blk wr w.heap.size 25 [a, b]
  kr : Blk wr (w.heap.size + 1) 25 [.slice none 0 0, .slice none 0 0]
  bl : Below w.heap.size w wr
theorem OwS.later {w wr wz : World} {v a b : Value} {Q : List (Ty × Value)} {i : Nat} (h : OwS w wr v Q i a b) (hB : Below wr.heap.size wr wz) : OwS w wz v Q i a b :=
  ⟨h.ty.later hB, fun j p hj hp => (h.mks j p hj hp).later hB, h.kb.later hB, h.kr.later hB, below_to h.bl hB⟩
/-- A type's parts are copied, with a mark behind them. -/
theorem OwS.step {w wr : World} {g n cap i : Nat} {a b : Value} {Q : List (Ty × Value)} {t : Ty} {u : Value} (h : OwS w wr (.slice (some ⟨g, 0, none⟩) n cap) Q i a b) (hx : Q[i]? = some (t, u)) (hpl : t.ps.length ≤ 2000000) :
    ∃ va vc a1 c1 w1 g2 c2 w2, u = .slice va t.ps.length vc ∧ wr.cell? ⟨g, i * 4 + 3, none⟩ = some (.slice va t.ps.length vc) ∧ (wr.alloc (.cells #[] 58)).cell? ⟨g, i * 4 + 3, none⟩ = some (.slice va t.ps.length vc) ∧ (Builtin.append_ #[41, 41] 41 #[.slice (some ⟨wr.heap.size, 0, none⟩) 0 0, .slice va t.ps.length vc]).run Try.prog (wr.alloc (.cells #[] 58)) = .ok (.slice a1 t.ps.length c1) w1 ∧
      (Builtin.append_ #[41, 41] 41 #[.slice a1 t.ps.length c1, .slice (some ⟨w1.heap.size, 0, none⟩) 1 1]).run Try.prog (w1.alloc (.cells #[.string ⟨#[109, 97, 114, 107]⟩, .int .i64 7, .int .i64 0] 58)) = .ok (.slice (some ⟨g2, 0, none⟩) (t.ps.length + 1) c2) w2 ∧
      w2.cell? ⟨g, i * 4 + 3, none⟩ = some (.slice va t.ps.length vc) ∧ w2.frozen? ⟨g, i * 4 + 3, none⟩ = false ∧ t.ps.length + 1 ≤ c2 ∧ OwS w (w2.setCell ⟨g, i * 4 + 3, none⟩ (.slice (some ⟨g2, 0, none⟩) t.ps.length c2)) (.slice (some ⟨g, 0, none⟩) n cap) (Q.set i (t, .slice (some ⟨g2, 0, none⟩) t.ps.length c2)) (i + 1) a b := by
  have hpin : PtIn wr w.heap.size t.ps u := h.ty.2 _ (List.mem_of_getElem? hx)
  obtain ⟨va, vc, rfl, p1, p2, p3, p4⟩ := hpin
  obtain ⟨a1, c1, w1, g2, c2, w2, h1, h2, h3, h4, h5⟩ := ptE wr va vc t.ps p3 p2 hpl
  have hil : i < Q.length := (List.getElem?_eq_some_iff.1 hx).1
  have H2 := h.later h4
  have hB : w.heap.size ≤ wr.heap.size := h.bl.size
  have hm : MkIn w2 w.heap.size mkP t.ps (.slice (some ⟨g2, 0, none⟩) t.ps.length c2) := by
    obtain ⟨g', c', e, q1, q2, q3, q4⟩ := h3
    exact ⟨g', c', e, q1, q2, Nat.le_trans hB q3, q4⟩
  obtain ⟨hs, hu⟩ := H2.ty.set3 hx (.slice (some ⟨g2, 0, none⟩) t.ps.length c2) (hm.ptIn _)
  obtain ⟨zs, hz⟩ := ownS_type H2.ty.1 (k := g) rfl
  have hg := (World.ownsRow.lt H2.ty.1 g rfl).1
  have hn : ∀ k ys, k = g → Blk w2 k 58 ys → False := fun k ys e hb => by
    subst e
    exact absurd (blk_type hz hb) (by decide)
  refine ⟨va, vc, a1, c1, w1, g2, c2, w2, rfl, (h.ty.at4 hx).2.2.2, ((h.ty.later (below1 wr _)).at4 hx).2.2.2, h1, h2, (H2.ty.at4 hx).2.2.2, H2.ty.fr _, h5, hs, fun j p hj hp => ?_, H2.kb.upd hu (fun e => by rw [e] at hg; have := H2.kb; subst e; exact absurd (blk_type hz this) (by decide)), H2.kr.upd hu (fun e => by have := H2.kr; rw [e] at this; exact absurd (blk_type hz this) (by decide)), H2.bl.trans (hu.below _ H2.bl.size (fun k e => by omega))⟩
  by_cases hji : j = i
  · subst hji
    rw [List.getElem?_set_self hil] at hp
    injection hp with hp
    subst hp
    exact hm.upd hu hn
  · rw [List.getElem?_set_ne (fun e => hji e.symm)] at hp
    exact (H2.mks j p (by omega) hp).upd hu hn
/-- A schema lent by own. -/
structure LtO (w : World) (B gT cT : Nat) (Q : List (Ty × Value)) (vR : Value) (R : List Rt) : Prop where
  ty : TOwn w B (.slice (some ⟨gT, 0, none⟩) (Q.length + 1) cT) (Q ++ [(mkT, .slice none 0 0)])
  mks : ∀ p ∈ Q, MkIn w B mkP p.1.ps p.2
  rt : ROwn w B vR R
theorem LtO.later {w w' : World} {B gT cT : Nat} {Q : List (Ty × Value)} {vR : Value} {R : List Rt} (h : LtO w B gT cT Q vR R) (hB : Below w.heap.size w w') : LtO w' B gT cT Q vR R := ⟨h.ty.later hB, fun p hp => (h.mks p hp).later hB, h.rt.later hB⟩
theorem LtO.row {w : World} {B gT cT nR cR : Nat} {aR : Option Addr} {Q : List (Ty × Value)} {R : List Rt} (h : LtO w B gT cT Q (.slice aR nR cR) R) : TRow w (some ⟨gT, 0, none⟩) (Q.map (·.1)) ∧ RRow w aR R := by
  have h1 := town_row h.ty rfl
  have h3 := h1.take Q.length
  have e3 : (Q.map (·.1)).length = Q.length := by simp
  rw [List.map_append, ← e3, List.take_left] at h3
  exact ⟨h3, rown_row h.rt⟩
theorem LtO.caps {w : World} {B gT cT : Nat} {Q : List (Ty × Value)} {vR : Value} {R : List Rt} (h : LtO w B gT cT Q vR R) : Q.length + 1 ≤ cT ∧ w.cell? ⟨gT, Q.length * 4, none⟩ = some (.int .i64 77) := by
  obtain ⟨_, _, e, h1, -, -⟩ := own_grow tyq_len h.ty.1
  injection e with _ e2 e3
  exact ⟨by rw [e3]; simpa using h1, (h.ty.at4 (i := Q.length) (p := (mkT, .slice none 0 0)) (by simp)).1⟩
/-- The mark behind the types. -/
theorem OwS.seal {w wr : World} {v a b : Value} {Q : List (Ty × Value)} (h : OwS w wr v Q Q.length a b) (hl : Q.length ≤ 2000000) :
    ∃ g c w', (Builtin.append_ #[22, 22] 22 #[v, .slice (some ⟨wr.heap.size, 0, none⟩) 1 1]).run Try.prog (wr.alloc (.cells #[.int .i64 77, .int .i64 0, .int .i64 0, .slice none 0 0] 43)) = .ok (.slice (some ⟨g, 0, none⟩) (Q.length + 1) c) w' ∧ TOwn w' w.heap.size (.slice (some ⟨g, 0, none⟩) (Q.length + 1) c) (Q ++ [(mkT, .slice none 0 0)]) ∧ (∀ p ∈ Q, MkIn w' w.heap.size mkP p.1.ps p.2) ∧ Blk w' w.heap.size 25 [a, b] ∧ Blk w' (w.heap.size + 1) 25 [.slice none 0 0, .slice none 0 0] ∧ Below w.heap.size w w' ∧ Q.length + 1 ≤ c := by
  obtain ⟨g, c, w', h1, h2, h3, h4⟩ := h.ty.push2 mkT (.slice none 0 0) rfl ⟨none, 0, rfl, Nat.le_refl _, fun _ => rfl, .inl rfl, .inl rfl⟩ (by omega) h.bl.size
  have hty : ∀ k, v.ownBlock = some k → ∃ zs, Blk wr k 43 zs := fun k hk => ownS_type h.ty.1 hk
  have hN : ∀ {g t xs}, Blk wr g t xs → t ≠ 43 → Blk w' g t xs := fun hb ht => hb.upd h3 (fun e => by
    obtain ⟨zs, hz⟩ := hty _ e
    exact ht (blk_type hb hz))
  obtain ⟨_, _, e, hc, -, -⟩ := own_grow tyq_len h2.1
  injection e with _ e2 e3
  refine ⟨g, c, w', h1, h2, fun p hp => ?_, hN h.kb (by decide), hN h.kr (by decide), h.bl.trans (h3.below _ h.bl.size (fun k hk => (h.ty.1.lt k hk).1)), by rw [e3]; simpa using hc⟩
  obtain ⟨j, hj, rfl⟩ := List.getElem_of_mem hp
  exact (h.mks j _ hj (List.getElem?_eq_getElem hj)).upd h3 (fun k ys hk hb => by
    obtain ⟨zs, hz⟩ := hty k hk
    exact absurd (blk_type hz hb) (by decide))
end Go.Proofs.Ytncndgfaalojpaa
/- mortiselaw17's own: its walk. -/
namespace Go.Proofs.Ytncndgfaalojpaa
open Go.RowKit
set_option linter.unusedVariables false

def OwnTo (w : World) (T : List Ty) (R : List Rt) (e : Ending) (w' : World) : Prop := ∃ gT cT Q aR cR, e = .returned (.agg #[.slice (some ⟨gT, 0, none⟩) T.length cT, .slice aR R.length cR]) ∧ Hid (LtO w' w.heap.size gT cT Q (.slice aR R.length cR) R) ∧ Hid (Q.map (·.1) = T) ∧ Hid (Below w.heap.size w w')
theorem elemTyp : Try.prog.underlying 22 = some (.slice (Try.prog.elem 22)) := by kernel_rfl
theorem elemTypi : Try.prog.elem 22 = 43 := by kernel_rfl
theorem elemPa : Try.prog.underlying 41 = some (.slice (Try.prog.elem 41)) := by kernel_rfl
theorem elemPai : Try.prog.elem 41 = 58 := by kernel_rfl
theorem addr0 (a : Addr) : a.add 0 = a := by cases a; simp [Addr.add]
theorem cutTyp (a : Option Addr) (n q c : Nat) (hq : q ≤ c) (w' : World) : (Instr.slice 22 (.slice a n c) none (some (.int .i64 (q : Int))) none).run Try.prog w' = .ok (.slice a q c) w' := by
  have hz : (sizeOf (Try.prog.elem 22)).run Try.prog w' = .ok 4 w' := by rw [elemTypi]; exact Try.sizeOf43 w'
  rw [run_slice_h (P := Try.prog) w' 22 _ n c elemTyp .i64 (q : Int) (by omega) (by omega), hz]
  cases a <;> simp [sliced, Result.andThen, addr0]
theorem cutPar (a : Option Addr) (n q c : Nat) (hq : q ≤ c) (w' : World) : (Instr.slice 41 (.slice a n c) none (some (.int .i64 (q : Int))) none).run Try.prog w' = .ok (.slice a q c) w' := by
  have hz : (sizeOf (Try.prog.elem 41)).run Try.prog w' = .ok 3 w' := by rw [elemPai]; exact Try.sizeOf58 w'
  rw [run_slice_h (P := Try.prog) w' 41 _ n c elemPa .i64 (q : Int) (by omega) (by omega), hz]
  cases a <;> simp [sliced, Result.andThen, addr0]
set_option maxRecDepth 100000 in
set_option maxHeartbeats 8000000 in
theorem own_any (aT : Option Addr) (cT : Nat) (T : List Ty) (aR : Option Addr) (cR : Nat) (R : List Rt) (w : World) (hTl : T.length ≤ 2000000) (hRl : R.length ≤ 2000000) (hno : aT = none → cT = 0) (hnR : aR = none → cR = 0) (hpl : Hid (∀ t ∈ T, t.ps.length ≤ 2000000)) (hT : Hid (TRow w aT T)) (hR : Hid (RRow w aR R)) :
    Calls Try.prog 7 #[.agg #[.slice aT T.length cT, .slice aR R.length cR]] w fun e w' => OwnTo w T R e w' := by
  have hB0 := below2 w (.cells #[.slice aT T.length cT, .slice aR R.length cR] 25) (.cells #[.slice none 0 0, .slice none 0 0] 25)
  obtain ⟨ks, kr⟩ := blk2 w #[.slice aT T.length cT, .slice aR R.length cR] #[.slice none 0 0, .slice none 0 0] 25 25
  obtain ⟨w0, hw0⟩ : ∃ wx, wx = (w.alloc (.cells #[.slice aT T.length cT, .slice aR R.length cR] 25)).alloc (.cells #[.slice none 0 0, .slice none 0 0] 25) := ⟨_, rfl⟩
  rw [← hw0] at hB0 ks kr
  have hb1 := below1 w0 (.cells #[] 43)
  obtain ⟨Q0, hQ, hG, hP⟩ := (hT.out).pairs w.heap.size (Nat.le_refl _)
  have hGl : GRow 4 tyq w aT Q0 := hG
  have hQl : Q0.length = T.length := by have := congrArg List.length hQ; simpa using this
  have hone : ∀ p : Ty × Value, ∀ u ∈ tyq p, True := fun _ _ _ => trivial
  obtain ⟨v1, w1, r1, o1, u1⟩ : ∃ v' w', (Builtin.append_ #[22, 22] 22 #[.slice (some ⟨w0.heap.size, 0, none⟩) 0 0, .slice aT T.length cT]).run Try.prog (w0.alloc (.cells #[] 43)) = .ok v' w' ∧ w'.ownsRow w.heap.size 43 4 v' Q0.length (cellsG tyq Q0) ∧ Upd (fun k => k = w0.heap.size) (w0.alloc (.cells #[] 43)) w' := by
    obtain ⟨v', w', q1, q2, q3⟩ := run_copyE2 (w0.alloc (.cells #[] 43)) (emptyE w0 43 4 w.heap.size hB0.size) aT T.length cT Q0 hQl (hG.later (below_to hB0 hb1)) hP hno (by omega) (Nat.le_trans hB0.size hb1.size)
    exact ⟨v', w', q1, by rw [hQl]; exact q2, q3.mono (fun k _ e => (own_is e).symm)⟩
  have hB1 : Below w.heap.size w w1 := (below_to hB0 hb1).trans (u1.below _ (Nat.le_trans hB0.size hb1.size) (fun k e => by rw [e]; exact hB0.size))
  have hks := (ks.later hb1).upd u1 (fun e => by have := ks.lt; omega)
  have hkr := (kr.later hb1).upd u1 (fun e => by have := kr.lt; omega)
  have hBt : Below w0.heap.size w0 w1 := hb1.trans (u1.below _ hb1.size (fun k e => by omega))
  have H1 : OwS w w1 v1 Q0 0 (.slice aT T.length cT) (.slice aR R.length cR) := ⟨⟨o1, fun p hp => by
      obtain ⟨va, vc, e, h1, h2, h3, h4⟩ := hP p hp
      refine ⟨va, vc, e, h1, h2, h3.later hB1, ?_⟩
      rcases h4 with h4 | h4
      · exact .inl h4
      · rcases h3 with h3 | ⟨b', o', rfl, hb', -⟩
        · exact .inl h3
        · exact .inr (fun x hx => by injection hx with hx; subst hx; exact .inl hb')⟩, fun j p hj => by omega, hks, hkr, hB1⟩
  obtain ⟨a1, c1, e1, -, hn1, -⟩ := own_grow tyq_len o1
  subst e1
  rw [hQl] at H1 r1
  have HO1 := hide_ H1
  have HR1 := hide_ r1
  have HQ0 := hide_ hQ
  have s0 := (ks.later hb1).cell 0
  simp at s0
  have HRb := hide_ hR.out
  clear hb1 hG hGl hone o1 u1 hks hkr hBt H1 hP r1 ks kr hB1 hB0 hn1
  go_enter Try.func7, Try.ntmps7
  go_upto_region 1 with fail
  rw [← hw0]
  clear hw0
  go_upto_region 3 with (at_builtin; refine wpList_append_run rfl (.tmp 6) (.tmp 8) 22 22 rfl rfl rfl HR1.out ?_)
  clear HR1 s0
  go_loopw [4] (fun x4 wr => ∃ (i : Nat), i ≤ T.length ∧ x4 = .int .i64 (i : Int) ∧ Hid (∃ Q, Q.map (·.1) = T ∧ OwS w wr (.slice a1 T.length c1) Q i (.slice aT T.length cT) (.slice aR R.length cR))) (fun x4 _ => T.length - (intOf x4).toNat)
  case atStart => exact ⟨0, Nat.zero_le _, rfl, hide_ ⟨Q0, HQ0.out, HO1.out⟩⟩
  case round =>
    obtain ⟨i, hi, rfl, HOq⟩ := hrel
    generalize wr = wq at *
    clear HO1 HQ0 hQ hQl
    obtain ⟨Q, hQ, hO⟩ := HOq.out
    have hQl : Q.length = T.length := by have := congrArg List.length hQ; simpa using this
    by_cases hlt : i < T.length
    · have hlt' : (i : Int) < (T.length : Int) := by omega
      obtain ⟨p, hp⟩ : ∃ p, Q[i]? = some p := ⟨_, List.getElem?_eq_getElem (by omega)⟩
      obtain ⟨t, u⟩ := p
      have htT : T[i]? = some t := by rw [← hQ, List.getElem?_map, hp]; rfl
      have htl := hpl.out t (List.mem_of_getElem? htT)
      obtain ⟨g, hga⟩ : ∃ g, a1 = some ⟨g, 0, none⟩ := by
        obtain ⟨g, cap, ys, e, -⟩ := ownS_blk hO.ty.1 (by omega)
        injection e with e _ _
        exact ⟨g, e⟩
      subst hga
      obtain ⟨va, vc, a2, c2, w1, g2, c3, w2, rfl, m1, m2, r1, r2, m3, m4, hc3, hO2⟩ := hO.step hp htl
      have hQ2 : (Q.set i (t, .slice (some ⟨g2, 0, none⟩) t.ps.length c3)).map (·.1) = T := by
        rw [List.map_set, hQ]
        obtain ⟨hi9, e9⟩ := List.getElem?_eq_some_iff.1 htT
        show T.set i t = T
        rw [← e9]
        simp
      have HR1 := hide_ r1
      have HR2 := hide_ r2
      have HO2 := hide_ (⟨_, hQ2, hO2⟩ : ∃ Q', Q'.map (·.1) = T ∧ OwS w (w2.setCell ⟨g, i * 4 + 3, none⟩ (.slice (some ⟨g2, 0, none⟩) t.ps.length c3)) (.slice (some ⟨g, 0, none⟩) T.length c1) Q' (i + 1) (.slice aT T.length cT) (.slice aR R.length cR))
      have hcu := fun w' => cutPar (some ⟨g2, 0, none⟩) (t.ps.length + 1) t.ps.length c3 (by omega) w'
      clear r1 r2 hO2 hQ2 hO HOq hp htT hQ hQl
      go_upto_region 6 with (first
        | (at_builtin; refine wpList_append_run rfl (.tmp 16) (.tmp 21) 41 41 rfl rfl rfl HR1.out ?_)
        | (at_builtin; refine wpList_append_run rfl (.tmp 22) (.tmp 24) 41 41 rfl rfl rfl HR2.out ?_))
      clear HR1 HR2 m1 m2
      go_wp2_with fail
      go_roundw
      case rel => exact ⟨i + 1, by omega, by go_num, HO2⟩
      case measure => simp [intOf]; omega
    · obtain rfl : i = T.length := by omega
      have hlt' : ¬ (T.length : Int) < (T.length : Int) := by omega
      rw [← hQl] at hO
      obtain ⟨g, c, w7, r7, t7, m7, ks7, kr7, b7, hc7⟩ := hO.seal (by omega)
      rw [hQl] at r7 t7 hc7 ks7
      obtain ⟨v8, w8, r8, o8, u8⟩ := run_copyE (P := Try.prog) rtc_len rtc_one1 Try.underlying23 infoR rfl (by decide) (w7.drew.alloc (.cells #[] 84)) (emptyE w7.drew 84 2 w.heap.size b7.size) aR R.length cR R rfl ((hR.out.later b7).later (below_to ((Below.refl w7.heap.size w7).drew) (below1 w7.drew (.cells #[] 84)))) hnR (by unfold maxLen; omega) (by omega) (by have := b7.size; simp; omega)
      have hbE : Below w7.heap.size w7 (w7.drew.alloc (.cells #[] 84)) := below_to ((Below.refl w7.heap.size w7).drew) (below1 w7.drew (.cells #[] 84))
      have hb8 : Below w7.heap.size w7 w8 := hbE.trans (u8.below _ hbE.size (fun k e => by have := own_is e; have h2 : w7.heap.size = k := this; omega))
      obtain ⟨a8, c8, e8, -, -, -⟩ := own_grow rtc_len o8
      subst e8
      have t8 := t7.later hb8
      have m8 : ∀ p ∈ Q, MkIn w8 w.heap.size mkP p.1.ps p.2 := fun p hp => (m7 p hp).later hb8
      have ks8 := ks7.later hb8
      have kr8 := kr7.later hb8
      have hu9 : Upd (fun k => k = w.heap.size + 1) w8 ((w8.setCell ⟨w.heap.size + 1, 0, none⟩ (.slice (some ⟨g, 0, none⟩) T.length c)).setCell ⟨w.heap.size + 1, 1, none⟩ (.slice a8 R.length c8)) := ((Upd.refl (fun k => k = w.heap.size + 1) w8).set _ _ (.inl rfl)).set _ _ (.inl rfl)
      have HLt : Hid (LtO ((w8.setCell ⟨w.heap.size + 1, 0, none⟩ (.slice (some ⟨g, 0, none⟩) T.length c)).setCell ⟨w.heap.size + 1, 1, none⟩ (.slice a8 R.length c8)) w.heap.size g c Q (.slice a8 R.length c8) R) := hide_ ⟨by rw [hQl]; exact t8.updN hu9 kr8 (by omega) (by decide) (by decide), fun p hp => (m8 p hp).upd hu9 (fun k ys e hb => by subst e; exact absurd (blk_type kr8 hb) (by decide)), ROwn.updN o8 hu9 kr8 (by decide)⟩
      have HKf : Hid (Blk ((w8.setCell ⟨w.heap.size + 1, 0, none⟩ (.slice (some ⟨g, 0, none⟩) T.length c)).setCell ⟨w.heap.size + 1, 1, none⟩ (.slice a8 R.length c8)) (w.heap.size + 1) 25 [.slice (some ⟨g, 0, none⟩) T.length c, .slice a8 R.length c8]) := hide_ (by have := (kr8.set 0 (.slice (some ⟨g, 0, none⟩) T.length c)).set 1 (.slice a8 R.length c8); simpa using this)
      have HBf : Hid (Below w.heap.size w ((w8.setCell ⟨w.heap.size + 1, 0, none⟩ (.slice (some ⟨g, 0, none⟩) T.length c)).setCell ⟨w.heap.size + 1, 1, none⟩ (.slice a8 R.length c8))) := hide_ ((below_to b7 hb8).trans (hu9.below _ (below_to b7 hb8).size (fun k e => by omega)))
      have HSS : Hid (∀ w', Below w7.heap.size w7 w' → (fun w' => w'.cell? ⟨w.heap.size, 0, none⟩ = some (.slice aT T.length cT) ∧ w'.cell? ⟨w.heap.size, 1, none⟩ = some (.slice aR R.length cR)) w') := hide_ (fun w' hb => by
        have x0 := (ks7.later hb).cell 0; have x1 := (ks7.later hb).cell 1
        simp at x0 x1
        exact ⟨x0, x1⟩)
      have HS8 : Hid ((fun w' => w'.cell? ⟨w.heap.size, 0, none⟩ = some (.slice aT T.length cT) ∧ w'.cell? ⟨w.heap.size, 1, none⟩ = some (.slice aR R.length cR)) w8) := hide_ (by
        have x0 := ks8.cell 0; have x1 := ks8.cell 1
        simp at x0 x1
        exact ⟨x0, x1⟩)
      have K8 := hide_ kr8
      have HR7 := hide_ r7
      have HRR := hide_ r8
      have HQ := hide_ hQ
      have hcu := fun w' => cutTyp (some ⟨g, 0, none⟩) (T.length + 1) T.length c (by omega) w'
      clear r7 t7 m7 ks7 kr7 b7 r8 o8 u8 hbE hb8 t8 m8 ks8 kr8 hu9 hO HOq hQ hQl hlt hi
      go_upto_region 8 with (at_builtin; refine wpList_append_run rfl (.tmp 38) (.tmp 40) 22 22 rfl rfl rfl HR7.out ?_)
      clear HR7
      refine wp_region_last 10 (fun w' => w'.cell? ⟨w.heap.size, 0, none⟩ = some (.slice aT T.length cT) ∧ w'.cell? ⟨w.heap.size, 1, none⟩ = some (.slice aR R.length cR)) (by kernel_rfl) (HSS.out _ ((Below.refl w7.heap.size w7).drew)) (fun hHeld => ?_)
      refine wpAnyF_take [10] (by kernel_rfl) (i := 0) (v := ?vo1) rfl (by kernel_rfl) (by kernel_rfl) (by kernel_rfl) (fun _ _ _ h => h) (Or.inl ⟨by kernel_rfl, ?hyo1⟩) hHeld ?resto1
      case hyo1 => intro w' hSw; (try dsimp only at hSw); go_simp; try with_reducible rfl
      simp only [Act.put]
      refine wpAnyF_take [10] (by kernel_rfl) (i := 1) (v := ?vo2) rfl (by kernel_rfl) (by kernel_rfl) (by kernel_rfl) (fun _ _ _ h => h) (Or.inl ⟨by kernel_rfl, ?hyo2⟩) hHeld ?resto2
      case hyo2 => intro w' hSw; (try dsimp only at hSw); go_simp; try with_reducible rfl
      simp only [Act.put]
      refine wpAnyF_take [10] (by kernel_rfl) (i := 2) (v := ?vo3) rfl (by kernel_rfl) (by kernel_rfl) (by kernel_rfl) (fun _ _ _ h => h) (Or.inl ⟨by kernel_rfl, ?hyo3⟩) hHeld ?resto3
      case hyo3 => intro w' hSw; (try dsimp only at hSw); go_simp; try with_reducible rfl
      simp only [Act.put]
      refine wpAnyF_take [10] (by kernel_rfl) (i := 3) (v := ?vo4) rfl (by kernel_rfl) (by kernel_rfl) (by kernel_rfl) (fun _ _ _ h => h) (Or.inl ⟨by kernel_rfl, ?hyo4⟩) hHeld ?resto4
      case hyo4 => intro w' hSw; (try dsimp only at hSw); go_simp; try with_reducible rfl
      simp only [Act.put]
      refine wpAnyF_take [10] (by kernel_rfl) (i := 4) (v := ?vo5) rfl (by kernel_rfl) (by kernel_rfl) (by kernel_rfl) (fun _ _ _ h => h) (Or.inl ⟨by kernel_rfl, ?hyo5⟩) hHeld ?resto5
      case hyo5 => intro w' hSw; (try dsimp only at hSw); go_simp; try with_reducible rfl
      simp only [Act.put]
      refine wpAnyF_take [10] (by kernel_rfl) (i := 6) (v := ?vo6) rfl (by kernel_rfl) (by kernel_rfl) (by kernel_rfl) (fun _ _ _ h => h) (Or.inl ⟨by kernel_rfl, ?hyo6⟩) hHeld ?resto6
      case hyo6 => intro w' hSw; (try dsimp only at hSw); go_simp; try with_reducible rfl
      simp only [Act.put]
      refine wpAnyF_take [10] (by kernel_rfl) (i := 7) (v := ?vo7) rfl (by kernel_rfl) (by kernel_rfl) (by kernel_rfl) (fun _ _ _ h => h) (Or.inl ⟨by kernel_rfl, ?hyo7⟩) hHeld ?resto7
      case hyo7 => intro w' hSw; (try dsimp only at hSw); go_simp; try with_reducible rfl
      simp only [Act.put]
      refine wpAnyF_ready (rs := [5]) (by kernel_rfl) (by simp) ?_
      refine AllReadyF.cons rfl (fun K hK => ?_) AllReadyF.nil
      go_simp
      refine hK.out _ _ (HSS.out _ (below_to ((Below.refl w7.heap.size w7).drew) (below1 w7.drew _))) (fun hHeld => ?_)
      clear hK K
      refine wpAnyF_ready (rs := [8]) (by kernel_rfl) (by simp) ?_
      refine AllReadyF.cons rfl (fun K hK => ?_) AllReadyF.nil
      refine step_append_run rfl (.tmp 47) (.tmp 49) 23 23 rfl (v := .slice (some ⟨w7.heap.size, 0, none⟩) 0 0) (u := .slice aR R.length cR) (by kernel_rfl) (by kernel_rfl) HRR.out ?_
      simp only [Act.put]
      refine hK.out _ _ (HS8.out) (fun hHeld => ?_)
      clear hK K
      refine wpAnyF_take [10] (by kernel_rfl) (i := 9) (v := ?vo8) rfl (by kernel_rfl) (by kernel_rfl) (by kernel_rfl) (fun _ _ _ h => h) (Or.inl ⟨by kernel_rfl, ?hyo8⟩) hHeld ?resto8
      case hyo8 => intro w' hSw; (try dsimp only at hSw); go_simp; try with_reducible rfl
      simp only [Act.put]
      refine wpAnyF_ready (rs := [10]) (by kernel_rfl) (by simp) ?_
      refine AllReadyF.last rfl (fun K hK => ?_)
      have q0 := K8.out.cell 0; have q1 := K8.out.cell 1; have qz := fun i => K8.out.frozen i
      simp at q0 q1
      go_simp
      refine hK.out _ _ ?_
      clear hK K
      refine wpAnyF_done (by kernel_rfl) ?_ _
      go_wp2_with fail
      refine retSc rfl rfl HKf.out ?_
      exact ⟨_, _, Q, _, _, rfl, HLt, HQ, HBf⟩
end Go.Proofs.Ytncndgfaalojpaa
/- The document's Same: two programs that are alike. -/
namespace Go.Proofs.Ytncndgfaalojpaa
open Go.RowKit
set_option linter.unusedVariables false

set_option maxRecDepth 100000 in
set_option maxHeartbeats 4000000 in
theorem rsame_yes (d : Bool) (a1 a2 e1 e2 : Option Addr) (c1 c2 f1 f2 : Nat) (C : List In) (E : List Int) (w : World) (hl : C.length ≤ 1000000000) (hle : E.length ≤ 1000000000) (H1 : Hid (IRow w a1 C)) (H2 : Hid (IRow w a2 C)) (H3 : Hid (Row .i64 w e1 E)) (H4 : Hid (Row .i64 w e2 E)) :
    Calls Try.prog 9 #[.agg #[.bool d, .slice a1 C.length c1, .slice e1 E.length f1], .agg #[.bool d, .slice a2 C.length c2, .slice e2 E.length f2]] w fun e w' => e = .returned (.bool true) ∧ Below w.heap.size w w' := by
  have hB := below2 w (.cells #[.bool d, .slice a1 C.length c1, .slice e1 E.length f1] 30) (.cells #[.bool d, .slice a2 C.length c2, .slice e2 E.length f2] 30)
  obtain ⟨k1, k2⟩ := blk2 w #[.bool d, .slice a1 C.length c1, .slice e1 E.length f1] #[.bool d, .slice a2 C.length c2, .slice e2 E.length f2] 30 30
  obtain ⟨w0, hw0⟩ : ∃ wx, wx = (w.alloc (.cells #[.bool d, .slice a1 C.length c1, .slice e1 E.length f1] 30)).alloc (.cells #[.bool d, .slice a2 C.length c2, .slice e2 E.length f2] 30) := ⟨_, rfl⟩
  rw [← hw0] at hB k1 k2
  have HB0 := hide_ hB
  have K1 := hide_ k1
  have K2 := hide_ k2
  have p0 := k1.cell 0; have p1 := k1.cell 1; have p2 := k1.cell 2
  have q0 := k2.cell 0; have q1 := k2.cell 1; have q2 := k2.cell 2
  simp at p0 p1 p2 q0 q1 q2
  have hd : (d != d) = false := by cases d <;> rfl
  have hn1 : ((C.length : Int) != (C.length : Int)) = false := by simp
  have hn2 : ((E.length : Int) != (E.length : Int)) = false := by simp
  clear hB k1 k2
  go_enter Try.func9, Try.ntmps9
  go_upto_region 1 with fail
  rw [← hw0]
  clear hw0
  go_upto_region 4 with fail
  clear p0 p1 p2 q0 q1 q2 hd hn1 hn2
  go_loopw [5] (fun x5 wr => ∃ (i : Nat), i ≤ C.length ∧ x5 = .int .i64 (i : Int) ∧ Hid (Below w0.heap.size w0 wr)) (fun x5 _ => C.length - (intOf x5).toNat)
  case atStart => exact ⟨0, Nat.zero_le _, rfl, hide_ (Below.refl _ _)⟩
  case round =>
    obtain ⟨i, hi, rfl, HB⟩ := hrel
    generalize wr = wq at *
    have p1 := (K1.out.later HB.out).cell 1; have q1 := (K2.out.later HB.out).cell 1
    simp at p1 q1
    by_cases hlt : i < C.length
    · have hlt' : (i : Int) < (C.length : Int) := by omega
      have hx : C[i]? = some (C[i]'hlt) := List.getElem?_eq_getElem hlt
      have hBx := below_to HB0.out HB.out
      obtain ⟨b1, o1, rfl, -, h1⟩ := (H1.out.later hBx).open (by omega)
      obtain ⟨b2, o2, rfl, -, h2⟩ := (H2.out.later hBx).open (by omega)
      have u0 := h1 i _ hx 0 (by decide); have u1 := h1 i _ hx 1 (by decide); have u2 := h1 i _ hx 2 (by decide); have u3 := h1 i _ hx 3 (by decide)
      have v0 := h2 i _ hx 0 (by decide); have v1 := h2 i _ hx 1 (by decide); have v2 := h2 i _ hx 2 (by decide); have v3 := h2 i _ hx 3 (by decide)
      generalize C[i]'hlt = x at *
      simp [inc] at u0 u1 u2 u3 v0 v1 v2 v3
      clear h1 h2 hx hBx
      go_upto_region 6 with fail
      go_quiet (fail)
      have HBq : ∀ k, Hid (Below w0.heap.size w0 (wq.drewN k)) := fun k => hide_ (below_drewN HB.out k)
      go_wp2_with fail
      go_roundw
      case rel => exact ⟨i + 1, by omega, by go_num, HBq _⟩
      case measure => simp [intOf]; omega
    · obtain rfl : i = C.length := by omega
      clear hlt hi
      have HBq := HB
      go_upto_region 9 with fail
      clear p1 q1
      go_loopw [6] (fun x6 wr => ∃ (i : Nat), i ≤ E.length ∧ x6 = .int .i64 (i : Int) ∧ Hid (Below w0.heap.size w0 wr)) (fun x6 _ => E.length - (intOf x6).toNat)
      case atStart => exact ⟨0, Nat.zero_le _, rfl, HBq⟩
      case round =>
        obtain ⟨i, hi, rfl, HB2⟩ := hrel
        generalize wr = wz at *
        clear HB HBq
        have p2 := (K1.out.later HB2.out).cell 2; have q2 := (K2.out.later HB2.out).cell 2
        simp at p2 q2
        by_cases hlt : i < E.length
        · have hlt' : (i : Int) < (E.length : Int) := by omega
          have hBx := below_to HB0.out HB2.out
          obtain ⟨b1, o1, rfl, -, h1⟩ := (H3.out.later hBx).open (by omega)
          obtain ⟨b2, o2, rfl, -, h2⟩ := (H4.out.later hBx).open (by omega)
          have u0 := h1 i hlt; have v0 := h2 i hlt
          generalize E.getD i 0 = x at *
          have hne : (x != x) = false := by simp
          clear h1 h2 hBx
          go_upto_region 11 with fail
          go_quiet (fail)
          have HBq : ∀ k, Hid (Below w0.heap.size w0 (wz.drewN k)) := fun k => hide_ (below_drewN HB2.out k)
          go_wp2_with fail
          go_roundw
          case rel => exact ⟨i + 1, by omega, by go_num, HBq _⟩
          case measure => simp [intOf]; omega
        · obtain rfl : i = E.length := by omega
          go_wp2_with fail
          go_ret
          exact ⟨rfl, below_to HB0.out HB2.out⟩
end Go.Proofs.Ytncndgfaalojpaa
/- mortiselaw17's still: what is lent and unchanged. -/
namespace Go.Proofs.Ytncndgfaalojpaa
open Go.RowKit
set_option linter.unusedVariables false

set_option maxRecDepth 100000 in
set_option maxHeartbeats 8000000 in
theorem still_yes (gT cT : Nat) (Q : List (Ty × Value)) (aO : Option Addr) (cO : Nat) (B : Nat) (aT : Option Addr) (ct : Nat) (T : List Ty) (aR : Option Addr) (cr : Nat) (R : List Rt) (w : World) (hTl : T.length ≤ 2000000) (hRl : R.length ≤ 2000000) (hpl : Hid (∀ t ∈ T, t.ps.length ≤ 2000000)) (hLt : Hid (LtO w B gT cT Q (.slice aO R.length cO) R)) (hQ : Hid (Q.map (·.1) = T)) (hT : Hid (TRow w aT T)) :
    Calls Try.prog 10 #[.agg #[.slice (some ⟨gT, 0, none⟩) T.length cT, .slice aO R.length cO], .agg #[.slice aT T.length ct, .slice aR R.length cr]] w fun e w' => e = .returned (.bool true) ∧ Below w.heap.size w w' := by
  have hB := below2 w (.cells #[.slice (some ⟨gT, 0, none⟩) T.length cT, .slice aO R.length cO] 25) (.cells #[.slice aT T.length ct, .slice aR R.length cr] 25)
  obtain ⟨k1, k2⟩ := blk2 w #[.slice (some ⟨gT, 0, none⟩) T.length cT, .slice aO R.length cO] #[.slice aT T.length ct, .slice aR R.length cr] 25 25
  obtain ⟨w0, hw0⟩ : ∃ wx, wx = (w.alloc (.cells #[.slice (some ⟨gT, 0, none⟩) T.length cT, .slice aO R.length cO] 25)).alloc (.cells #[.slice aT T.length ct, .slice aR R.length cr] 25) := ⟨_, rfl⟩
  rw [← hw0] at hB k1 k2
  have HB0 := hide_ hB
  have K1 := hide_ k1
  have K2 := hide_ k2
  have hql : Q.length = T.length := by have := congrArg List.length hQ.out; simpa using this
  have HLt0 := hide_ (hLt.out.later hB)
  obtain ⟨hc1, m0⟩ := HLt0.out.caps
  rw [hql] at hc1 m0
  have HQL := hide_ hql
  have p0 := k1.cell 0; have p1 := k1.cell 1; have q0 := k2.cell 0; have q1 := k2.cell 1
  simp at p0 p1 q0 q1
  have hn1 : ((T.length : Int) != (T.length : Int)) = false := by simp
  have hn2 : ((R.length : Int) != (R.length : Int)) = false := by simp
  have hw1 : IntKind.i64.wrap ((T.length : Int) + 1) = (T.length : Int) + 1 := i64w _ (by omega)
  have hcu : ∀ w', (Instr.slice 22 (.slice (some ⟨gT, 0, none⟩) T.length cT) none (some (.int .i64 ((T.length : Int) + 1))) none).run Try.prog w' = .ok (.slice (some ⟨gT, 0, none⟩) (T.length + 1) cT) w' := fun w' => by
    have := cutTyp (some ⟨gT, 0, none⟩) T.length (T.length + 1) cT hc1 w'
    rw [show ((T.length + 1 : Nat) : Int) = (T.length : Int) + 1 by omega] at this
    exact this
  have hp3 : (T.length : Int) < (T.length : Int) + 1 := by omega
  clear hB k1 k2 hql
  go_enter Try.func10, Try.ntmps10
  go_upto_region 1 with fail
  rw [← hw0]
  clear hw0
  go_quiet (fail)
  have HBz : ∀ k, Hid (Below w0.heap.size w0 (w0.drewN k)) := fun k => hide_ (below_drewN (Below.refl _ _) k)
  go_upto_region 4 with fail
  clear p0 p1 q0 q1 hn1 hn2 hw1 hcu hp3 m0 hc1
  go_loopw [5] (fun x5 wr => ∃ (i : Nat), i ≤ T.length ∧ x5 = .int .i64 (i : Int) ∧ Hid (Below w0.heap.size w0 wr)) (fun x5 _ => T.length - (intOf x5).toNat)
  case atStart => exact ⟨0, Nat.zero_le _, rfl, HBz _⟩
  case round =>
    obtain ⟨i, hi, rfl, HB⟩ := hrel
    generalize wr = wq at *
    clear HBz
    have i0 := (K1.out.later HB.out).cell 0; have j0 := (K2.out.later HB.out).cell 0
    simp at i0 j0
    by_cases hlt : i < T.length
    · have hlt' : (i : Int) < T.length := by omega
      have hx : T[i]? = some (T[i]'hlt) := List.getElem?_eq_getElem hlt
      have hpl2 := hpl.out _ (List.mem_of_getElem? hx)
      obtain ⟨b2, o2, rfl, hb2, h2⟩ := (hT.out.later (below_to HB0.out HB.out)).open (by omega)
      obtain ⟨va, vc, hcc, hvc, -, hpr2⟩ := h2 i _ hx
      have HLq := HLt0.out.later HB.out
      obtain ⟨p, hp⟩ : ∃ p, Q[i]? = some p := ⟨_, List.getElem?_eq_getElem (by have := HQL.out; omega)⟩
      have hpt : p.1 = T[i]'hlt := by
        have h1 : (Q.map (·.1))[i]? = some p.1 := by rw [List.getElem?_map, hp]; rfl
        rw [hQ.out, hx] at h1
        injection h1 with h1
        exact h1.symm
      have hp' : (Q ++ [(mkT, Value.slice none 0 0)])[i]? = some p := by rw [List.getElem?_append_left (by have := HQL.out; omega)]; exact hp
      obtain ⟨u0, u1, u2, u3⟩ := HLq.ty.at4 hp'
      obtain ⟨g, c, hu, hcl, hpr, -, -⟩ := HLq.mks p (List.mem_of_getElem? hp)
      rw [hu] at u3
      rw [hpt] at u0 u1 u2 u3 hcl hpr
      have s0 := hcc 0 (by decide); have s1 := hcc 1 (by decide); have s2 := hcc 2 (by decide); have s3 := hcc 3 (by decide)
      generalize T[i]'hlt = t at *
      obtain ⟨tk, tn, te, ps⟩ := t
      simp [tyc] at s0 s1 s2 s3
      simp only at u0 u1 u2 u3 hcl hpr hpr2 hpl2
      have hgz : ∃ b, some (⟨g, 0, none⟩ : Addr) = some b := ⟨_, rfl⟩
      have HP1 := hide_ hpr
      have HP2 := hide_ hpr2
      obtain ⟨bp, op, e1, -, hcp⟩ := hpr.open (by simp)
      injection e1 with e1
      injection e1 with e1 e2 _
      subst e1 e2
      have hm := hcp ps.length mkP (by simp)
      have n0 := hm 0 (by decide); have n1 := hm 1 (by decide); have n2 := hm 2 (by decide)
      simp [ptc, mkP] at n0 n1 n2
      obtain ⟨wx, hwx⟩ : ∃ wx, wx = wq.alloc (.cells #[.int .i64 tk, .int .i64 tn, .int .i64 te, .slice (some ⟨g, 0, none⟩) ps.length c] 43) := ⟨_, rfl⟩
      have hBx : Below wq.heap.size wq wx := by rw [hwx]; exact below1 _ _
      have kx : Blk wx wq.heap.size 43 [.int .i64 tk, .int .i64 tn, .int .i64 te, .slice (some ⟨g, 0, none⟩) ps.length c] := by rw [hwx]; exact Blk.newA wq _ _
      have hzx : wx.heap.size = wq.heap.size + 1 := by rw [hwx]; simp
      obtain ⟨wy, hwy⟩ : ∃ wy, wy = wx.alloc (.cells #[.int .i64 tk, .int .i64 tn, .int .i64 te, .slice va ps.length vc] 43) := ⟨_, rfl⟩
      have hBy : Below wx.heap.size wx wy := by rw [hwy]; exact below1 _ _
      have ky : Blk wy (wq.heap.size + 1) 43 [.int .i64 tk, .int .i64 tn, .int .i64 te, .slice va ps.length vc] := by rw [hwy, ← hzx]; exact Blk.newA wx _ _
      have kx2 := kx.later hBy
      have hBq := below_to hBx hBy
      have j0x := (K2.out.later (below_to HB.out hBx)).cell 0
      have s0x := (hBx.cell (p := ⟨b2, o2 + i * 4, none⟩) hb2).trans s0
      have s1x := (hBx.cell (p := ⟨b2, o2 + i * 4 + 1, none⟩) hb2).trans s1
      have s2x := (hBx.cell (p := ⟨b2, o2 + i * 4 + 2, none⟩) hb2).trans s2
      have s3x := (hBx.cell (p := ⟨b2, o2 + i * 4 + 3, none⟩) hb2).trans s3
      simp at j0x
      have hgl : g < wq.heap.size := by
        rcases HP1.out with h | ⟨b', o', e', hb', -⟩
        · simp at h
        · injection e' with e'
          injection e' with e' _ _
          rw [e']
          exact hb'
      have n0y := (hBq.cell (p := ⟨g, 0 + ps.length * 3, none⟩) hgl).trans (by simpa using n0)
      have n1y := (hBq.cell (p := ⟨g, 0 + ps.length * 3 + 1, none⟩) hgl).trans (by simpa using n1)
      have n2y := (hBq.cell (p := ⟨g, 0 + ps.length * 3 + 2, none⟩) hgl).trans (by simpa using n2)
      simp only [Nat.zero_add] at n0y n1y n2y
      have HKX := hide_ kx2
      have HKY := hide_ ky
      have HBy := hide_ (below_to HB.out hBq)
      have HP1y := hide_ (HP1.out.later hBq)
      have HP2y := hide_ (HP2.out.later hBq)
      have x0 := kx2.cell 0; have x1 := kx2.cell 1; have x2 := kx2.cell 2; have x3 := kx2.cell 3
      have y0 := ky.cell 0; have y1 := ky.cell 1; have y2 := ky.cell 2; have y3 := ky.cell 3
      simp at x0 x1 x2 x3 y0 y1 y2 y3
      have hw3 : IntKind.i64.wrap ((ps.length : Int) + 1) = (ps.length : Int) + 1 := i64w _ (by omega)
      have hcu : ∀ w', (Instr.slice 41 (.slice (some ⟨g, 0, none⟩) ps.length c) none (some (.int .i64 ((ps.length : Int) + 1))) none).run Try.prog w' = .ok (.slice (some ⟨g, 0, none⟩) (ps.length + 1) c) w' := fun w' => by
        have := cutPar (some ⟨g, 0, none⟩) ps.length (ps.length + 1) c hcl w'
        rw [show ((ps.length + 1 : Nat) : Int) = (ps.length : Int) + 1 by omega] at this
        exact this
      have hp3 : (ps.length : Int) < (ps.length : Int) + 1 := by omega
      have e1 : (tk != tk) = false := by simp
      have e2 : (tn != tn) = false := by simp
      have e3 : (te != te) = false := by simp
      have e4 : ((ps.length : Int) != (ps.length : Int)) = false := by simp
      clear hx h2 hcc HLq hp hpt hp' hu hpr hcp hm hvc hpr2 HP1 HP2 kx ky kx2 hBx hBy hBq n0 n1 n2 hgz
      go_upto_region 7 with fail
      rw [← hwx]
      clear hwx u0 u1 u2 u3 i0 j0 s0 s1 s2 s3
      go_upto_region 8 with fail
      rw [← hwy]
      try simp only [hzx]
      clear hwy hzx j0x s0x s1x s2x s3x
      go_upto_region 12 with fail
      clear x0 x1 x2 y0 y1 y2 n0y n1y n2y hcu hw3 hp3 e1 e2 e3 e4 x3 y3
      go_loopw [9] (fun x9 wr => ∃ (j : Nat), j ≤ ps.length ∧ x9 = .int .i64 (j : Int) ∧ Hid (Below wy.heap.size wy wr)) (fun x9 _ => ps.length - (intOf x9).toNat)
      case atStart => exact ⟨0, Nat.zero_le _, rfl, hide_ (Below.refl _ _)⟩
      case round =>
        obtain ⟨j, hj, rfl, HBj⟩ := hrel
        generalize wr = wz at *
        by_cases hlj : j < ps.length
        · have hlj' : (j : Int) < (ps.length : Int) := by omega
          have hxj : ps[j]? = some (ps[j]'hlj) := List.getElem?_eq_getElem hlj
          have x3 := (HKX.out.later HBj.out).cell 3; have y3 := (HKY.out.later HBj.out).cell 3
          simp at x3 y3
          obtain ⟨bp, op, e1, -, hcp⟩ := (HP1y.out.later HBj.out).open (by simp)
          injection e1 with e1
          injection e1 with e1 e2 _
          subst e1 e2
          obtain ⟨bq, oq, rfl, -, hcq⟩ := (HP2y.out.later HBj.out).open (by omega)
          have a1 := hcp j _ (by rw [List.getElem?_append_left hlj]; exact hxj)
          have a2 := hcq j _ hxj
          generalize ps[j]'hlj = pt at *
          have n0 := a1 0 (by decide); have n1 := a1 1 (by decide); have n2 := a1 2 (by decide)
          have m0 := a2 0 (by decide); have m1 := a2 1 (by decide); have m2 := a2 2 (by decide)
          simp [ptc] at n0 n1 n2 m0 m1 m2
          clear hcp hcq hxj a1 a2
          go_upto_region 14 with fail
          go_quiet (fail)
          have HBq : ∀ k, Hid (Below wy.heap.size wy (wz.drewN k)) := fun k => hide_ (below_drewN HBj.out k)
          go_wp2_with fail
          go_roundw
          case rel => exact ⟨j + 1, by omega, by go_num, HBq _⟩
          case measure => simp [intOf]; omega
        · obtain rfl : j = ps.length := by omega
          have hlj' : ¬ (ps.length : Int) < (ps.length : Int) := by omega
          have HBn := hide_ (below_to HBy.out HBj.out)
          clear HBj HBy
          go_wp2_with fail
          go_roundw
          case rel => exact ⟨i + 1, by omega, by go_num, HBn⟩
          case measure => simp [intOf]; omega
    · obtain rfl : i = T.length := by omega
      have hlt' : ¬ (T.length : Int) < (T.length : Int) := by omega
      go_wp2_with fail
      go_ret
      exact ⟨rfl, below_to HB0.out HB.out⟩
end Go.Proofs.Ytncndgfaalojpaa
/- RaiseExact: what lies in memory while the first answer is written over. -/
namespace Go.Proofs.Ytncndgfaalojpaa
open Go.RowKit
set_option linter.unusedVariables false

/-- append(v, x), x a struct written out: what v itself holds stays. -/
theorem run_pushK {P : Program} {t B e c n : Nat} {z v : Value} {bytes : Nat} {xs : List Value} (ht : P.underlying t = some (.slice e)) (hinfo : (P.info? e).map (fun i => (i.zero, i.size, i.bytes)) = some (some z, c, bytes)) (hzs : z.cells.size = c) (hc : 0 < c)
    (w : World) (ty : Nat) (hown : w.ownsRow B e c v n xs) (news : List Value) (hl : news.length = c) (hx : ∀ u ∈ news, u.oneCell' = true) (h63 : n + 1 ≤ maxLen) (hb : (n + 1) * bytes ≤ 140737488355328) (hbase : B ≤ w.heap.size) :
    ∃ g cap w', (Builtin.append_ #[t, t] ty #[v, .slice (some ⟨w.heap.size, 0, none⟩) 1 1]).run P (w.alloc (.cells news.toArray e)) = .ok (.slice (some ⟨g, 0, none⟩) (n + 1) cap) w' ∧
      w'.ownsRow B e c (.slice (some ⟨g, 0, none⟩) (n + 1) cap) (n + 1) (xs ++ news) ∧ w'.ownsRow B e c v n xs ∧ Upd (fun k => v.ownBlock = some k) w w' ∧ (v.ownBlock = some g ∨ w.heap.size ≤ g) := by
  rcases hown.2 with ⟨hv, h0⟩ | ⟨g, cap, cur, hv, hbg, hg, hnc, hcm, hcs, htake⟩
  · obtain ⟨g, cap, w', h1, h2, h3, h4⟩ := run_pushS ht hinfo hzs hc w ty hown news hl hx h63 hb hbase
    refine ⟨g, cap, w', h1, h2, ?_, h3, h4⟩
    refine ⟨hown.1, .inl ⟨hv, h0⟩⟩
  · subst hv
    obtain ⟨i0, hi, hz0, hz1, hz2⟩ := info_parts hinfo
    have hsz : (w.alloc (.cells news.toArray e)).heap.size = w.heap.size + 1 := by simp
    have hnew : ∀ j u, news[j]? = some u → (w.alloc (.cells news.toArray e)).cell? ((⟨w.heap.size, 0, none⟩ : Addr).add j) = some u := fun j u hj => by rw [add_none, Nat.zero_add, (Blk.new w news e).cell]; exact hj
    by_cases hr : n + 1 ≤ cap
    · obtain ⟨w', h1, h2, h3⟩ := run_append_fits (P := P) (w.alloc (.cells news.toArray e)) B t ty e i0 c ht hi hz1 g n cap xs (hown.alloc _) ⟨w.heap.size, 0, none⟩ 1 1 news (by omega) hnew hx hr
      refine ⟨g, cap, w', h1, h2, ?_, ((Upd.refl _ w).alloc _).grown h3 (fun k hk => .inl (by rw [← hk]; rfl)), .inl rfl⟩
      obtain ⟨g', cap', ys, e5, q1, q2, q3, q4, q5, q6⟩ := ownS_blk h2 (by omega)
      have e6 : g = g' ∧ cap = cap' := by simpa using e5
      obtain ⟨rfl, rfl⟩ := e6
      have h9 := ownS_of_blk (n := n) (c := c) q6 q1 q4 hnc q3
      have : ys.take (n * c) = xs := by
        have e9 : ys.take (n * c) = (ys.take ((n + 1) * c)).take (n * c) := by rw [List.take_take, Nat.min_eq_left (Nat.mul_le_mul_right _ (by omega))]
        rw [e9, q5, List.take_append_of_le_length (by rw [hown.1]; exact Nat.le_refl _), List.take_of_length_le (by rw [hown.1]; exact Nat.le_refl _)]
      rw [this] at h9
      exact h9
    · have hbk : Blk w g e cur.toList := by unfold Blk; rw [Array.toArray_toList]; exact hg
      have hold : ∀ j u, xs[j]? = some u → (w.alloc (.cells news.toArray e)).cell? ((⟨g, 0, none⟩ : Addr).add j) = some u := fun j u hj => by
        rw [add_none, Nat.zero_add, (hbk.alloc _).cell]
        rw [← htake, List.getElem?_take] at hj
        split at hj
        · exact hj
        · cases hj
      obtain ⟨v', w', h1, h2, h3⟩ := run_append_arg_grows (P := P) (w.alloc (.cells news.toArray e)) t ty e i0 z c bytes ht hi hz0 hz1 hz2 hzs hc ⟨g, 0, none⟩ n cap xs hown.1 hold ⟨w.heap.size, 0, none⟩ 1 1 news (by omega) hnew (by omega) h63 hb
      obtain ⟨g', cap', ys, rfl, q1, q2, q3, q4, q5, q6⟩ := ownS_blk h2 (by omega)
      have hu0 : Upd (fun _ => False) w w' := ((Upd.refl _ w).alloc _).grown h3 (fun k hk => by cases hk)
      refine ⟨g', cap', w', h1, own_base h2 (by omega), ownS_upd hown hu0 (fun _ _ h => h), hu0.mono (fun _ _ h => h.elim), .inr (by omega)⟩
/-- A program of the call's own; its lists made longer. -/
theorem TOwn.updS {w w' : World} {B : Nat} {v : Value} {Q : List (Ty × Value)} {S : Nat → Prop} (h : TOwn w B v Q) (hu : Upd S w w') (hs : ∀ k, S k → B ≤ k) (hn : ∀ k ys, S k → Blk w k 58 ys → False) (ht : ∀ k ys, S k → Blk w k 43 ys → False) : TOwn w' B v Q :=
  ⟨ownS_upd h.1 hu (fun k e hS => by obtain ⟨ys, hy⟩ := ownS_type h.1 e; exact ht k ys hS hy), fun p hp => (h.2 p hp).upd hu hs hn⟩
/-- Parts copied, a mark behind them. -/
theorem COwn.pushK {w : World} {B : Nat} {v : Value} {l : List In} (h : COwn w B v l) (x : In) (hl : l.length ≤ 1000000000) (hB : B ≤ w.heap.size) :
    ∃ g cap w', (Builtin.append_ #[27, 27] 27 #[v, .slice (some ⟨w.heap.size, 0, none⟩) 1 1]).run Try.prog (w.alloc (.cells #[.int .i64 x.op, .int .i64 x.a, .int .i64 x.b, .int .i64 x.c] 35)) = .ok (.slice (some ⟨g, 0, none⟩) (l.length + 1) cap) w' ∧
      COwn w' B (.slice (some ⟨g, 0, none⟩) (l.length + 1) cap) (l ++ [x]) ∧ COwn w' B v l ∧ Upd (fun k => v.ownBlock = some k) w w' := by
  obtain ⟨g, cap, w', h1, h2, h3, h4, h5⟩ := run_pushK (P := Try.prog) (t := 27) (e := 35) (c := 4) Try.underlying27 infoIn rfl (by decide) w 27 h (inc x) rfl (inc_one x) (by unfold maxLen; omega) (by omega) hB
  refine ⟨g, cap, w', h1, ?_, h3, h4⟩
  unfold COwn
  rw [cellsG_app, cellsG_one, List.length_append, List.length_singleton]
  exact h2
theorem IOwn.pushK {w : World} {B : Nat} {v : Value} {l : List Int} (h : IOwn w B v l) (x : Int) (hl : l.length ≤ 1000000000) (hB : B ≤ w.heap.size) :
    ∃ g cap w', (Builtin.append_ #[28, 28] 28 #[v, .slice (some ⟨w.heap.size, 0, none⟩) 1 1]).run Try.prog (w.alloc (.cells #[.int .i64 x] 3)) = .ok (.slice (some ⟨g, 0, none⟩) (l.length + 1) cap) w' ∧
      IOwn w' B (.slice (some ⟨g, 0, none⟩) (l.length + 1) cap) (l ++ [x]) ∧ IOwn w' B v l ∧ Upd (fun k => v.ownBlock = some k) w w' := by
  obtain ⟨g, cap, w', h1, h2, h3, h4, h5⟩ := run_pushK (P := Try.prog) (t := 28) (e := 3) (c := 1) elI.sl elI.info rfl (by decide) w 28 h [.int .i64 x] rfl (fun u hu => by simp only [List.mem_singleton] at hu; subst hu; rfl) (by unfold maxLen; omega) (by omega) hB
  refine ⟨g, cap, w', h1, ?_, h3, h4⟩
  unfold IOwn
  rw [cellsL_append, List.length_append, List.length_singleton]
  exact h2
theorem COwn.set4 {w : World} {B g n cap i : Nat} {l : List In} (h : COwn w B (.slice (some ⟨g, 0, none⟩) n cap) l) (hi : i < l.length) (x : In) : COwn ((((w.setCell ⟨g, i * 4, none⟩ (.int .i64 x.op)).setCell ⟨g, i * 4 + 1, none⟩ (.int .i64 x.a)).setCell ⟨g, i * 4 + 2, none⟩ (.int .i64 x.b)).setCell ⟨g, i * 4 + 3, none⟩ (.int .i64 x.c)) B (.slice (some ⟨g, 0, none⟩) n cap) (l.set i x) ∧ Upd (fun k => k = g) w ((((w.setCell ⟨g, i * 4, none⟩ (.int .i64 x.op)).setCell ⟨g, i * 4 + 1, none⟩ (.int .i64 x.a)).setCell ⟨g, i * 4 + 2, none⟩ (.int .i64 x.b)).setCell ⟨g, i * 4 + 3, none⟩ (.int .i64 x.c)) :=
  ⟨row_set4 inc_len h hi x _ _ _ _ rfl, ((((Upd.refl (fun k => k = g) w).set ⟨g, i * 4, none⟩ _ (.inl rfl)).set ⟨g, i * 4 + 1, none⟩ _ (.inl rfl)).set ⟨g, i * 4 + 2, none⟩ _ (.inl rfl)).set ⟨g, i * 4 + 3, none⟩ _ (.inl rfl)⟩
def isCI (t : TypeId) : Prop := t = 35 ∨ t = 3
/-- All but the first answer. -/
structure Rs (w wr : World) (B2 B6 g3 g4 g6 g8 gT cT nT : Nat) (Q : List (Ty × Value)) (vO : Value) (R : List Rt) (d : Bool) (va vea vb veb vw vew : Value) (C : List In) (E : List Int) : Prop where
  ks : Blk wr g3 25 [.slice (some ⟨gT, 0, none⟩) nT cT, vO]
  lt : LtO wr B2 gT cT Q vO R
  ka : Blk wr g4 30 [.bool d, va, vea]
  kb : Blk wr g6 30 [.bool d, vb, veb]
  kw : Blk wr g8 30 [.bool d, vw, vew]
  cb : COwn wr B6 vb C
  eb : IOwn wr B6 veb E
  cw : COwn wr B6 vw C
  ew : IOwn wr B6 vew E
  b2 : w.heap.size ≤ B2
  bl : Below w.heap.size w wr
section
variable {w wr wz : World} {B2 B6 g3 g4 g6 g8 gT cT nT : Nat} {Q : List (Ty × Value)} {vO : Value} {R : List Rt} {d : Bool} {va vea vb veb vw vew : Value} {C : List In} {E : List Int}
theorem Rs.later (h : Rs w wr B2 B6 g3 g4 g6 g8 gT cT nT Q vO R d va vea vb veb vw vew C E) (hB : Below wr.heap.size wr wz) : Rs w wz B2 B6 g3 g4 g6 g8 gT cT nT Q vO R d va vea vb veb vw vew C E :=
  ⟨h.ks.later hB, h.lt.later hB, h.ka.later hB, h.kb.later hB, h.kw.later hB, h.cb.later hB, h.eb.later hB, h.cw.later hB, h.ew.later hB, h.b2, below_to h.bl hB⟩
theorem Rs.upd {S : Nat → Prop} (h : Rs w wr B2 B6 g3 g4 g6 g8 gT cT nT Q vO R d va vea vb veb vw vew C E) (hu : Upd S wr wz) (hS : ∀ k, S k → k < B6 ∧ B2 ≤ k ∧ ∃ t xs, Blk wr k t xs ∧ isCI t) : Rs w wz B2 B6 g3 g4 g6 g8 gT cT nT Q vO R d va vea vb veb vw vew C E := by
  have hN : ∀ {g t xs}, Blk wr g t xs → ¬ isCI t → Blk wz g t xs := fun hb ht => hb.upd hu (fun hs => by
    obtain ⟨-, -, t', xs', hb', ht'⟩ := hS _ hs
    exact ht (by rw [blk_type hb hb']; exact ht'))
  have hno : ∀ {t}, ¬ isCI t → ∀ k ys, S k → Blk wr k t ys → False := fun ht k ys hs hb => by
    obtain ⟨-, -, t', xs', hb', ht'⟩ := hS _ hs
    exact ht (by rw [blk_type hb hb']; exact ht')
  have hlo : ∀ {v : Value} {k : Nat}, (∀ k, v.ownBlock = some k → B6 ≤ k) → v.ownBlock = some k → ¬ S k := fun hl e hs => by
    have := hl _ e
    have := (hS _ hs).1
    omega
  refine ⟨hN h.ks (by unfold isCI; decide), ⟨h.lt.ty.updS hu (fun k hs => (hS k hs).2.1) (hno (by unfold isCI; decide)) (hno (by unfold isCI; decide)), fun p hp => (h.lt.mks p hp).upd hu (hno (by unfold isCI; decide)), ownS_upd h.lt.rt hu (fun k e hs => by
      obtain ⟨zs, hz⟩ := ownS_type h.lt.rt e
      exact hno (t := 84) (by unfold isCI; decide) k zs hs hz)⟩, hN h.ka (by unfold isCI; decide), hN h.kb (by unfold isCI; decide), hN h.kw (by unfold isCI; decide), h.cb.upd hu (fun k e => hlo (fun k e => (h.cb.lies e).1) e), h.eb.upd hu (fun k e => hlo (fun k e => (h.eb.lies e).1) e), h.cw.upd hu (fun k e => hlo (fun k e => (h.cw.lies e).1) e), h.ew.upd hu (fun k e => hlo (fun k e => (h.ew.lies e).1) e), h.b2, h.bl.trans (hu.below _ h.bl.size (fun k hs => by have := (hS k hs).2.1; have := h.b2; omega))⟩
end
/-- The first answer, written over as far as that. -/
def CoS (wr : World) (B4 : Nat) (va : Value) (n i : Nat) : Prop := ∃ D : List In, D.length = n ∧ (∀ j x, j < i → D[j]? = some x → x.op = -1) ∧ COwn wr B4 va D
def EnS (wr : World) (B4 : Nat) (vea : Value) (n i : Nat) : Prop := ∃ F : List Int, F.length = n ∧ (∀ j x, j < i → F[j]? = some x → x = -1) ∧ IOwn wr B4 vea F
end Go.Proofs.Ytncndgfaalojpaa
/- RaiseExact: its walk. -/
namespace Go.Proofs.Ytncndgfaalojpaa
open Go.RowKit
set_option linter.unusedVariables false

theorem zX_len (T : List Ty) (R : List Rt) : (zX T R).length ≤ 1048576 := by
  unfold zX
  by_cases h : zA T R = 0
  · rw [if_pos h]; exact (zA_ok h).2.2
  · rw [if_neg h]; simp
theorem zY_len (T : List Ty) (R : List Rt) : (zY T R).length ≤ T.length := by
  unfold zY
  by_cases h : zA T R = 0
  · rw [if_pos h, zE_len]; exact Nat.le_refl _
  · rw [if_neg h]; simp
theorem not_own {w w' : World} {B : Nat} {v u : Value} {l : List Int} {l' : List In} (h : IOwn w B v l) (h' : COwn w B u l') : ∀ k, v.ownBlock = some k → ¬ u.ownBlock = some k := fun k e => notIC h h' k e
set_option maxRecDepth 100000 in
set_option maxHeartbeats 16000000 in
theorem exact_any (aT : Option Addr) (cT : Nat) (T : List Ty) (aR : Option Addr) (cR : Nat) (R : List Rt) (w : World) (hTl : T.length ≤ 2000000) (hRl : R.length ≤ 2000000) (hno : aT = none → cT = 0) (hnR : aR = none → cR = 0) (hpl : Hid (∀ t ∈ T, t.ps.length ≤ 2000000)) (hT : Hid (TRow w aT T)) (hR : Hid (RRow w aR R)) :
    Calls Try.prog 4 #[.agg #[.slice aT T.length cT, .slice aR R.length cR]] w fun e w' => e = .returned (.bool true) ∧ Below w.heap.size w w' := by
  have HL : Hid (LensT T) := hide_ ⟨by omega, fun t ht => by have := hpl.out t ht; omega⟩
  obtain ⟨w1, hw1⟩ : ∃ wx, wx = w.alloc (.cells #[.slice aT T.length cT, .slice aR R.length cR] 25) := ⟨_, rfl⟩
  have hB1 : Below w.heap.size w w1 := by rw [hw1]; exact below1 _ _
  have k1 : Blk w1 w.heap.size 25 [.slice aT T.length cT, .slice aR R.length cR] := by rw [hw1]; exact Blk.newA w _ _
  have HAw := hide_ (awake_any w1)
  have HB1 := hide_ hB1
  have K1 := hide_ k1
  clear hB1 k1
  go_enter Try.func4, Try.ntmps4
  go_upto_region 1 with fail
  rw [← hw1]
  clear hw1
  go_upto_region 3 with (go_at_call 5; refine HAw.out.mono ?_; rintro e w2 ⟨rfl, hB2⟩)
  have HB2 := hide_ (below_to HB1.out hB2)
  have K2 := hide_ (K1.out.later hB2)
  have HOw := hide_ (own_any aT cT T aR cR R w2 hTl hRl hno hnR hpl (hide_ (hT.out.later HB2.out)) (hide_ (hR.out.later HB2.out)))
  have s0 := K2.out.cell 0; have s1 := K2.out.cell 1
  simp at s0 s1
  clear hB2 HAw HB1 K1
  go_wp2_with fail
  refine HOw.out.mono ?_
  rintro e w3 ⟨gT, cO, Q, aO, cO2, rfl, HLt3, HQ, HB3⟩
  clear HOw s0 s1
  obtain ⟨w4, hw4⟩ : ∃ wx, wx = w3.alloc (.cells #[.slice (some ⟨gT, 0, none⟩) T.length cO, .slice aO R.length cO2] 25) := ⟨_, rfl⟩
  have hB4 : Below w3.heap.size w3 w4 := by rw [hw4]; exact below1 _ _
  have KS4 : Hid (Blk w4 w3.heap.size 25 [.slice (some ⟨gT, 0, none⟩) T.length cO, .slice aO R.length cO2]) := hide_ (by rw [hw4]; exact Blk.newA w3 _ _)
  have HLt4 := hide_ (HLt3.out.later hB4)
  have HB4 := hide_ (below_to HB2.out (below_to HB3.out hB4))
  have K4 := hide_ (K2.out.later (below_to HB3.out hB4))
  have hb2 : w.heap.size ≤ w2.heap.size := HB2.out.size
  have hb24 : w2.heap.size ≤ w4.heap.size := Nat.le_trans HB3.out.size hB4.size
  have HEn : Hid (∀ w', LtO w' w2.heap.size gT cO Q (.slice aO R.length cO2) R → Calls Try.prog 6 #[.agg #[.slice (some ⟨gT, 0, none⟩) T.length cO, .slice aO R.length cO2]] w' fun e w'' => EnTo T R w' e w'') := hide_ (fun w' hl => by
    have hr := hl.row
    rw [HQ.out] at hr
    exact encoder_any (some ⟨gT, 0, none⟩) cO T aO cO2 R w' (by omega) (by omega) HL (hide_ hr.1) (hide_ hr.2))
  clear hB4 HLt3 HB3 HB2 K2
  go_upto_region 4 with fail
  rw [← hw4]
  clear hw4
  obtain ⟨g3, hg3⟩ : ∃ g, g = w3.heap.size := ⟨_, rfl⟩
  rw [← hg3] at KS4 ⊢
  clear hg3
  obtain ⟨C, hC⟩ : ∃ C, zX T R = C := ⟨_, rfl⟩
  obtain ⟨E, hE⟩ : ∃ E, zY T R = E := ⟨_, rfl⟩
  obtain ⟨d, hd⟩ : ∃ d, decide (zA T R = 0) = d := ⟨_, rfl⟩
  obtain ⟨eA, heA⟩ : ∃ e, zA T R = e := ⟨_, rfl⟩
  have hCl : C.length ≤ 1048576 := by rw [← hC]; exact zX_len T R
  have hEl : E.length ≤ 2000000 := by rw [← hE]; have := zY_len T R; omega
  have HRef := hide_ (fun w' (hb : Below w.heap.size w w') => rencoder_any aT cT T aR cR R w' (by omega) (by omega) HL (hide_ (hT.out.later hb)) (hide_ (hR.out.later hb)))
  unfold EnTo at HEn HRef
  rw [hC, hE, hd, heA] at HEn
  simp only [hd] at HRef
  simp only [hC, hE, heA] at HRef
  clear hC hE hd heA
  have HCa := hide_ (HEn.out w4 HLt4.out)
  have s0 := KS4.out.cell 0; have s1 := KS4.out.cell 1
  simp at s0 s1
  go_wp2_with fail
  refine HCa.out.mono ?_
  rintro e w5 ⟨va, vea, rfl, HC5, HE5, hB5⟩
  obtain ⟨a5, c5, rfl, -, -, -⟩ := HC5.out.row
  obtain ⟨b5, f5, rfl, -, -, -⟩ := HE5.out.row
  clear HCa s0 s1
  obtain ⟨w6, hw6⟩ : ∃ wx, wx = w5.alloc (.cells #[.bool d, .slice a5 C.length c5, .slice b5 E.length f5] 30) := ⟨_, rfl⟩
  have hB6 : Below w5.heap.size w5 w6 := by rw [hw6]; exact below1 _ _
  have hz6 : w6.heap.size = w5.heap.size + 1 := by rw [hw6]; simp
  have KA6 : Hid (Blk w6 w5.heap.size 30 [.bool d, .slice a5 C.length c5, .slice b5 E.length f5]) := hide_ (by rw [hw6]; exact Blk.newA w5 _ _)
  have hB46 := below_to hB5 hB6
  have HC6 := hide_ (HC5.out.later hB6)
  have HE6 := hide_ (HE5.out.later hB6)
  have HLA : Hid (∀ k, (Value.slice a5 C.length c5).ownBlock = some k ∨ (Value.slice b5 E.length f5).ownBlock = some k → k < w6.heap.size ∧ w2.heap.size ≤ k) := hide_ (fun k hk => by
    rcases hk with hk | hk
    · have := HC5.out.lies hk; omega
    · have := HE5.out.lies hk; omega)
  have HLt6 := hide_ (HLt4.out.later hB46)
  have KS6 := hide_ (KS4.out.later hB46)
  have K6 := hide_ (K4.out.later hB46)
  have HB6 := hide_ (below_to HB4.out hB46)
  have hb46 : w4.heap.size ≤ w6.heap.size := hB46.size
  clear hB5 hB6 hB46 HC5 HE5 HLt4 KS4 K4 HB4 hz6
  go_upto_region 5 with fail
  rw [← hw6]
  clear hw6
  obtain ⟨g4, hg4⟩ : ∃ g, g = w5.heap.size := ⟨_, rfl⟩
  rw [← hg4] at KA6 ⊢
  clear hg4
  have HCb := hide_ (HEn.out w6 HLt6.out)
  have s0 := KS6.out.cell 0; have s1 := KS6.out.cell 1
  simp at s0 s1
  go_wp2_with fail
  refine HCb.out.mono ?_
  rintro e w7 ⟨vb, veb, rfl, HC7, HE7, hB7⟩
  obtain ⟨a7, c7, rfl, -, -, -⟩ := HC7.out.row
  obtain ⟨b7, f7, rfl, -, -, -⟩ := HE7.out.row
  clear HCb s0 s1
  obtain ⟨w8, hw8⟩ : ∃ wx, wx = w7.alloc (.cells #[.bool d, .slice a7 C.length c7, .slice b7 E.length f7] 30) := ⟨_, rfl⟩
  have hB8 : Below w7.heap.size w7 w8 := by rw [hw8]; exact below1 _ _
  have KB8 : Hid (Blk w8 w7.heap.size 30 [.bool d, .slice a7 C.length c7, .slice b7 E.length f7]) := hide_ (by rw [hw8]; exact Blk.newA w7 _ _)
  have hB68 := below_to hB7 hB8
  have HCb8 := hide_ (HC7.out.later hB8)
  have HEb8 := hide_ (HE7.out.later hB8)
  have HC8 := hide_ (HC6.out.later hB68)
  have HE8 := hide_ (HE6.out.later hB68)
  have HLt8 := hide_ (HLt6.out.later hB68)
  have KS8 := hide_ (KS6.out.later hB68)
  have KA8 := hide_ (KA6.out.later hB68)
  have K8 := hide_ (K6.out.later hB68)
  have HB8 := hide_ (below_to HB6.out hB68)
  have hb68 : w6.heap.size ≤ w8.heap.size := hB68.size
  clear hB7 hB8 hB68 HC7 HE7 HLt6 KS6 K6 HB6 KA6 HC6 HE6
  go_upto_region 6 with fail
  rw [← hw8]
  clear hw8
  obtain ⟨g6, hg6⟩ : ∃ g, g = w7.heap.size := ⟨_, rfl⟩
  rw [← hg6] at KB8 ⊢
  clear hg6
  have HCw := hide_ (HRef.out w8 HB8.out)
  have s0 := K8.out.cell 0; have s1 := K8.out.cell 1
  simp at s0 s1
  go_wp2_with fail
  refine HCw.out.mono ?_
  rintro e w9 ⟨vw, vew, rfl, HC9, HE9, hB9⟩
  obtain ⟨a9, c9, rfl, -, -, -⟩ := HC9.out.row
  obtain ⟨b9, f9, rfl, -, -, -⟩ := HE9.out.row
  clear HCw s0 s1
  obtain ⟨w10, hw10⟩ : ∃ wx, wx = w9.alloc (.cells #[.bool d, .slice a9 C.length c9, .slice b9 E.length f9] 30) := ⟨_, rfl⟩
  have hB10 : Below w9.heap.size w9 w10 := by rw [hw10]; exact below1 _ _
  have KW : Blk w10 w9.heap.size 30 [.bool d, .slice a9 C.length c9, .slice b9 E.length f9] := by rw [hw10]; exact Blk.newA w9 _ _
  obtain ⟨g8, hg8⟩ : ∃ g, g = w9.heap.size := ⟨_, rfl⟩
  rw [← hg8] at KW
  have hB810 := below_to hB9 hB10
  have HRs : Hid (Rs w w10 w2.heap.size w6.heap.size g3 g4 g6 g8 gT cO T.length Q (.slice aO R.length cO2) R d (.slice a5 C.length c5) (.slice b5 E.length f5) (.slice a7 C.length c7) (.slice b7 E.length f7) (.slice a9 C.length c9) (.slice b9 E.length f9) C E) := hide_ ⟨KS8.out.later hB810, HLt8.out.later hB810, KA8.out.later hB810, KB8.out.later hB810, KW, HCb8.out.later hB810, HEb8.out.later hB810, own_base (HC9.out.later hB10) hb68, own_base (HE9.out.later hB10) hb68, hb2, below_to HB8.out hB810⟩
  have HC10 := hide_ (HC8.out.later hB810)
  have HE10 := hide_ (HE8.out.later hB810)
  have K10 := hide_ (K8.out.later hB810)
  have hb410 : w4.heap.size ≤ w10.heap.size := Nat.le_trans hb46 (Nat.le_trans hb68 hB810.size)
  clear hB9 hB10 hB810 HC9 HE9 HLt8 KS8 K8 HB8 KA8 HC8 HE8 KB8 HCb8 HEb8 KW HRef
  go_upto_region 7 with fail
  rw [← hw10]
  rw [← hg8]
  clear hw10 hg8
  have hne : (eA != eA) = false := by simp
  have HSm : Hid (∀ (a b : Option Addr) (c f : Nat) (w' : World), IRow w' a C → Row .i64 w' b E → Rs w w' w2.heap.size w6.heap.size g3 g4 g6 g8 gT cO T.length Q (.slice aO R.length cO2) R d (.slice a5 C.length c5) (.slice b5 E.length f5) (.slice a7 C.length c7) (.slice b7 E.length f7) (.slice a9 C.length c9) (.slice b9 E.length f9) C E → Calls Try.prog 9 #[.agg #[.bool d, .slice a C.length c, .slice b E.length f], .agg #[.bool d, .slice a9 C.length c9, .slice b9 E.length f9]] w' fun e w'' => e = .returned (.bool true) ∧ Below w'.heap.size w' w'') := hide_ (fun a b c f w' h1 h2 h3 => rsame_yes d a a9 b b9 c c9 f f9 C E w' (by omega) (by omega) (hide_ h1) (hide_ h3.cw.rowS) (hide_ h2) (hide_ h3.ew.rowS))
  have a0 := HRs.out.ka.cell 0; have a1 := HRs.out.ka.cell 1; have a2 := HRs.out.ka.cell 2
  have x0 := HRs.out.kw.cell 0; have x1 := HRs.out.kw.cell 1; have x2 := HRs.out.kw.cell 2
  simp at a0 a1 a2 x0 x1 x2
  go_wp2_with fail
  refine (HSm.out a5 b5 c5 f5 w10 HC10.out.rowS HE10.out.rowS HRs.out).mono ?_
  rintro e w11 ⟨rfl, hB11⟩
  clear a0 a1 a2 x0 x1 x2
  have HRs11 := hide_ (HRs.out.later hB11)
  have HC11 := hide_ (HC10.out.later hB11)
  have HE11 := hide_ (HE10.out.later hB11)
  have K11 := hide_ (K10.out.later hB11)
  have hb11 : w10.heap.size ≤ w11.heap.size := hB11.size
  clear hB11 HRs HC10 HE10 K10
  have a0 := HRs11.out.kb.cell 0; have a1 := HRs11.out.kb.cell 1; have a2 := HRs11.out.kb.cell 2
  have x0 := HRs11.out.kw.cell 0; have x1 := HRs11.out.kw.cell 1; have x2 := HRs11.out.kw.cell 2
  simp at a0 a1 a2 x0 x1 x2
  go_wp2_with fail
  refine (HSm.out a7 b7 c7 f7 w11 HRs11.out.cb.rowS HRs11.out.eb.rowS HRs11.out).mono ?_
  rintro e w12 ⟨rfl, hB12⟩
  clear a0 a1 a2 x0 x1 x2
  have HRs12 := hide_ (HRs11.out.later hB12)
  have HC12 := hide_ (HC11.out.later hB12)
  have HE12 := hide_ (HE11.out.later hB12)
  have K12 := hide_ (K11.out.later hB12)
  have hb12 : w11.heap.size ≤ w12.heap.size := hB12.size
  clear hB12 HRs11 HC11 HE11 K11
  have a0 := HRs12.out.ks.cell 0; have a1 := HRs12.out.ks.cell 1
  have x0 := K12.out.cell 0; have x1 := K12.out.cell 1
  simp at a0 a1 x0 x1
  have HSt := hide_ (still_yes gT cO Q aO cO2 w2.heap.size aT cT T aR cR R w12 hTl hRl hpl (hide_ HRs12.out.lt) HQ (hide_ (hT.out.later HRs12.out.bl)))
  go_wp2_with fail
  refine HSt.out.mono ?_
  rintro e w13 ⟨rfl, hB13⟩
  clear a0 a1 x0 x1 HSt
  have HRs13 := hide_ (HRs12.out.later hB13)
  have HC13 := hide_ (HC12.out.later hB13)
  have HE13 := hide_ (HE12.out.later hB13)
  have hb13 : w4.heap.size ≤ w13.heap.size := by have := hB13.size; omega
  clear hB13 HRs12 HC12 HE12 K12
  go_upto_region 10 with fail
  clear hb11 hb12 hb410
  generalize hB4e : w4.heap.size = B4 at *
  generalize hB6e : w6.heap.size = B6 at *
  generalize hB2e : w2.heap.size = B2 at *
  clear hB4e hB6e hB2e
  go_loopw [10] (fun x10 wr => ∃ (i : Nat), i ≤ C.length ∧ x10 = .int .i64 (i : Int) ∧ B4 ≤ wr.heap.size ∧ Hid (CoS wr B4 (.slice a5 C.length c5) C.length i) ∧ Hid (IOwn wr B4 (.slice b5 E.length f5) E) ∧ Hid (Rs w wr B2 B6 g3 g4 g6 g8 gT cO T.length Q (.slice aO R.length cO2) R d (.slice a5 C.length c5) (.slice b5 E.length f5) (.slice a7 C.length c7) (.slice b7 E.length f7) (.slice a9 C.length c9) (.slice b9 E.length f9) C E)) (fun x10 _ => C.length - (intOf x10).toNat)
  case atStart => exact ⟨0, Nat.zero_le _, rfl, hb13, hide_ ⟨C, rfl, fun j x hj => by omega, HC13.out⟩, HE13, HRs13⟩
  case round =>
    obtain ⟨i, hi, rfl, hbq, HCq, HEq, HRq⟩ := hrel
    generalize wr = wq at *
    clear HC13 HE13 HRs13
    have q1 := HRq.out.ka.cell 1
    simp at q1
    by_cases hlt : i < C.length
    · have hlt' : (i : Int) < (C.length : Int) := by omega
      obtain ⟨D, hD, hDm, hDo⟩ := HCq.out
      obtain ⟨gC, hga⟩ : ∃ g, a5 = some ⟨g, 0, none⟩ := by
        obtain ⟨g, cap, ys, e, -⟩ := ownS_blk hDo (by omega)
        injection e with e _ _
        exact ⟨g, e⟩
      subst hga
      obtain ⟨hS4, hU4⟩ := hDo.set4 (i := i) (by omega) ⟨-1, 0, 0, 0⟩
      obtain ⟨zs, hz⟩ := ownS_type hDo (k := gC) rfl
      have hxx : D[i]? = some (D[i]'(by omega)) := List.getElem?_eq_getElem _
      obtain ⟨m0, m1, m2, m3⟩ := hDo.rowS.at hxx
      simp only [Nat.zero_add] at m0 m1 m2 m3
      have mz := fun j => hz.frozen j
      have HC2 : Hid (CoS ((((wq.setCell ⟨gC, i * 4, none⟩ (.int .i64 (-1))).setCell ⟨gC, i * 4 + 1, none⟩ (.int .i64 0)).setCell ⟨gC, i * 4 + 2, none⟩ (.int .i64 0)).setCell ⟨gC, i * 4 + 3, none⟩ (.int .i64 0)) B4 (.slice (some ⟨gC, 0, none⟩) C.length c5) C.length (i + 1)) := hide_ ⟨D.set i ⟨-1, 0, 0, 0⟩, by rw [List.length_set]; exact hD, fun j x hj hx => by
        by_cases hji : j = i
        · subst hji
          rw [List.getElem?_set_self (by omega)] at hx
          injection hx with hx
          rw [← hx]
        · rw [List.getElem?_set_ne (fun e => hji e.symm)] at hx
          exact hDm j x (by omega) hx, hS4⟩
      have HE2 := hide_ (HEq.out.upd hU4 (fun k e hk => by subst hk; exact notI HEq.out hz (by decide) e))
      have HR2 := hide_ (HRq.out.upd hU4 (fun k hk => by subst hk; exact ⟨(HLA.out k (.inl rfl)).1, (HLA.out k (.inl rfl)).2, _, zs, hz, .inl rfl⟩))
      have hb2q : B4 ≤ ((((wq.setCell ⟨gC, i * 4, none⟩ (.int .i64 (-1))).setCell ⟨gC, i * 4 + 1, none⟩ (.int .i64 0)).setCell ⟨gC, i * 4 + 2, none⟩ (.int .i64 0)).setCell ⟨gC, i * 4 + 3, none⟩ (.int .i64 0)).heap.size := Nat.le_trans hbq (Upd.size hU4)
      have Hb2 := hide_ hb2q
      generalize D[i]'_ = xx at *
      clear hS4 hU4 hz hxx hDo hD hDm hb2q
      go_wp2_with fail
      go_roundw
      case rel => exact ⟨i + 1, by omega, by go_num, Hb2.out, HC2, HE2, HR2⟩
      case measure => simp [intOf]; omega
    · obtain rfl : i = C.length := by omega
      have hlt' : ¬ (C.length : Int) < (C.length : Int) := by omega
      clear hlt hi
      have HE0 : Hid (EnS wq B4 (.slice b5 E.length f5) E.length 0) := hide_ ⟨E, rfl, fun j x hj => by omega, HEq.out⟩
      clear HEq
      go_upto_region 14 with fail
      clear q1
      go_loopw [11] (fun x11 wr => ∃ (i : Nat), i ≤ E.length ∧ x11 = .int .i64 (i : Int) ∧ B4 ≤ wr.heap.size ∧ Hid (CoS wr B4 (.slice a5 C.length c5) C.length C.length) ∧ Hid (EnS wr B4 (.slice b5 E.length f5) E.length i) ∧ Hid (Rs w wr B2 B6 g3 g4 g6 g8 gT cO T.length Q (.slice aO R.length cO2) R d (.slice a5 C.length c5) (.slice b5 E.length f5) (.slice a7 C.length c7) (.slice b7 E.length f7) (.slice a9 C.length c9) (.slice b9 E.length f9) C E)) (fun x11 _ => E.length - (intOf x11).toNat)
      case atStart => exact ⟨0, Nat.zero_le _, rfl, hbq, HCq, HE0, HRq⟩
      case round =>
        obtain ⟨i, hi, rfl, hbz, HCz, HEz, HRz⟩ := hrel
        generalize wr = wz at *
        clear HE0 HCq HRq
        have q2 := HRz.out.ka.cell 2
        simp at q2
        by_cases hlt : i < E.length
        · have hlt' : (i : Int) < (E.length : Int) := by omega
          obtain ⟨F, hF, hFm, hFo⟩ := HEz.out
          obtain ⟨D, hD, hDm, hDo⟩ := HCz.out
          obtain ⟨gE, hgb⟩ : ∃ g, b5 = some ⟨g, 0, none⟩ := by
            obtain ⟨g, cap, ys, e, -⟩ := ownS_blk hFo (by omega)
            injection e with e _ _
            exact ⟨g, e⟩
          subst hgb
          have hS4 := hFo.set (i := i) (by omega) (-1)
          have hU4 : Upd (fun k => k = gE) wz (wz.setCell ⟨gE, i, none⟩ (.int .i64 (-1))) := (Upd.refl (fun k => k = gE) wz).set _ _ (.inl rfl)
          obtain ⟨zs, hz⟩ := ownS_type hFo (k := gE) rfl
          obtain ⟨b9', o9', e9', -, hrr⟩ := hFo.rowS.open (by omega)
          injection e9' with e9'
          injection e9' with e91 e92 _
          subst e91 e92
          have m0 := hrr i (by omega)
          simp only [Nat.zero_add] at m0
          have mz := fun j => hz.frozen j
          have HE2 : Hid (EnS (wz.setCell ⟨gE, i, none⟩ (.int .i64 (-1))) B4 (.slice (some ⟨gE, 0, none⟩) E.length f5) E.length (i + 1)) := hide_ ⟨F.set i (-1), by rw [List.length_set]; exact hF, fun j x hj hx => by
            by_cases hji : j = i
            · subst hji
              rw [List.getElem?_set_self (by omega)] at hx
              injection hx with hx
              exact hx.symm
            · rw [List.getElem?_set_ne (fun e => hji e.symm)] at hx
              exact hFm j x (by omega) hx, hS4⟩
          have HC2 : Hid (CoS (wz.setCell ⟨gE, i, none⟩ (.int .i64 (-1))) B4 (.slice a5 C.length c5) C.length C.length) := hide_ ⟨D, hD, hDm, hDo.upd hU4 (fun k e hk => by subst hk; exact notC hDo hz (by decide) e)⟩
          have HR2 := hide_ (HRz.out.upd hU4 (fun k hk => by subst hk; exact ⟨(HLA.out k (.inr rfl)).1, (HLA.out k (.inr rfl)).2, _, zs, hz, .inr rfl⟩))
          have Hb2 : Hid (B4 ≤ (wz.setCell ⟨gE, i, none⟩ (.int .i64 (-1))).heap.size) := hide_ (Nat.le_trans hbz (Upd.size hU4))
          generalize F.getD i 0 = xx at *
          clear hS4 hU4 hz hFo hF hFm hrr hD hDm hDo
          go_wp2_with fail
          go_roundw
          case rel => exact ⟨i + 1, by omega, by go_num, Hb2.out, HC2, HE2, HR2⟩
          case measure => simp [intOf]; omega
        · obtain rfl : i = E.length := by omega
          have hlt' : ¬ (E.length : Int) < (E.length : Int) := by omega
          clear hlt hi
          obtain ⟨F, hF, hFm, hFo⟩ := HEz.out
          obtain ⟨D, hD, hDm, hDo⟩ := HCz.out
          obtain ⟨gX, cX, wa, ra, xa, da, ua⟩ := hDo.pushK ⟨-2, 0, 0, 0⟩ (by omega) hbz
          have hRa := HRz.out.upd ua (fun k hk => by
            obtain ⟨zs, hz⟩ := ownS_type hDo hk
            exact ⟨(HLA.out k (.inl hk)).1, (HLA.out k (.inl hk)).2, _, zs, hz, .inl rfl⟩)
          have hFa : IOwn wa B4 (.slice b5 E.length f5) F := hFo.upd ua (fun k e hk => notIC hFo hDo k e hk)
          have hba : B4 ≤ wa.heap.size := Nat.le_trans hbz (Upd.size ua)
          obtain ⟨gY, cY, wb, rb, yb, fb, ub⟩ := hFa.pushK (-2) (by omega) hba
          have hRb := hRa.upd ub (fun k hk => by
            obtain ⟨zs, hz⟩ := ownS_type hFa hk
            exact ⟨(HLA.out k (.inr hk)).1, (HLA.out k (.inr hk)).2, _, zs, hz, .inr rfl⟩)
          have hDb : COwn wb B4 (.slice a5 C.length c5) D := da.upd ub (fun k e hk => notIC hFa da k hk e)
          have hXb : COwn wb B4 (.slice (some ⟨gX, 0, none⟩) (D.length + 1) cX) (D ++ [⟨-2, 0, 0, 0⟩]) := xa.upd ub (fun k e hk => notIC hFa xa k hk e)
          rw [hD] at ra hXb
          rw [hF] at rb yb
          have r1 := HRz.out.ka.cell 1; have r2 := hRa.ka.cell 2
          simp at r1 r2
          have HRA := hide_ ra
          have HRB := hide_ rb
          have HRb := hide_ hRb
          have HDb := hide_ hDb
          have HFb := hide_ fb
          have HXb := hide_ hXb
          have HYb := hide_ yb
          have HDl := hide_ hD
          have HFl := hide_ hF
          have HDm := hide_ hDm
          have HFm := hide_ hFm
          clear ra rb ua ub xa da yb fb hXb hDb hRb hRa hFa hFo hDo hD hF hDm hFm hba HCz HEz HRz
          go_upto_region 18 with (at_builtin; refine wpList_append_run rfl (.tmp 87) (.tmp 89) 27 27 rfl rfl rfl HRA.out ?_)
          clear HRA r1 q2
          go_upto_region 20 with (at_builtin; refine wpList_append_run rfl (.tmp 92) (.tmp 93) 28 28 rfl rfl rfl HRB.out ?_)
          clear HRB r2
          go_loopw [14] (fun x14 wr => ∃ (i : Nat), i ≤ C.length ∧ x14 = .int .i64 (i : Int) ∧ wb = wr) (fun x14 _ => C.length - (intOf x14).toNat)
          case atStart => exact ⟨0, Nat.zero_le _, rfl, rfl⟩
          case round =>
            obtain ⟨i, hi, rfl, rfl⟩ := hrel
            have q1 := HRb.out.ka.cell 1
            simp at q1
            by_cases hlt : i < C.length
            · have hlt' : (i : Int) < (C.length : Int) := by omega
              have hlt1 : (i : Int) < (C.length : Int) + 1 := by omega
              obtain ⟨x, hx⟩ : ∃ x, D[i]? = some x := ⟨_, List.getElem?_eq_getElem (by have := HDl.out; omega)⟩
              have hop := HDm.out i x hlt hx
              obtain ⟨gC, hga⟩ : ∃ g, a5 = some ⟨g, 0, none⟩ := by
                obtain ⟨g, cap, ys, e, -⟩ := ownS_blk HDb.out (by have := HDl.out; omega)
                injection e with e _ _
                exact ⟨g, e⟩
              subst hga
              obtain ⟨m0, -, -, -⟩ := HDb.out.rowS.at hx
              obtain ⟨n0, -, -, -⟩ := HXb.out.rowS.at (i := i) (x := x) (by rw [List.getElem?_append_left (by have := HDl.out; omega)]; exact hx)
              simp only [Nat.zero_add] at m0 n0
              rw [hop] at m0 n0
              clear hx hop
              go_wp2_with fail
              go_roundw
              case rel => exact ⟨i + 1, by omega, by go_num, (by first | rfl | trivial)⟩
              case measure => simp [intOf]; omega
            · obtain rfl : i = C.length := by omega
              have hlt' : ¬ (C.length : Int) < (C.length : Int) := by omega
              clear hlt hi
              go_upto_region 25 with fail
              clear q1
              go_loopw [15] (fun x15 wr => ∃ (i : Nat), i ≤ E.length ∧ x15 = .int .i64 (i : Int) ∧ wb = wr) (fun x15 _ => E.length - (intOf x15).toNat)
              case atStart => exact ⟨0, Nat.zero_le _, rfl, rfl⟩
              case round =>
                obtain ⟨i, hi, rfl, rfl⟩ := hrel
                have q2 := HRb.out.ka.cell 2
                simp at q2
                by_cases hlt : i < E.length
                · have hlt' : (i : Int) < (E.length : Int) := by omega
                  have hlt1 : (i : Int) < (E.length : Int) + 1 := by omega
                  have hlF : i < F.length := by have := HFl.out; omega
                  have hop := HFm.out i (F[i]'hlF) hlt (List.getElem?_eq_getElem hlF)
                  obtain ⟨b1, o1, e1, -, h1⟩ := HFb.out.rowS.open (by omega)
                  obtain ⟨b2, o2, e2, -, h2⟩ := HYb.out.rowS.open (by simp)
                  injection e2 with e2
                  injection e2 with e21 e22 _
                  subst e1 e21 e22
                  have m0 := h1 i hlF
                  have n0 := h2 i (by rw [List.length_append]; omega)
                  rw [List.getD_eq_getElem?_getD, List.getElem?_eq_getElem hlF] at m0
                  rw [List.getD_eq_getElem?_getD, List.getElem?_append_left hlF, List.getElem?_eq_getElem hlF] at n0
                  simp only [Option.getD_some, hop, Nat.zero_add] at m0 n0
                  clear h1 h2 hop
                  go_wp2_with fail
                  go_roundw
                  case rel => exact ⟨i + 1, by omega, by go_num, (by first | rfl | trivial)⟩
                  case measure => simp [intOf]; omega
                · obtain rfl : i = E.length := by omega
                  have hlt' : ¬ (E.length : Int) < (E.length : Int) := by omega
                  clear hlt hi
                  have HCc := hide_ (HEn.out wb HRb.out.lt)
                  have s0 := HRb.out.ks.cell 0; have s1 := HRb.out.ks.cell 1
                  simp at s0 s1
                  go_wp2_with fail
                  refine HCc.out.mono ?_
                  rintro e wc ⟨vc, vec, rfl, HCd, HEd, hBc⟩
                  obtain ⟨ad, cd, rfl, -, -, -⟩ := HCd.out.row
                  obtain ⟨bd, fd, rfl, -, -, -⟩ := HEd.out.row
                  clear HCc s0 s1 q2
                  obtain ⟨we, hwe⟩ : ∃ wx, wx = wc.alloc (.cells #[.bool d, .slice ad C.length cd, .slice bd E.length fd] 30) := ⟨_, rfl⟩
                  have hBe : Below wc.heap.size wc we := by rw [hwe]; exact below1 _ _
                  have KC : Hid (Blk we wc.heap.size 30 [.bool d, .slice ad C.length cd, .slice bd E.length fd]) := hide_ (by rw [hwe]; exact Blk.newA wc _ _)
                  have hBbe := below_to hBc hBe
                  have HRe := hide_ (HRb.out.later hBbe)
                  have HCe := hide_ (HCd.out.later hBe)
                  have HEe := hide_ (HEd.out.later hBe)
                  have HXe := hide_ (HXb.out.later hBbe)
                  have HYe := hide_ (HYb.out.later hBbe)
                  clear hBc hBe hBbe HCd HEd HRb HXb HYb HDb HFb
                  go_upto_region 30 with fail
                  rw [← hwe]
                  clear hwe
                  obtain ⟨gc, hgc⟩ : ∃ g, g = wc.heap.size := ⟨_, rfl⟩
                  rw [← hgc] at KC ⊢
                  clear hgc
                  have heq : (eA == eA) = true := by simp
                  have a0 := HRe.out.kb.cell 0; have a1 := HRe.out.kb.cell 1; have a2 := HRe.out.kb.cell 2
                  have x0 := HRe.out.kw.cell 0; have x1 := HRe.out.kw.cell 1; have x2 := HRe.out.kw.cell 2
                  simp at a0 a1 a2 x0 x1 x2
                  go_wp2_with fail
                  refine (HSm.out a7 b7 c7 f7 we HRe.out.cb.rowS HRe.out.eb.rowS HRe.out).mono ?_
                  rintro e wf ⟨rfl, hBf⟩
                  clear a0 a1 a2 x0 x1 x2
                  have HRf := hide_ (HRe.out.later hBf)
                  have HCf := hide_ (HCe.out.later hBf)
                  have HEf := hide_ (HEe.out.later hBf)
                  have HXf := hide_ (HXe.out.later hBf)
                  have HYf := hide_ (HYe.out.later hBf)
                  have KCf := hide_ (KC.out.later hBf)
                  clear hBf HRe HCe HEe HXe HYe KC
                  have a0 := KCf.out.cell 0; have a1 := KCf.out.cell 1; have a2 := KCf.out.cell 2
                  have x0 := HRf.out.kw.cell 0; have x1 := HRf.out.kw.cell 1; have x2 := HRf.out.kw.cell 2
                  simp at a0 a1 a2 x0 x1 x2
                  go_wp2_with fail
                  refine (HSm.out ad bd cd fd wf HCf.out.rowS HEf.out.rowS HRf.out).mono ?_
                  rintro e wg ⟨rfl, hBg⟩
                  clear a0 a1 a2 x0 x1 x2
                  have hRg := HRf.out.later hBg
                  have y1 := hRg.ka.cell 1; have y2 := hRg.ka.cell 2
                  simp at y1 y2
                  obtain ⟨n0, -, -, -⟩ := (HXf.out.later hBg).rowS.at (i := C.length) (x := ⟨-2, 0, 0, 0⟩) (by rw [← HDl.out]; simp)
                  simp only [Nat.zero_add] at n0
                  obtain ⟨b2, o2, e2, -, h2⟩ := (HYf.out.later hBg).rowS.open (by simp)
                  injection e2 with e2
                  injection e2 with e21 e22 _
                  subst e21 e22
                  have n1 := h2 E.length (by rw [List.length_append, HFl.out]; simp)
                  rw [List.getD_eq_getElem?_getD, List.getElem?_append_right (by rw [HFl.out]; exact Nat.le_refl _), HFl.out, Nat.sub_self] at n1
                  simp at n1
                  have hl1 : (C.length : Int) < (C.length : Int) + 1 := by omega
                  have hl2 : (E.length : Int) < (E.length : Int) + 1 := by omega
                  have HBf := hide_ hRg.bl
                  clear hBg hRg h2
                  go_wp2_with fail
                  go_ret
                  exact ⟨rfl, HBf.out⟩
end Go.Proofs.Ytncndgfaalojpaa
/- What the bound of an '..Upto' statement says of a schema. -/
namespace Go.Proofs.Ytncndgfaalojpaa
open Go.ChangeShapes Go.WideShapes Go.ChangeAt Go.RowKit
set_option linter.unusedVariables false

section
variable {H : Type} {enc : TypeId × Value → H} {w : World} {base : Nat} {held : Bool}
theorem bulk_pos (d : DataW H) : 1 ≤ Rows.uptoBulk d := by
  cases d with
  | lit l => cases l <;> simp [Rows.uptoBulk]
  | nil => simp [Rows.uptoBulk]
  | ptr d => simp [Rows.uptoBulk]
  | slice a b => simp [Rows.uptoBulk]
  | agg a => simp [Rows.uptoBulk]
  | iface a d => simp [Rows.uptoBulk]
  | map a => simp [Rows.uptoBulk]
  | held a => simp [Rows.uptoBulk]
theorem bulk_mem {d : DataW H} : ∀ {l : List (DataW H)}, d ∈ l → Rows.uptoBulk d ≤ Rows.uptoBulkAll l
  | x :: r, h => by
    simp only [Rows.uptoBulkAll]
    rcases List.mem_cons.1 h with e | e
    · subst e; omega
    · have := bulk_mem e; omega
theorem bulk_one : ∀ {l : List (DataW H)}, l.length ≤ Rows.uptoBulkAll l
  | [] => Nat.zero_le _
  | x :: r => by
    have h1 := bulk_pos x
    have h2 := bulk_one (l := r)
    simp only [Rows.uptoBulkAll, List.length_cons]
    omega
theorem field_bulk {P : Program} {t : TypeId} {fs : Array Field} (ht : P.underlying t = some (.struct fs)) {fuel : Nat} {cs : List Value} {y : DataW H × List MemPlace} (h : DataW.trod enc P w base (fun _ => true) held fuel t cs = some y) :
    cs.length = P.cellsOf t ∧ ∃ m, ∀ (i : Nat) (f : Field) (c : Value), fs[i]? = some f → P.cellsOf f.type = 1 → cs[f.offset]? = some c → ∃ z, DataW.trod enc P w base (fun _ => true) held m f.type [c] = some z ∧ Rows.uptoBulk z.1 + 1 ≤ Rows.uptoBulk y.1 := by
  obtain ⟨xs, m, _, hy, hl, hlen, hf⟩ := DataW.trod_struct ht h
  refine ⟨hl, m, fun i f c hfi hc1 hco => ?_⟩
  have hi : i < xs.length := by
    rw [hlen]
    exact (Array.getElem?_eq_some_iff.1 hfi).1
  have h1 := hf i f hfi
  rw [hc1, List.getElem?_eq_getElem hi] at h1
  obtain ⟨hol, hoc⟩ := List.getElem?_eq_some_iff.1 hco
  have e : (cs.drop f.offset).take 1 = [c] := by
    rw [List.drop_eq_getElem_cons hol, hoc]
    rfl
  rw [e] at h1
  refine ⟨_, h1, ?_⟩
  subst hy
  simp only [Rows.uptoBulk]
  have hm : (xs[i]).1 ∈ xs.map (·.1) := List.mem_map.2 ⟨xs[i], List.getElem_mem _, rfl⟩
  have := bulk_mem hm
  omega
theorem structs_bulk {P : Program} {t e : TypeId} (ht : P.underlying t = some (.slice e)) (hpos : 0 < P.cellsOf e) {fuel : Nat} {a0 : Option Addr} {len cap : Nat} {y : DataW H × List MemPlace} (h : DataW.trod enc P w base (fun _ => true) held fuel t [.slice a0 len cap] = some y) :
    len = 0 ∨ ∃ b off n, ∃ G : List (DataW H), a0 = some ⟨b, off, none⟩ ∧ b < w.heap.size ∧ len ≤ cap ∧ cap ≤ maxLen ∧ G.length = len ∧ Rows.uptoBulkAll G + 1 ≤ Rows.uptoBulk y.1 ∧ ∀ i, i < len → ∃ cs z, cs.length = P.cellsOf e ∧ (∀ j, j < P.cellsOf e → w.cell? ⟨b, off + i * P.cellsOf e + j, none⟩ = cs[j]?) ∧ DataW.trod enc P w base (fun _ => true) held n e cs = some z ∧ G[i]? = some z.1 := by
  rcases Go.Deep.open_slice ht h with ⟨hcs, _⟩ | ⟨x, l, c, m, n, D, Pl, hcs, _, hl, hm, hmm, hy, hel⟩
  · left
    simp at hcs
    exact hcs.2.1
  · simp at hcs
    obtain ⟨rfl, rfl, rfl⟩ := hcs
    by_cases h0 : len = 0
    · exact .inl h0
    right
    have hmc : m = cap := by simpa using hmm
    obtain ⟨b, off, spot⟩ := x
    obtain ⟨cs0, hc0, _⟩ := hel 0 (by omega)
    have q0 := (World.cells?_some hc0).2.2 0 hpos
    have hlen0 := (World.cells?_some hc0).2.1
    have hz : ((⟨b, off, spot⟩ : Addr).add (0 * P.cellsOf e)).add 0 = ⟨b, off, spot⟩ := by simp [Addr.add]
    rw [hz] at q0
    have q1 : w.cell? ⟨b, off, spot⟩ = some (cs0[0]'(by omega)) := by rw [q0]; exact List.getElem?_eq_getElem _
    have hspot : spot = none := by simpa using World.cell?_spot q1
    subst hspot
    refine ⟨b, off, n, (List.range len).map D, rfl, World.block_lt_of_cell? w _ q1, hl, hm, by simp, ?_, fun i hi => ?_⟩
    · subst hy
      simp only [Rows.uptoBulk]
      omega
    · obtain ⟨cs, hcs, ht'⟩ := hel i (by omega)
      refine ⟨cs, _, (World.cells?_some hcs).2.1, fun j hj => ?_, ht', by simp [hi]⟩
      have hcell := (World.cells?_some hcs).2.2 j hj
      rw [add_none, add_none] at hcell
      exact hcell
theorem parts_bulk {fuel : Nat} {c : Value} {y : DataW H × List MemPlace} (h : DataW.trod enc Try.prog w base (fun _ => true) held fuel 41 [c] = some y) :
    ∃ a cap l, c = .slice a l.length cap ∧ l.length ≤ cap ∧ (a = none → cap = 0) ∧ PRow w a l ∧ l.length ≤ Rows.uptoBulk y.1 := by
  obtain ⟨a, n, cap, rfl, hc, hz, _⟩ := slice_formR Try.underlying41 h
  rcases structs_bulk Try.underlying41 (by rw [cellsPt]; omega) h with h0 | ⟨b, off, m, G, rfl, hbl, hlc, hcm, hG, hGb, hel⟩
  · subst h0
    exact ⟨a, cap, [], rfl, hc, hz, .inl rfl, by simp⟩
  · rw [cellsPt] at hel
    obtain ⟨N, hN, hQ⟩ := list_ofR n (fun i (x : Pt) => ∀ j, j < 3 → w.cell? ⟨b, off + i * 3 + j, none⟩ = (ptc x)[j]?) (fun i hi => by
      obtain ⟨cs, z, _, hcell, ht, _⟩ := hel i hi
      obtain ⟨x, rfl⟩ := part_open ht
      exact ⟨x, hcell⟩)
    subst hN
    have := bulk_one (l := G)
    exact ⟨some ⟨b, off, none⟩, cap, N, rfl, hc, hz, .inr ⟨b, off, rfl, hbl, fun i x hx => hQ i x hx⟩, by omega⟩
theorem roots_bulk {fuel : Nat} {c : Value} {y : DataW H × List MemPlace} (h : DataW.trod enc Try.prog w base (fun _ => true) held fuel 23 [c] = some y) :
    ∃ a cap l, c = .slice a l.length cap ∧ l.length ≤ cap ∧ (a = none → cap = 0) ∧ RRow w a l ∧ l.length ≤ Rows.uptoBulk y.1 := by
  obtain ⟨a, n, cap, rfl, hc, hz, _⟩ := slice_formR Try.underlying23 h
  rcases structs_bulk Try.underlying23 (by rw [cellsRt]; omega) h with h0 | ⟨b, off, m, G, rfl, hbl, hlc, hcm, hG, hGb, hel⟩
  · subst h0
    exact ⟨a, cap, [], rfl, hc, hz, .inl rfl, by simp⟩
  · rw [cellsRt] at hel
    obtain ⟨N, hN, hQ⟩ := list_ofR n (fun i (x : Rt) => ∀ j, j < 2 → w.cell? ⟨b, off + i * 2 + j, none⟩ = (rtc x)[j]?) (fun i hi => by
      obtain ⟨cs, z, _, hcell, ht, _⟩ := hel i hi
      obtain ⟨x, rfl⟩ := root_open ht
      exact ⟨x, hcell⟩)
    subst hN
    have := bulk_one (l := G)
    exact ⟨some ⟨b, off, none⟩, cap, N, rfl, hc, hz, .inr ⟨b, off, rfl, hbl, fun i x hx => hQ i x hx⟩, by omega⟩
theorem type_bulk {fuel : Nat} {cs : List Value} {y : DataW H × List MemPlace} (h : DataW.trod enc Try.prog w base (fun _ => true) held fuel 43 cs = some y) :
    ∃ (t : Ty) (va : Option Addr) (vc : Nat), cs = tyc t (.slice va t.ps.length vc) ∧ t.ps.length ≤ vc ∧ (va = none → vc = 0) ∧ PRow w va t.ps ∧ t.ps.length ≤ Rows.uptoBulk y.1 := by
  obtain ⟨hl, m, hf⟩ := field_bulk Try.underlying43 h
  rw [cellsTy] at hl
  obtain ⟨c0, c1, c2, c3, rfl⟩ := len4R hl
  obtain ⟨y0, t0, _⟩ := hf 0 _ c0 rfl (by kernel_rfl) rfl
  obtain ⟨y1, t1, _⟩ := hf 1 _ c1 rfl (by kernel_rfl) rfl
  obtain ⟨y2, t2, _⟩ := hf 2 _ c2 rfl (by kernel_rfl) rfl
  obtain ⟨y3, t3, u3⟩ := hf 3 _ c3 rfl (by kernel_rfl) rfl
  obtain ⟨a0, k0, _, _⟩ := DataW.trod_int Try.underlying3 t0
  obtain ⟨a1, k1, _, _⟩ := DataW.trod_int Try.underlying3 t1
  obtain ⟨a2, k2, _, _⟩ := DataW.trod_int Try.underlying3 t2
  obtain ⟨va, vc, N, rfl, e1, e2, e3, e4⟩ := parts_bulk t3
  simp at k0 k1 k2
  subst k0 k1 k2
  exact ⟨⟨a0, a1, a2, N⟩, va, vc, rfl, e1, e2, e3, by show N.length ≤ _; omega⟩
theorem types_bulk {fuel : Nat} {c : Value} {y : DataW H × List MemPlace} (h : DataW.trod enc Try.prog w base (fun _ => true) held fuel 22 [c] = some y) :
    ∃ a cap T, c = .slice a T.length cap ∧ T.length ≤ cap ∧ (a = none → cap = 0) ∧ TRow w a T ∧ T.length ≤ Rows.uptoBulk y.1 ∧ ∀ t ∈ T, t.ps.length ≤ Rows.uptoBulk y.1 := by
  obtain ⟨a, n, cap, rfl, hc, hz, _⟩ := slice_formR Try.underlying22 h
  rcases structs_bulk Try.underlying22 (by rw [cellsTy]; omega) h with h0 | ⟨b, off, m, G, rfl, hbl, hlc, hcm, hG, hGb, hel⟩
  · subst h0
    exact ⟨a, cap, [], rfl, hc, hz, .inl rfl, by simp, fun d hd => by cases hd⟩
  · rw [cellsTy] at hel
    obtain ⟨D, hD, hQ⟩ := list_ofR n (fun i (d : Ty) => d.ps.length ≤ Rows.uptoBulk y.1 ∧ ∃ va vc, (∀ j, j < 4 → w.cell? ⟨b, off + i * 4 + j, none⟩ = (tyc d (.slice va d.ps.length vc))[j]?) ∧ d.ps.length ≤ vc ∧ (va = none → vc = 0) ∧ PRow w va d.ps) (fun i hi => by
      obtain ⟨cs, z, _, hcell, ht, hg⟩ := hel i hi
      obtain ⟨d, va, vc, rfl, e1, e2, e3, e4⟩ := type_bulk ht
      have := bulk_mem (List.mem_of_getElem? hg)
      exact ⟨d, by omega, va, vc, hcell, e1, e2, e3⟩)
    subst hD
    have := bulk_one (l := G)
    refine ⟨some ⟨b, off, none⟩, cap, D, rfl, hc, hz, .inr ⟨b, off, rfl, hbl, fun i d hd => (hQ i d hd).2⟩, by omega, fun d hd => ?_⟩
    obtain ⟨i, hi, rfl⟩ := List.getElem_of_mem hd
    exact (hQ i _ (List.getElem?_eq_getElem hi)).1
theorem schema_bulk {fuel : Nat} {cs : List Value} {y : DataW H × List MemPlace} (h : DataW.trod enc Try.prog w base (fun _ => true) held fuel 25 cs = some y) :
    ∃ a cap T ar cr R, cs = [.slice a T.length cap, .slice ar R.length cr] ∧ T.length ≤ cap ∧ (a = none → cap = 0) ∧ TRow w a T ∧ T.length ≤ Rows.uptoBulk y.1 ∧ (∀ t ∈ T, t.ps.length ≤ Rows.uptoBulk y.1) ∧ R.length ≤ cr ∧ (ar = none → cr = 0) ∧ RRow w ar R ∧ R.length ≤ Rows.uptoBulk y.1 := by
  obtain ⟨hl, m, hf⟩ := field_bulk Try.underlying25 h
  rw [cellsSc] at hl
  obtain ⟨c0, c1, rfl⟩ := len2R hl
  obtain ⟨y0, t0, u0⟩ := hf 0 _ c0 rfl (by kernel_rfl) rfl
  obtain ⟨y1, t1, u1⟩ := hf 1 _ c1 rfl (by kernel_rfl) rfl
  obtain ⟨a, cap, T, rfl, e1, e2, e3, e4, e5⟩ := types_bulk t0
  obtain ⟨ar, cr, R, rfl, f1, f2, f3, f4⟩ := roots_bulk t1
  exact ⟨a, cap, T, ar, cr, R, rfl, e1, e2, e3, by omega, fun t ht => by have := e5 t ht; omega, f1, f2, f3, by omega⟩
end
end Go.Proofs.Ytncndgfaalojpaa
/- RaiseExact, up to the bound, out of its walk. -/
namespace Go.Proofs.Ytncndgfaalojpaa.raiseExact
open Go.ChangeShapes Go.WideShapes Go.ChangeAt Go.RowKit
set_option linter.unusedVariables false

theorem own : ownKnob Try.prog.godebug = none := by kernel_rfl
theorem laidOut : laidOutB Try.prog = true := by kernel_rfl

set_option maxRecDepth 100000 in
theorem contract (H : Type) (enc : TypeId × Value → H) (W : World) (base : Nat) (args : Array Value) (ds gs : List (DataW H)) (before : List MemPlace)
    (hval : ∀ (j : Nat) t v, Try.f4.params[j]? = some t → args[j]? = some v → Value.okWide Try.prog W .any base t v)
    (hW : DataW.Whole enc Try.prog Try.f4.params.toList Rows.raiseExactSpec.vars false W args.toList ds gs before) (hk : Rows.uptoSmall H (ds ++ gs) = true) :
    Calls Try.prog 4 args W fun e W' => ∃ v, e = .returned v ∧ Rows.raiseExactSpec.post enc Try.prog Try.f4 false true false false W args v W' := by
  have hW' := hW
  obtain ⟨p, q, hA0, hV, rfl, hfz, hnd⟩ := hW
  have hA : DataW.TrodAll enc Try.prog W 0 (fun _ => true) true Try.f4.params.toList args.toList ds p := hA0
  rw [Try.params4] at hA hval
  obtain ⟨v0, vs0, d0, ds0, p0, q0, hargs, rfl, rfl, h0, r0⟩ := trodAll_cons hA
  obtain ⟨rfl, rfl, rfl⟩ := trodAll_nil r0
  obtain rfl : args = #[v0] := by cases args; simp_all
  obtain ⟨rfl, rfl⟩ := trodVars_none hV
  obtain ⟨cs0, rfl, _⟩ := okWide_struct Try.underlying25 (hval 0 25 v0 rfl rfl)
  have k0 := h0
  have lt0 : ∀ x ∈ p0, x.block < W.heap.size := by obtain ⟨m, hm⟩ := k0; exact DataW.trod_lt m _ _ _ hm
  obtain ⟨fuel0, hf0⟩ := h0
  have hb : Rows.uptoBulkAll _ ≤ 1048576 := of_decide_eq_true hk
  obtain ⟨a, cap, T, ar, cr, R, hcs, hc, hn, hT, hTb, hPb, hcR, hnR, hR, hRb⟩ := schema_bulk hf0
  have e0 : cs0 = #[.slice a T.length cap, .slice ar R.length cr] := by
    have : cs0.toList = [.slice a T.length cap, .slice ar R.length cr] := hcs
    exact Array.toList_inj.1 this
  subst e0
  have hd : Rows.uptoBulk d0 ≤ 1048576 := Nat.le_trans (bulk_mem (by simp)) hb
  have hTb' : T.length ≤ Rows.uptoBulk d0 := hTb
  have hRb' : R.length ≤ Rows.uptoBulk d0 := hRb
  have hPb' : ∀ t ∈ T, t.ps.length ≤ Rows.uptoBulk d0 := hPb
  clear hA0
  refine (exact_any a cap T ar cr R W (by omega) (by omega) hn hnR (hide_ (fun t ht => by have := hPb' t ht; omega)) (hide_ hT) (hide_ hR)).mono fun e W' ⟨he, bel⟩ => ?_
  subst he
  exact ⟨_, rfl, _, _, _, [], _, [], hW', trodAll_mk1 (shut_bool Try.underlying4 _), (trodAll_cons_mk (Below.trod laidOut (by kernel_rfl) (of_decide_eq_true (by kernel_rfl)) k0 bel lt0) trodAll_mk0), rfl, bel.frame _, fun h => by cases h⟩

set_option maxRecDepth 100000 in
theorem lifted (os : Os) (started : os.Started) (H : Type) (enc : TypeId × Value → H) (F : Stop.Interp) :
    ReturnsInHanded {} Try.checked os 4 .any ((Rows.OpenSpec.upto Rows.raiseExactSpec).pre6 enc Try.prog Try.f4 Rows.raiseExactUptoRow.domain false) (((Rows.OpenSpec.upto Rows.raiseExactSpec).at F).post enc Try.prog Try.f4 false true false false) := by
  refine returnsInHanded_of_cond (C := Try.checked) (s := Rows.OpenSpec.upto Rows.raiseExactSpec) (k := Rows.uptoSmall) rfl own started (by kernel_rfl) Try.func4
    (OpenSpec.witness (enc := enc) (C := Try.checked) (s := Rows.OpenSpec.upto Rows.raiseExactSpec) (k := Rows.uptoSmall) rfl false ⟨#[], #[.agg #[.slice none 0 0, .slice none 0 0]], []⟩ 8 (by kernel_rfl) (by kernel_rfl) (by kernel_rfl)
      (x := ([.agg [.nil, .nil]], [], [])) (by kernel_rfl) rfl (by kernel_rfl)) ?_
  intro W base args ds gs before hval hW _ hk _
  exact contract H enc W base args ds gs before hval hW hk

theorem proved : Rows.RaiseExactUptoSaid :=
  OpenClaim.holds_of_cond 4 Try.f4 rfl rfl rfl rfl rfl rfl rfl ⟨rfl, rfl, rfl, rfl, rfl⟩ rfl rfl rfl rfl rfl (by kernel_rfl) Try.func4 (by kernel_rfl)
    (of_decide_eq_true (by kernel_rfl)) (by unfold Func.isWrapper; first | (rw [if_pos (by decide +kernel)]; kernel_rfl) | (rw [if_neg (by decide +kernel)]; exact ⟨rfl, rfl⟩))
    (fun os started H enc _ F => lifted os started H enc F)
end Go.Proofs.Ytncndgfaalojpaa.raiseExact
namespace Go.Proofs.Ytncndgfaalojpaa
theorem raiseExact_holds : Rows.RaiseExactUptoSaid := raiseExact.proved
#print axioms raiseExact_holds
end Go.Proofs.Ytncndgfaalojpaa
