/- Lists of types of the call's own. -/
import Derived.Test.YtncndgfaalojpaaZc
namespace Go.Proofs.Ytncndgfaalojpaa
open Go.RowKit
set_option linter.unusedVariables false

/-! ### Lists of types of the call's own: each type with the slice of its parts -/
def tyq (p : Ty × Value) : List Value := tyc p.1 p.2
theorem tyq_len (p : Ty × Value) : (tyq p).length = 4 := rfl
/-- A type's parts lie in older memory, or in a block of parts. -/
def PtIn (w : World) (B : Nat) (ps : List Pt) (u : Value) : Prop := ∃ va vc, u = .slice va ps.length vc ∧ ps.length ≤ vc ∧ (va = none → vc = 0) ∧ PRow w va ps ∧ (ps = [] ∨ ∀ x, va = some x → x.block < B ∨ ∃ ys, Blk w x.block 58 ys)
def TOwn (w : World) (B : Nat) (v : Value) (Q : List (Ty × Value)) : Prop := w.ownsRow B 43 4 v Q.length (cellsG tyq Q) ∧ ∀ p ∈ Q, PtIn w B p.1.ps p.2
theorem PtIn.upd {w w' : World} {B : Nat} {ps : List Pt} {u : Value} {S : Nat → Prop} (h : PtIn w B ps u) (hu : Upd S w w') (hs : ∀ k, S k → B ≤ k) (hn : ∀ k ys, S k → Blk w k 58 ys → False) : PtIn w' B ps u := by
  obtain ⟨va, vc, e, h1, h2, h3, h4⟩ := h
  rcases h4 with h4 | h4
  · exact ⟨va, vc, e, h1, h2, .inl h4, .inl h4⟩
  have key : ∀ x, va = some x → ¬ S x.block := fun x hx hS => by
    rcases h4 x hx with h | ⟨ys, h⟩
    · have := hs _ hS; omega
    · exact hn _ ys hS h
  refine ⟨va, vc, e, h1, h2, h3.upd hu key, .inr (fun x hx => ?_)⟩
  rcases h4 x hx with h | ⟨ys, h⟩
  · exact .inl h
  · exact .inr ⟨ys, h.upd hu (key x hx)⟩
theorem TOwn.later {w w' : World} {B : Nat} {v : Value} {Q : List (Ty × Value)} (h : TOwn w B v Q) (hB : Below w.heap.size w w') : TOwn w' B v Q :=
  ⟨ownS_upd h.1 (Upd.of_below (S := fun _ => False) hB) (fun _ _ h => h), fun p hp => (h.2 p hp).upd (Upd.of_below (S := fun _ => False) hB) (fun _ h => h.elim) (fun _ _ h => h.elim)⟩
/-- A store into a block of another type. -/
theorem TOwn.other {w : World} {B : Nat} {v : Value} {Q : List (Ty × Value)} (h : TOwn w B v Q) {g : Nat} {t : TypeId} {ys : List Value} (hb : Blk w g t ys) (hg : B ≤ g) (h1 : t ≠ 43) (h2 : t ≠ 58) (i : Nat) (u : Value) : TOwn (w.setCell ⟨g, i, none⟩ u) B v Q := by
  have hu : Upd (fun k => k = g) w (w.setCell ⟨g, i, none⟩ u) := (Upd.refl _ w).set _ _ (.inl rfl)
  refine ⟨ownS_upd h.1 hu (fun k hk e => ?_), fun p hp => (h.2 p hp).upd hu (fun k e => by omega) (fun k zs e hz => ?_)⟩
  · obtain ⟨zs, hz⟩ := ownS_type h.1 hk
    subst e
    exact h1 (blk_type hb hz)
  · subst e
    exact h2 (blk_type hb hz)
theorem infoT : (Try.prog.info? 43).map (fun i => (i.zero, i.size, i.bytes)) = some (some (.agg #[.int .i64 0, .int .i64 0, .int .i64 0, .slice none 0 0]), 4, 48) := by kernel_rfl
theorem TOwn.push {w : World} {B : Nat} {v : Value} {Q : List (Ty × Value)} (h : TOwn w B v Q) (t : Ty) (u : Value) (hu1 : u.oneCell' = true) (ht : PtIn w B t.ps u) (hl : Q.length ≤ 1000000000) (hB : B ≤ w.heap.size) :
    ∃ v' w', (Builtin.append_ #[22, 22] 22 #[v, .slice (some ⟨w.heap.size, 0, none⟩) 1 1]).run Try.prog (w.alloc (.cells #[.int .i64 t.k, .int .i64 t.n, .int .i64 t.e, u] 43)) = .ok v' w' ∧ TOwn w' B v' (Q ++ [(t, u)]) ∧ Upd (fun k => v.ownBlock = some k) w w' ∧ ∃ g c, v' = .slice (some ⟨g, 0, none⟩) (Q.length + 1) c := by
  obtain ⟨g, cap, w', h1, h2, h3, h4⟩ := run_pushS (P := Try.prog) (t := 22) (e := 43) (c := 4) Try.underlying22 infoT rfl (by decide) w 22 h.1 (tyc t u) rfl (fun x hx => by simp [tyc] at hx; rcases hx with rfl | rfl | rfl | rfl; rfl; rfl; rfl; exact hu1) (by unfold maxLen; omega) (by omega) hB
  have hs : ∀ k, v.ownBlock = some k → B ≤ k := fun k hk => (h.1.lt k hk).1
  have hn : ∀ k ys, v.ownBlock = some k → Blk w k 58 ys → False := fun k ys hk hb => by
    obtain ⟨zs, hz⟩ := ownS_type h.1 hk
    exact absurd (blk_type hz hb) (by decide)
  refine ⟨_, w', h1, ⟨?_, fun p hp => ?_⟩, h3, g, cap, rfl⟩
  · rw [cellsG_app, cellsG_one, List.length_append, List.length_singleton]
    exact h2
  · rcases List.mem_append.1 hp with hp | hp
    · exact (h.2 p hp).upd h3 hs hn
    · simp at hp
      subst hp
      exact ht.upd h3 hs hn
theorem TOwn.row {w : World} {B : Nat} {v : Value} {Q : List (Ty × Value)} (h : TOwn w B v Q) : ∃ a cap, v = .slice a (Q.map (·.1)).length cap ∧ TRow w a (Q.map (·.1)) := by
  obtain ⟨a, cap, rfl, -, -, hr⟩ := own_grow tyq_len h.1
  refine ⟨a, cap, by rw [List.length_map], ?_⟩
  rcases hr with rfl | ⟨b, off, rfl, hb, hc⟩
  · exact .inl rfl
  · refine .inr ⟨b, off, rfl, hb, fun i t ht => ?_⟩
    rw [List.getElem?_map, Option.map_eq_some_iff] at ht
    obtain ⟨p, hp, rfl⟩ := ht
    obtain ⟨va, vc, e, h1, h2, h3, -⟩ := h.2 p (List.mem_of_getElem? hp)
    refine ⟨va, vc, fun j hj => ?_, h1, h2, h3⟩
    rw [← e]
    exact hc i p hp j hj
theorem retSc {fn : Func} {p : Tmp} (h : fn.results = #[.cell p 25]) {R : Ending → World → Prop} {tmps : Array Value} {g : Nat} {w : World} {x y : Value} (hp : tmps.getD p undef = .pointer (some ⟨g, 0, none⟩)) (hK : Blk w g 25 [x, y]) (hR : R (.returned (.agg #[x, y])) w) :
    bodyPost Try.prog fn R Exit.ret ⟨tmps, []⟩ w :=
  bodyPost_ret (results_cell_row h _ _ _ _ #[x, y] _ _ hp (show w.heap[g]? = some (.cells #[x, y] 25 (0, 0)) from hK) Try.underlying25 rfl (by show _ = some 2; kernel_rfl)) rfl hR

def cut1 (t : Ty) : Ty := ⟨t.k, t.n, t.e, t.ps.take 70⟩
def cutT (T : List Ty) : List Ty := (T.take 120).map cut1
theorem cutT_succ {T : List Ty} {i : Nat} {t : Ty} (h : T[i]? = some t) : (T.take (i + 1)).map cut1 = (T.take i).map cut1 ++ [cut1 t] := by
  have hi := (List.getElem?_eq_some_iff.1 h).1
  rw [List.take_succ_eq_append_getElem hi, (List.getElem?_eq_some_iff.1 h).2, List.map_append]
  rfl
theorem cut1_len (t : Ty) : (cut1 t).ps.length = min 70 t.ps.length := by simp [cut1]
theorem infoR : (Try.prog.info? 84).map (fun i => (i.zero, i.size, i.bytes)) = some (some (.agg #[.string ⟨#[]⟩, .int .i64 0]), 2, 24) := by kernel_rfl
/-- A list of roots of the call's own. -/
def ROwn (w : World) (B : Nat) (v : Value) (l : List Rt) : Prop := w.ownsRow B 84 2 v l.length (cellsG rtc l)
theorem rtc_one (l : List Rt) : ∀ u ∈ cellsG rtc l, u.oneCell' = true := by
  intro u hu
  simp only [cellsG, List.mem_flatMap] at hu
  obtain ⟨x, _, hx⟩ := hu
  simp [rtc] at hx
  rcases hx with rfl | rfl <;> rfl
set_option maxRecDepth 100000 in
/-- append(nil, x...), x a row of roots. -/
theorem run_copyR (w : World) (B : Nat) (a : Option Addr) (n cap : Nat) (l : List Rt) (hn : l.length = n) (hr : RRow w a l) (hnil : a = none → cap = 0) (hl : n ≤ 1000000) (hB : B ≤ w.heap.size) :
    ∃ v' w', (Builtin.append_ #[23, 23] 23 #[.slice none 0 0, .slice a n cap]).run Try.prog w = .ok v' w' ∧ ROwn w' B v' l ∧ Below w.heap.size w w' ∧ (∃ a' c', v' = .slice a' n c') := by
  subst hn
  obtain ⟨i0, hi, hz0, hz1, hz2⟩ := info_parts infoR
  rcases hr with rfl | ⟨b, off, rfl, hb, hc⟩
  · cases a with
    | none =>
      obtain rfl := hnil rfl
      exact ⟨_, w, run_append_owned_none (P := Try.prog) w w.heap.size 23 23 84 i0 2 Try.underlying23 hi (.slice none 0 0) 0 [] (World.ownsRow_nil _ _ _ _), World.ownsRow_nil _ _ _ _, Below.refl _ _, _, _, rfl⟩
    | some x =>
      obtain ⟨v', w', hrun, h2, h3, h4, h5⟩ := run_append_own_at (P := Try.prog) w w.heap.size 23 23 84 i0 _ 2 24 Try.underlying23 hi hz0 hz1 hz2 rfl (by decide) (.slice none 0 0) 0 [] (World.ownsRow_nil _ _ _ _) x 0 cap [] rfl (fun j u hj => by simp at hj) (fun u hu => by cases hu) (by unfold maxLen; omega) (by omega) (Nat.le_refl _)
      have hg := (Upd.refl (fun _ => False) w).grown h3 (fun k hk => by cases hk)
      simp only [List.append_nil, Nat.add_zero] at h2
      have h6 : ROwn w' B v' [] := by have h := own_base h2 hB; simpa [ROwn, cellsG] using h
      refine ⟨v', w', by simpa using hrun, h6, hg.below w.heap.size (Nat.le_refl _) (fun k hk => hk.elim), ?_⟩
      obtain ⟨a', c', e, _⟩ := own_grow rtc_len h6
      exact ⟨a', c', e⟩
  · have hcell : ∀ j u, (cellsG rtc l)[j]? = some u → w.cell? ((⟨b, off, none⟩ : Addr).add j) = some u := fun j u hj => by
      have hlt := (List.getElem?_eq_some_iff.1 hj).1
      rw [cellsG_len rtc_len] at hlt
      have hi : j / 2 < l.length := by omega
      have hx : l[j / 2]? = some (l[j / 2]'hi) := List.getElem?_eq_getElem hi
      have h1 := hc (j / 2) _ hx (j % 2) (Nat.mod_lt _ (by decide))
      have h2 := cellsG_at rtc_len l (j / 2) (j % 2) _ hx (Nat.mod_lt _ (by decide))
      have e : j / 2 * 2 + j % 2 = j := by omega
      rw [e] at h2
      rw [add_none, ← hj, h2, ← h1]
      congr 2
      omega
    obtain ⟨v', w', hrun, h2, h3, h4, h5⟩ := run_append_own_at (P := Try.prog) w w.heap.size 23 23 84 i0 _ 2 24 Try.underlying23 hi hz0 hz1 hz2 rfl (by decide) (.slice none 0 0) 0 [] (World.ownsRow_nil _ _ _ _) ⟨b, off, none⟩ l.length cap (cellsG rtc l) (cellsG_len rtc_len l) hcell (rtc_one l) (by unfold maxLen; omega) (by omega) (Nat.le_refl _)
    rw [Nat.zero_add, List.nil_append] at h2
    have hg := (Upd.refl (fun _ => False) w).grown h3 (fun k hk => by cases hk)
    have h6 : ROwn w' B v' l := own_base h2 hB
    refine ⟨v', w', hrun, h6, hg.below _ (Nat.le_refl _) (fun k hk => hk.elim), ?_⟩
    obtain ⟨a', c', e, _⟩ := own_grow rtc_len h6
    exact ⟨a', c', e⟩
end Go.Proofs.Ytncndgfaalojpaa
