import Derived.Test.YtfgdkhmoikkgjaaPart19
import Derived.Test.YtfgdkhmoikkgjaaPart18

/- Lists lent with a mark behind them: what lies in memory. -/
namespace Go.Proofs.Ytfgdkhmoikkgjaa
open Go.RowKit
set_option linter.unusedVariables false

set_option maxRecDepth 100000 in
/-- append(v, x...), x a row of structs of any kind, v a row of the call's own. -/
theorem run_appG {α : Type} {c : Nat} {f : α → List Value} {P : Program} {t e : TypeId} {z : Value} {bytes : Nat} (hf : ∀ x, (f x).length = c) (hone : ∀ x, ∀ u ∈ f x, u.oneCell' = true) (ht : P.underlying t = some (.slice e)) (hinfo : (P.info? e).map (fun i => (i.zero, i.size, i.bytes)) = some (some z, c, bytes)) (hzs : z.cells.size = c) (hc : 0 < c)
    (w : World) {B : Nat} {v : Value} {l : List α} (hown : w.ownsRow B e c v l.length (cellsG f l)) (b off cap : Nat) (r : List α) (hr : ∀ (i : Nat) (x : α), r[i]? = some x → ∀ j, j < c → w.cell? ⟨b, off + i * c + j, none⟩ = (f x)[j]?) (h63 : l.length + r.length ≤ maxLen) (hl : (l.length + r.length) * bytes ≤ 140737488355328) (hB : B ≤ w.heap.size) :
    ∃ v' w', (Builtin.append_ #[t, t] t #[v, .slice (some ⟨b, off, none⟩) r.length cap]).run P w = .ok v' w' ∧ w'.ownsRow B e c v' (l.length + r.length) (cellsG f (l ++ r)) ∧ Upd (fun k => v.ownBlock = some k) w w' ∧ (v'.ownBlock = v.ownBlock ∨ v'.ownBlock = some w.heap.size) := by
  have hall : ∀ u ∈ cellsG f r, u.oneCell' = true := fun u hu => by
    simp only [cellsG, List.mem_flatMap] at hu
    obtain ⟨x, _, hx⟩ := hu
    exact hone x u hx
  obtain ⟨i0, hi, hz0, hz1, hz2⟩ := info_parts hinfo
  have hcell : ∀ j u, (cellsG f r)[j]? = some u → w.cell? ((⟨b, off, none⟩ : Addr).add j) = some u := fun j u hj => by
    have hlt := (List.getElem?_eq_some_iff.1 hj).1
    rw [cellsG_len hf] at hlt
    have hi : j / c < r.length := Nat.div_lt_of_lt_mul (by rw [Nat.mul_comm]; exact hlt)
    have hx : r[j / c]? = some (r[j / c]'hi) := List.getElem?_eq_getElem hi
    have h1 := hr (j / c) _ hx (j % c) (Nat.mod_lt _ hc)
    have h2 := cellsG_at hf r (j / c) (j % c) _ hx (Nat.mod_lt _ hc)
    have e : j / c * c + j % c = j := by rw [Nat.mul_comm]; exact Nat.div_add_mod j c
    rw [e] at h2
    rw [add_none, ← hj, h2, ← h1]
    congr 2
    omega
  obtain ⟨v', w', hrun, h2, h3, h4, h5⟩ := run_append_own_at (P := P) w B t t e i0 z c bytes ht hi hz0 hz1 hz2 hzs hc v l.length (cellsG f l) hown ⟨b, off, none⟩ r.length cap (cellsG f r) (cellsG_len hf r) hcell hall h63 hl hB
  refine ⟨v', w', hrun, by rw [cellsG_app]; exact h2, (Upd.refl _ w).grown h3 (fun k hk => .inl hk), h5⟩
/-- append(v, x), x lies in a block of its own. -/
theorem run_app1 {α : Type} {c : Nat} {f : α → List Value} {P : Program} {t e : TypeId} {z : Value} {bytes : Nat} (hf : ∀ x, (f x).length = c) (hone : ∀ x, ∀ u ∈ f x, u.oneCell' = true) (ht : P.underlying t = some (.slice e)) (hinfo : (P.info? e).map (fun i => (i.zero, i.size, i.bytes)) = some (some z, c, bytes)) (hzs : z.cells.size = c) (hc : 0 < c)
    (w : World) {B : Nat} {v : Value} {l : List α} (hown : w.ownsRow B e c v l.length (cellsG f l)) (b : Nat) (x : α) (hb : Blk w b e (f x)) (h63 : l.length + 1 ≤ maxLen) (hl : (l.length + 1) * bytes ≤ 140737488355328) (hB : B ≤ w.heap.size) :
    ∃ g cap w', (Builtin.append_ #[t, t] t #[v, .slice (some ⟨b, 0, none⟩) 1 1]).run P w = .ok (.slice (some ⟨g, 0, none⟩) (l.length + 1) cap) w' ∧ w'.ownsRow B e c (.slice (some ⟨g, 0, none⟩) (l.length + 1) cap) (l ++ [x]).length (cellsG f (l ++ [x])) ∧ Upd (fun k => v.ownBlock = some k) w w' ∧ B ≤ g ∧ l.length + 1 ≤ cap ∧ (v.ownBlock = some g ∨ w.heap.size ≤ g) := by
  obtain ⟨v', w', h1, h2, h3, h4⟩ := run_appG (P := P) hf hone ht hinfo hzs hc w hown b 0 1 [x] (fun i y hy j hj => by
    have hi := (List.getElem?_eq_some_iff.1 hy).1
    obtain rfl : i = 0 := by simp at hi; omega
    simp at hy
    subst hy
    rw [hb.cell]
    congr 1
    omega) h63 hl hB
  have hlen : l.length + [x].length = (l ++ [x]).length := by simp
  rw [hlen] at h2
  obtain ⟨g, cap, ys, e1, hg, hn, -, -, -, -⟩ := ownS_blk h2 (by simp)
  rw [List.length_append, List.length_singleton] at e1 hn
  subst e1
  refine ⟨g, cap, w', h1, h2, h3, hg, hn, ?_⟩
  rcases h4 with h4 | h4
  · exact .inl (by rw [← h4]; rfl)
  · have : g = w.heap.size := own_is h4
    exact .inr (by omega)
theorem rtc_one1 (r : Rt) : ∀ u ∈ rtc r, u.oneCell' = true := fun u hu => by
  simp [rtc] at hu
  rcases hu with rfl | rfl <;> rfl
/-- A type's parts, of the call's own, with a mark behind them. -/
def MkIn (w : World) (B : Nat) (q : Ptz) (ps : List Ptz) (u : Value) : Prop := ∃ g c, u = .slice (some ⟨g, 0, none⟩) ps.length c ∧ ps.length + 1 ≤ c ∧ PRow w (some ⟨g, 0, none⟩) (ps ++ [q]) ∧ B ≤ g ∧ ∃ ys, Blk w g 53 ys
theorem MkIn.upd {w w' : World} {B : Nat} {q : Ptz} {ps : List Ptz} {u : Value} {S : Nat → Prop} (h : MkIn w B q ps u) (hu : Upd S w w') (hn : ∀ k ys, S k → Blk w k 53 ys → False) : MkIn w' B q ps u := by
  obtain ⟨g, c, e, h1, h2, h3, ys, h4⟩ := h
  have hg : ¬ S g := fun hS => hn g ys hS h4
  exact ⟨g, c, e, h1, h2.upd hu (fun x hx => by cases hx; exact hg), h3, ys, h4.upd hu hg⟩
theorem MkIn.later {w w' : World} {B : Nat} {q : Ptz} {ps : List Ptz} {u : Value} (h : MkIn w B q ps u) (hB : Below w.heap.size w w') : MkIn w' B q ps u := h.upd (Upd.of_below (S := fun _ => False) hB) (fun _ _ h => h.elim)
theorem MkIn.ptIn {w : World} {B : Nat} {q : Ptz} {ps : List Ptz} {u : Value} (h : MkIn w B q ps u) (B' : Nat) : PtIn w B' ps u := by
  obtain ⟨g, c, rfl, h1, h2, h3, ys, h4⟩ := h
  refine ⟨_, c, rfl, by omega, (fun h => by cases h), ?_, .inr (fun x hx => by cases hx; exact .inr ⟨ys, h4⟩)⟩
  have := h2.take ps.length
  rwa [List.take_left] at this
theorem POwn.mkIn {w : World} {B : Nat} {q : Ptz} {ps : List Ptz} {g c : Nat} (h : POwn w B (.slice (some ⟨g, 0, none⟩) (ps.length + 1) c) (ps ++ [q])) : MkIn w B q ps (.slice (some ⟨g, 0, none⟩) ps.length c) := by
  obtain ⟨a, c', e, h1, -, h3⟩ := own_grow ptc_len h
  injection e with e1 e2 e3
  subst e1 e3
  obtain ⟨ys, hy⟩ := ownS_type h (k := g) rfl
  exact ⟨g, c, rfl, by simpa using h1, h3, (World.ownsRow.lt h g rfl).1, ys, hy⟩
/-- A schema that is lent: its types with a mark behind, their parts with marks, its roots with a mark. -/
structure LtS (w : World) (B : Nat) (gT cT : Nat) (Q : List (Ty × Value)) (gR cR : Nat) (R : List Rt) (q : Ptz) (tq : Ty) (rq : Rt) : Prop where
  ty : TOwn w B (.slice (some ⟨gT, 0, none⟩) (Q.length + 1) cT) (Q ++ [(tq, .slice none 0 0)])
  mks : ∀ p ∈ Q, MkIn w B q p.1.ps p.2
  rt : ROwn w B (.slice (some ⟨gR, 0, none⟩) (R.length + 1) cR) (R ++ [rq])
theorem LtS.later {w w' : World} {B gT cT gR cR : Nat} {Q : List (Ty × Value)} {R : List Rt} {q : Ptz} {tq : Ty} {rq : Rt} (h : LtS w B gT cT Q gR cR R q tq rq) (hB : Below w.heap.size w w') : LtS w' B gT cT Q gR cR R q tq rq :=
  ⟨h.ty.later hB, fun p hp => (h.mks p hp).later hB, h.rt.later hB⟩
/-- A store into a block of another type. -/
theorem LtS.other {w : World} {B gT cT gR cR : Nat} {Q : List (Ty × Value)} {R : List Rt} {q : Ptz} {tq : Ty} {rq : Rt} (h : LtS w B gT cT Q gR cR R q tq rq) {g : Nat} {t : TypeId} {ys : List Value} (hb : Blk w g t ys) (hg : B ≤ g) (h1 : t ≠ 49) (h2 : t ≠ 53) (h3 : t ≠ 51) (i : Nat) (u : Value) : LtS (w.setCell ⟨g, i, none⟩ u) B gT cT Q gR cR R q tq rq :=
  ⟨h.ty.other hb hg h1 h2 i u, fun p hp => (h.mks p hp).upd ((Upd.refl (fun k => k = g) w).set ⟨g, i, none⟩ u (.inl rfl)) (fun k zs e hz => by subst e; exact h2 (blk_type hb hz)), h.rt.other hb h3 i u⟩
theorem LtS.row {w : World} {B gT cT gR cR : Nat} {Q : List (Ty × Value)} {R : List Rt} {q : Ptz} {tq : Ty} {rq : Rt} (h : LtS w B gT cT Q gR cR R q tq rq) : TRowz w (some ⟨gT, 0, none⟩) (Q.map (·.1)) ∧ RRow w (some ⟨gR, 0, none⟩) R := by
  have h1 := town_row h.ty rfl
  have h2 := rown_row h.rt
  have h3 := h1.take Q.length
  have h4 := h2.take R.length
  have e3 : (Q.map (·.1)).length = Q.length := by simp
  rw [List.map_append, ← e3, List.take_left] at h3
  rw [List.take_left] at h4
  exact ⟨h3, h4⟩
theorem LtS.caps {w : World} {B gT cT gR cR : Nat} {Q : List (Ty × Value)} {R : List Rt} {q : Ptz} {tq : Ty} {rq : Rt} (h : LtS w B gT cT Q gR cR R q tq rq) : Q.length + 1 ≤ cT ∧ R.length + 1 ≤ cR ∧ B ≤ gT ∧ B ≤ gR ∧ w.cell? ⟨gT, Q.length * 4, none⟩ = some (.int .i64 tq.k) ∧ w.cell? ⟨gR, R.length * 2 + 1, none⟩ = some (.int .i64 rq.ty) := by
  obtain ⟨_, _, e, h1, -, -⟩ := own_grow tyq_len h.ty.1
  injection e with _ e2 e3
  obtain ⟨a', _, e', h2, -, h3⟩ := own_grow rtc_len h.rt
  injection e' with e1 e2' e3'
  subst e1
  obtain ⟨b, off, e4, -, hc⟩ := h3.open (by simp)
  injection e4 with e4
  injection e4 with e5 e6 _
  have hk := (h.ty.at4 (i := Q.length) (p := (tq, .slice none 0 0)) (by simp)).1
  have hr := hc R.length rq (by simp) 1 (by decide)
  rw [← e5, ← e6] at hr
  simp only [Nat.zero_add] at hr
  refine ⟨by rw [e3]; simpa using h1, by rw [e3']; simpa using h2, (World.ownsRow.lt h.ty.1 gT rfl).1, (World.ownsRow.lt h.rt gR rfl).1, hk, hr⟩
end Go.Proofs.Ytfgdkhmoikkgjaa

/- types.Check: the small functions. -/
namespace Go.Proofs.Ytfgdkhmoikkgjaa
open Go.RowKit
set_option linter.unusedVariables false

set_option maxRecDepth 100000 in
set_option maxHeartbeats 4000000 in
theorem hasElem_any (k : Int) (w : World) : Calls Try.prog 28 #[.int .i64 k] w fun e w' => e = .returned (.bool (hasE k)) ∧ w = w' := by
  unfold hasE
  go_enter Try.func28, Try.ntmps28
  by_cases h0 : k = 4
  · subst h0; go_wp2; go_ret; exact ⟨by simp, rfl⟩
  by_cases h1 : k = 5
  · subst h1; go_wp2; go_ret; exact ⟨by simp, rfl⟩
  by_cases h2 : k = 6
  · subst h2; go_wp2; go_ret; exact ⟨by simp, rfl⟩
  go_wp2
  go_ret
  exact ⟨by simp [h0, h1, h2], rfl⟩
set_option maxRecDepth 100000 in
set_option maxHeartbeats 4000000 in
theorem isBelow_any (n m : Int) (w : World) : Calls Try.prog 30 #[.int .i64 n, .int .i64 m] w fun e w' => e = .returned (.bool (inB n m)) ∧ w = w' := by
  unfold inB
  go_enter Try.func30, Try.ntmps30
  by_cases h0 : 0 ≤ n
  · by_cases h1 : n < m
    · go_wp2; go_ret; exact ⟨by simp [h0, h1], rfl⟩
    · go_wp2; go_ret; exact ⟨by simp [h1], rfl⟩
  · go_wp2; go_ret; exact ⟨by simp; omega, rfl⟩
set_option maxRecDepth 100000 in
set_option maxHeartbeats 4000000 in
theorem isCount_any (n : Int) (w : World) : Calls Try.prog 37 #[.int .i64 n] w fun e w' => e = .returned (.bool (isCnt n)) ∧ w = w' := by
  unfold isCnt
  go_enter Try.func37, Try.ntmps37
  by_cases h0 : 1 ≤ n
  · by_cases h1 : n ≤ 1048576
    · go_wp2; go_ret; exact ⟨by simp [h0, h1], rfl⟩
    · go_wp2; go_ret; exact ⟨by simp [h1], rfl⟩
  · go_wp2; go_ret; exact ⟨by simp; omega, rfl⟩
set_option maxRecDepth 100000 in
set_option maxHeartbeats 4000000 in
theorem rightNumber_any (t : Ty) (v : Value) (w : World) : Calls Try.prog 25 #[.agg #[.int .i64 t.k, .int .i64 t.n, .int .i64 t.e, v]] w fun e w' => e = .returned (.bool (nOk t.k t.n)) ∧ Below w.heap.size w w' := by
  obtain ⟨k, n, el, ps⟩ := t
  have hB := below1 w (.cells #[.int .i64 k, .int .i64 n, .int .i64 el, v] 49)
  have kx := Blk.newA w #[.int .i64 k, .int .i64 n, .int .i64 el, v] 49
  obtain ⟨wx, hwx⟩ : ∃ wx, wx = w.alloc (.cells #[.int .i64 k, .int .i64 n, .int .i64 el, v] 49) := ⟨_, rfl⟩
  rw [← hwx] at hB kx
  have HB := hide_ hB
  have i0 := kx.cell 0; have i1 := kx.cell 1; have i2 := kx.cell 2; have i3 := kx.cell 3
  simp at i0 i1 i2 i3
  clear hB kx
  go_enter Try.func25, Try.ntmps25
  go_upto_region 1 with fail
  rw [← hwx]
  clear hwx
  by_cases h1 : k = 1
  · subst h1
    by_cases n1 : n = 1
    · subst n1; go_wp2; go_ret; exact ⟨by simp [nOk], HB.out⟩
    by_cases n2 : n = 2
    · subst n2; go_wp2; go_ret; exact ⟨by simp [nOk], HB.out⟩
    by_cases n4 : n = 4
    · subst n4; go_wp2; go_ret; exact ⟨by simp [nOk], HB.out⟩
    by_cases n8 : n = 8
    · subst n8; go_wp2; go_ret; exact ⟨by simp [nOk], HB.out⟩
    have b1 : (n == 1) = false := by simpa using n1
    have b2 : (n == 2) = false := by simpa using n2
    have b4 : (n == 4) = false := by simpa using n4
    have b8 : (n == 8) = false := by simpa using n8
    go_wp2; go_ret; exact ⟨by simp [nOk, n1, n2, n4, n8], HB.out⟩
  have c1 : (k == 1) = false := by simpa using h1
  have HQ : Hid (∀ n, nOk 4 n = isCnt n ∧ nOk 5 n = isCnt n) := hide_ (fun n => by simp [nOk, isCnt])
  by_cases h4 : k = 4
  · subst h4
    go_wp2_with (go_at_call 37; refine (isCount_any n _).mono ?_; rintro e w' ⟨rfl, rfl⟩)
    go_ret; exact ⟨by rw [(HQ.out n).1]; rfl, HB.out⟩
  have c4 : (k == 4) = false := by simpa using h4
  by_cases h5 : k = 5
  · subst h5
    go_wp2_with (go_at_call 37; refine (isCount_any n _).mono ?_; rintro e w' ⟨rfl, rfl⟩)
    go_ret; exact ⟨by rw [(HQ.out n).2]; rfl, HB.out⟩
  have c5 : (k == 5) = false := by simpa using h5
  have HZ : Hid (∀ k, (k = 2 ∨ k = 3 ∨ k = 6 ∨ k = 7 ∨ k = 8) → nOk k n = (n == 0)) := hide_ (fun k h => by
    by_cases hn : n = 0
    · subst hn; rcases h with rfl | rfl | rfl | rfl | rfl <;> simp [nOk]
    · have hb : (n == 0) = false := by simpa using hn
      rw [hb]
      unfold nOk
      rw [decide_eq_false]
      omega)
  by_cases h2 : k = 2
  · subst h2; go_wp2; go_ret; exact ⟨by rw [HZ.out _ (by omega)]; rfl, HB.out⟩
  have c2 : (k == 2) = false := by simpa using h2
  by_cases h3 : k = 3
  · subst h3; go_wp2; go_ret; exact ⟨by rw [HZ.out _ (by omega)]; rfl, HB.out⟩
  have c3 : (k == 3) = false := by simpa using h3
  by_cases h6 : k = 6
  · subst h6; go_wp2; go_ret; exact ⟨by rw [HZ.out _ (by omega)]; rfl, HB.out⟩
  have c6 : (k == 6) = false := by simpa using h6
  by_cases h7 : k = 7
  · subst h7; go_wp2; go_ret; exact ⟨by rw [HZ.out _ (by omega)]; rfl, HB.out⟩
  have c7 : (k == 7) = false := by simpa using h7
  by_cases h8 : k = 8
  · subst h8; go_wp2; go_ret; exact ⟨by rw [HZ.out _ (by omega)]; rfl, HB.out⟩
  have c8 : (k == 8) = false := by simpa using h8
  go_wp2; go_ret; exact ⟨by simp [nOk, h1, h2, h3, h4, h5, h6, h7, h8], HB.out⟩
set_option maxRecDepth 100000 in
set_option maxHeartbeats 4000000 in
theorem rightElem_any (t : Ty) (v : Value) (m : Int) (w : World) : Calls Try.prog 26 #[.agg #[.int .i64 t.k, .int .i64 t.n, .int .i64 t.e, v], .int .i64 m] w fun e w' => e = .returned (.bool (elemOk t.k t.e m)) ∧ Below w.heap.size w w' := by
  obtain ⟨k, n, el, ps⟩ := t
  have hB := below1 w (.cells #[.int .i64 k, .int .i64 n, .int .i64 el, v] 49)
  have kx := Blk.newA w #[.int .i64 k, .int .i64 n, .int .i64 el, v] 49
  obtain ⟨wx, hwx⟩ : ∃ wx, wx = w.alloc (.cells #[.int .i64 k, .int .i64 n, .int .i64 el, v] 49) := ⟨_, rfl⟩
  rw [← hwx] at hB kx
  have HB := hide_ hB
  have i0 := kx.cell 0; have i1 := kx.cell 1; have i2 := kx.cell 2; have i3 := kx.cell 3
  simp at i0 i1 i2 i3
  clear hB kx
  cases hk : hasE k with
  | true =>
    have HE : Hid (elemOk k el m = inB el m) := hide_ (by unfold elemOk; rw [if_pos hk])
    have HCon : Hid (∀ w, Calls Try.prog 28 #[.int .i64 k] w fun e w' => e = .returned (.bool true) ∧ w = w') := hide_ (fun w => by have := hasElem_any k w; rwa [hk] at this)
    clear hk
    go_enter Try.func26, Try.ntmps26
    go_upto_region 1 with fail
    rw [← hwx]
    clear hwx
    go_wp2_with (first | (go_at_call 28; refine (HCon.out _).mono ?_; rintro e w' ⟨rfl, rfl⟩) | (go_at_call 30; refine (isBelow_any el m _).mono ?_; rintro e w' ⟨rfl, rfl⟩))
    go_ret; exact ⟨by rw [HE.out]; rfl, HB.out⟩
  | false =>
    have HE : Hid (elemOk k el m = (el == 0)) := hide_ (by
      unfold elemOk
      rw [if_neg (by rw [hk]; decide)]
      by_cases h : el = 0
      · subst h; rfl
      · simp [h])
    have HCon : Hid (∀ w, Calls Try.prog 28 #[.int .i64 k] w fun e w' => e = .returned (.bool false) ∧ w = w') := hide_ (fun w => by have := hasElem_any k w; rwa [hk] at this)
    clear hk
    go_enter Try.func26, Try.ntmps26
    go_upto_region 1 with fail
    rw [← hwx]
    clear hwx
    go_wp2_with (first | (go_at_call 28; refine (HCon.out _).mono ?_; rintro e w' ⟨rfl, rfl⟩))
    go_ret; exact ⟨by rw [HE.out]; rfl, HB.out⟩
set_option maxRecDepth 100000 in
set_option maxHeartbeats 4000000 in
theorem isField_any (p : Ptz) (w : World) : Calls Try.prog 40 #[.agg #[.string p.label, .int .i64 p.tag, .int .i64 p.ty]] w fun e w' => e = .returned (.bool (fieldOk p)) ∧ Below w.heap.size w w' := by
  obtain ⟨lb, tg, ty⟩ := p
  have hB := below1 w (.cells #[.string lb, .int .i64 tg, .int .i64 ty] 53)
  have kx := Blk.newA w #[.string lb, .int .i64 tg, .int .i64 ty] 53
  obtain ⟨wx, hwx⟩ : ∃ wx, wx = w.alloc (.cells #[.string lb, .int .i64 tg, .int .i64 ty] 53) := ⟨_, rfl⟩
  rw [← hwx] at hB kx
  have HB := hide_ hB
  have i0 := kx.cell 0; have i1 := kx.cell 1; have i2 := kx.cell 2
  simp at i0 i1 i2
  clear hB kx
  cases hk : isName lb with
  | true =>
    have HE : Hid (fieldOk ⟨lb, tg, ty⟩ = (tg == 0)) := hide_ (by
      unfold fieldOk
      rw [hk]
      by_cases h : tg = 0
      · subst h; rfl
      · simp [h])
    have HCon : Hid (∀ w, Calls Try.prog 29 #[.string lb] w fun e w' => e = .returned (.bool true) ∧ w = w') := hide_ (fun w => by have := name_any lb w; rwa [hk] at this)
    clear hk
    go_enter Try.func40, Try.ntmps40
    go_upto_region 1 with fail
    rw [← hwx]
    clear hwx
    go_wp2_with (go_at_call 29; refine (HCon.out _).mono ?_; rintro e w' ⟨rfl, rfl⟩)
    go_ret; exact ⟨by rw [HE.out]; rfl, HB.out⟩
  | false =>
    have HE : Hid (fieldOk ⟨lb, tg, ty⟩ = false) := hide_ (by unfold fieldOk; rw [hk]; rfl)
    have HCon : Hid (∀ w, Calls Try.prog 29 #[.string lb] w fun e w' => e = .returned (.bool false) ∧ w = w') := hide_ (fun w => by have := name_any lb w; rwa [hk] at this)
    clear hk
    go_enter Try.func40, Try.ntmps40
    go_upto_region 1 with fail
    rw [← hwx]
    clear hwx
    go_wp2_with (go_at_call 29; refine (HCon.out _).mono ?_; rintro e w' ⟨rfl, rfl⟩)
    go_ret; exact ⟨by rw [HE.out]; rfl, HB.out⟩
theorem isEmpty_dec (s : ByteArray) : (s.toList == []) = decide (s = ⟨#[]⟩) := by
  by_cases h : s = ⟨#[]⟩
  · subst h; simp
  · rw [decide_eq_false h]; exact str_ne s [] h
set_option maxRecDepth 100000 in
set_option maxHeartbeats 4000000 in
theorem isArm_any (p : Ptz) (w : World) : Calls Try.prog 41 #[.agg #[.string p.label, .int .i64 p.tag, .int .i64 p.ty]] w fun e w' => e = .returned (.bool (armOk p)) ∧ Below w.heap.size w w' := by
  obtain ⟨lb, tg, ty⟩ := p
  have hB := below1 w (.cells #[.string lb, .int .i64 tg, .int .i64 ty] 53)
  have kx := Blk.newA w #[.string lb, .int .i64 tg, .int .i64 ty] 53
  obtain ⟨wx, hwx⟩ : ∃ wx, wx = w.alloc (.cells #[.string lb, .int .i64 tg, .int .i64 ty] 53) := ⟨_, rfl⟩
  rw [← hwx] at hB kx
  have HB := hide_ hB
  have i0 := kx.cell 0; have i1 := kx.cell 1; have i2 := kx.cell 2
  simp at i0 i1 i2
  clear hB kx
  unfold armOk
  go_enter Try.func41, Try.ntmps41
  go_upto_region 1 with fail
  rw [← hwx]
  clear hwx
  by_cases h0 : lb = ⟨#[]⟩
  · subst h0
    by_cases h1 : 0 ≤ tg
    · by_cases h2 : tg ≤ 255
      · go_wp2; go_ret; exact ⟨by simp, HB.out⟩
      · go_wp2; go_ret; exact ⟨by simp; omega, HB.out⟩
    · go_wp2; go_ret; exact ⟨by simp; omega, HB.out⟩
  · have k0 := str_ne lb [] h0
    go_wp2; go_ret; exact ⟨by simp [h0], HB.out⟩
end Go.Proofs.Ytfgdkhmoikkgjaa

/- types.Check: parts. -/
namespace Go.Proofs.Ytfgdkhmoikkgjaa
open Go.RowKit
set_option linter.unusedVariables false

set_option maxRecDepth 100000 in
set_option maxHeartbeats 4000000 in
theorem like_any (q p : Ptz) (bp : Nat) (w : World) (hp : Hid (Blk w bp 53 (ptc p))) :
    Calls Try.prog 58 #[.agg #[.string q.label, .int .i64 q.tag, .int .i64 q.ty], .pointer (some ⟨bp, 0, none⟩)] w fun e w' => e = .returned (.bool (likeP q p)) ∧ Below w.heap.size w w' := by
  obtain ⟨lb, tg, ty⟩ := q
  obtain ⟨lb', tg', ty'⟩ := p
  have hB := below1 w (.cells #[.string lb, .int .i64 tg, .int .i64 ty] 53)
  have kx := Blk.newA w #[.string lb, .int .i64 tg, .int .i64 ty] 53
  have ky := hp.out.alloc (.cells #[.string lb, .int .i64 tg, .int .i64 ty] 53)
  obtain ⟨wx, hwx⟩ : ∃ wx, wx = w.alloc (.cells #[.string lb, .int .i64 tg, .int .i64 ty] 53) := ⟨_, rfl⟩
  rw [← hwx] at hB kx ky
  have HB := hide_ hB
  have i0 := kx.cell 0; have i1 := kx.cell 1
  have j0 := ky.cell 0; have j1 := ky.cell 1
  simp [ptc] at i0 i1 j0 j1
  clear hB kx ky
  unfold likeP
  go_enter Try.func58, Try.ntmps58
  go_upto_region 1 with fail
  rw [← hwx]
  clear hwx
  by_cases he : lb = lb'
  · subst he
    by_cases ht : tg = tg'
    · subst ht; go_wp2; go_ret; exact ⟨by simp, HB.out⟩
    · have hb : (tg == tg') = false := by simpa using ht
      go_wp2; go_ret; exact ⟨by simp, HB.out⟩
  · have hs : (lb.toList == lb'.toList) = false := by rw [str_eqz]; exact decide_eq_false he
    go_wp2; go_ret; exact ⟨by simp [he], HB.out⟩
theorem any_take_succ {α : Type} {l : List α} {j : Nat} {x : α} (f : α → Bool) (h : l[j]? = some x) : (l.take (j + 1)).any f = ((l.take j).any f || f x) := by
  have hj := (List.getElem?_eq_some_iff.1 h).1
  rw [List.take_succ_eq_append_getElem hj, (List.getElem?_eq_some_iff.1 h).2]
  simp
set_option maxRecDepth 100000 in
set_option maxHeartbeats 4000000 in
theorem indexL_any (bp : Nat) (p : Ptz) (a : Option Addr) (c : Nat) (l : List Ptz) (w : World) (hl : l.length ≤ 9223372036854775806) (hr : Hid (PRow w a l)) (hp : Hid (Blk w bp 53 (ptc p))) :
    Calls Try.prog 69 #[.slice a l.length c, .func (.func 58) #[] #[.pointer (some ⟨bp, 0, none⟩)]] w fun e w' => ∃ r : Int, e = .returned (.int .i64 r) ∧ Hid (decide (0 ≤ r) = thereP l p) ∧ Below w.heap.size w w' := by
  go_enter Try.func69, Try.ntmps69
  go_wp2_with fail
  go_loopw [8] (fun x8 wr => ∃ j : Nat, j ≤ l.length ∧ x8 = .int .i64 (j : Int) ∧ Hid ((l.take j).any (fun q => likeP q p) = false) ∧ Hid (Below w.heap.size w wr)) (fun x8 _ => l.length - (intOf x8).toNat)
  case atStart => exact ⟨0, Nat.zero_le _, rfl, hide_ rfl, hide_ (Below.refl _ _)⟩
  case round =>
    obtain ⟨j, hj, rfl, HA, HB⟩ := hrel
    generalize wr = wq at *
    by_cases hlt : j < l.length
    · have hlt' : (j : Int) < l.length := by omega
      obtain ⟨b, off, rfl, hb, hc⟩ := (hr.out.later HB.out).open (by omega)
      have hx : l[j]? = some (l[j]'hlt) := List.getElem?_eq_getElem hlt
      have hcx := hc j _ hx
      have HX := hide_ hx
      have HP := hide_ (hp.out.later HB.out)
      generalize l[j]'hlt = q at *
      have i0 := hcx 0 (by decide); have i1 := hcx 1 (by decide); have i2 := hcx 2 (by decide)
      simp [ptc] at i0 i1 i2
      clear hc hx hcx
      cases hm : likeP q p with
      | true =>
        have HL : Hid (thereP l p = true) := hide_ (by
          unfold thereP
          rw [List.any_eq_true]
          exact ⟨q, List.mem_of_getElem? HX.out, hm⟩)
        have HCon : Hid (Calls Try.prog 58 #[.agg #[.string q.label, .int .i64 q.tag, .int .i64 q.ty], .pointer (some ⟨bp, 0, none⟩)] wq fun e w' => e = .returned (.bool true) ∧ Below wq.heap.size wq w') := hide_ (by
          have := like_any q p bp wq HP
          rwa [hm] at this)
        clear hm
        go_wp2_with (go_at_call 58; refine HCon.out.mono ?_; rintro e w' ⟨rfl, hB1⟩; (have HB1 := hide_ hB1); clear hB1)
        go_ret
        exact ⟨(j : Int), rfl, hide_ (by rw [HL.out]; simp), below_to HB.out HB1.out⟩
      | false =>
        have HA2 : Hid ((l.take (j + 1)).any (fun q => likeP q p) = false) := hide_ (by rw [any_take_succ _ HX.out, HA.out, hm]; rfl)
        have HCon : Hid (Calls Try.prog 58 #[.agg #[.string q.label, .int .i64 q.tag, .int .i64 q.ty], .pointer (some ⟨bp, 0, none⟩)] wq fun e w' => e = .returned (.bool false) ∧ Below wq.heap.size wq w') := hide_ (by
          have := like_any q p bp wq HP
          rwa [hm] at this)
        clear hm
        go_wp2_with (go_at_call 58; refine HCon.out.mono ?_; rintro e w' ⟨rfl, hB1⟩; (have HB1 := hide_ (below_to HB.out hB1)); clear hB1)
        go_roundw
        case rel => exact ⟨j + 1, by omega, by go_num, HA2, HB1⟩
        case measure => simp [intOf]; omega
    · obtain rfl : j = l.length := by omega
      have HL : Hid (thereP l p = false) := hide_ (by have h := HA.out; rw [List.take_length] at h; exact h)
      go_wp2
      go_ret
      exact ⟨-1, rfl, hide_ (by rw [HL.out]; decide), HB.out⟩
set_option maxRecDepth 100000 in
set_option maxHeartbeats 4000000 in
theorem isThere_any (p : Ptz) (a : Option Addr) (c : Nat) (l : List Ptz) (n : Nat) (w : World) (hn : Hid (l.length = n)) (hl : n ≤ 9223372036854775806) (hr : Hid (PRow w a l)) :
    Calls Try.prog 42 #[.slice a n c, .agg #[.string p.label, .int .i64 p.tag, .int .i64 p.ty]] w fun e w' => e = .returned (.bool (thereP l p)) ∧ Below w.heap.size w w' := by
  have hmf : ∀ (fn : Fn) (first cap : Array Value) (w : World), (Instr.makeFunc fn first cap).run Try.prog w = .ok (.func fn first cap) w := fun _ _ _ _ => rfl
  obtain rfl := hn.out
  have hB := below1 w (.cells #[.string p.label, .int .i64 p.tag, .int .i64 p.ty] 53)
  have kx := Blk.newA w #[.string p.label, .int .i64 p.tag, .int .i64 p.ty] 53
  obtain ⟨wx, hwx⟩ : ∃ wx, wx = w.alloc (.cells #[.string p.label, .int .i64 p.tag, .int .i64 p.ty] 53) := ⟨_, rfl⟩
  rw [← hwx] at hB kx
  have HCon : Hid (Calls Try.prog 57 #[.slice a l.length c, .func (.func 58) #[] #[.pointer (some ⟨w.heap.size, 0, none⟩)]] wx fun e w' => e = .returned (.bool (thereP l p)) ∧ Below wx.heap.size wx w') := hide_ (by
    have HI := hide_ (indexL_any w.heap.size p a c l wx hl (hide_ (hr.out.later hB)) (hide_ kx))
    clear hwx hB kx hr
    go_enter Try.func57, Try.ntmps57
    go_wp2_with (go_at_call 69; refine HI.out.mono ?_; rintro e w' ⟨r, rfl, HR, hB⟩; (have HB := hide_ hB); clear hB)
    go_ret
    exact ⟨by rw [← HR.out]; rfl, HB.out⟩)
  have HB := hide_ hB
  clear hB kx
  go_enter Try.func42, Try.ntmps42
  go_upto_region 1 with fail
  rw [← hwx]
  clear hwx
  go_wp2_with (go_at_call 57; refine HCon.out.mono ?_; rintro e w' ⟨rfl, hB1⟩; (have HB1 := hide_ hB1); clear hB1)
  go_ret
  exact ⟨rfl, below_to HB.out HB1.out⟩
theorem allP_of {r : Ptz → Bool} {ps : List Ptz} {m : Int} (h0 : 0 < ps.length) (h1 : ps.length ≤ 64) (h : ∀ j, j < ps.length → okP r ps m j = true) : allP r ps m = true := by
  unfold allP
  rw [Bool.and_eq_true, List.all_eq_true]
  exact ⟨decide_eq_true ⟨h0, h1⟩, fun j hj => h j (List.mem_range.1 hj)⟩
theorem allP_not {r : Ptz → Bool} {ps : List Ptz} {m : Int} {j : Nat} (hj : j < ps.length) (h : okP r ps m j = false) : allP r ps m = false := by
  unfold allP
  rw [Bool.and_eq_false_iff]
  right
  rw [List.all_eq_false]
  exact ⟨j, List.mem_range.2 hj, by rw [h]; decide⟩
theorem allP_len {r : Ptz → Bool} {ps : List Ptz} {m : Int} (h : ¬ (0 < ps.length ∧ ps.length ≤ 64)) : allP r ps m = false := by
  unfold allP
  rw [decide_eq_false h]
  rfl
theorem okP_at {r : Ptz → Bool} {ps : List Ptz} {m : Int} {j : Nat} {p : Ptz} (h : ps[j]? = some p) : okP r ps m j = (r p && !thereP (ps.take j) p && inB p.ty m) := by
  have e : ps.getD j pt0 = p := by simp [List.getD, h]
  unfold okP
  rw [e]
end Go.Proofs.Ytfgdkhmoikkgjaa
