import Derived.Test.YtepmgbfdmbogiaaLwa
import Derived.Test.YtepmgbfdmbogiaaLca
import Derived.Test.YtepmgbfdmbogiaaLwh
import Derived.Test.YtepmgbfdmbogiaaLwx
import Derived.BigQuiet
import Derived.Test.YtepmgbfdmbogiaaWeigh
import Derived.Test.YtepmgbfdmbogiaaZc
import Derived.Test.YtepmgbfdmbogiaaRead
import Derived.SizedLaws
import Derived.WalkKit
import Derived.ProofKit
import Derived.Below
import Derived.OpenShut
import Derived.ShutString
/- Programs handed out, kept apart: written over, and grown. -/
namespace Go.Proofs.Ytepmgbfdmbogiaa
open Go.RowKit
set_option linter.unusedVariables false


/-- append(v, x), x a struct written out: what v itself holds stays. -/
theorem run_pushK {P : Program} {t B e c n : Nat} {z v : Value} {bytes : Nat} {xs : List Value} (ht : P.underlying t = some (.slice e)) (hinfo : (P.info? e).map (fun i => (i.zero, i.size, i.bytes)) = some (some z, c, bytes)) (hzs : z.cells.size = c) (hc : 0 < c)
    (w : World) (ty : Nat) (hown : w.ownsRow B e c v n xs) (news : List Value) (hl : news.length = c) (hx : ∀ u ∈ news, u.oneCell' = true) (h63 : n + 1 ≤ maxLen) (hb : (n + 1) * bytes ≤ 140737488355328) (hbase : B ≤ w.heap.size) :
    ∃ g cap w', (Builtin.append_ #[t, t] ty #[v, .slice (some ⟨w.heap.size, 0, none⟩) 1 1]).run P (w.alloc (.cells news.toArray e)) = .ok (.slice (some ⟨g, 0, none⟩) (n + 1) cap) w' ∧
      w'.ownsRow B e c (.slice (some ⟨g, 0, none⟩) (n + 1) cap) (n + 1) (xs ++ news) ∧ w'.ownsRow B e c v n xs ∧ Upd (fun k => v.ownBlock = some k) w w' ∧ (v.ownBlock = some g ∨ w.heap.size ≤ g) := by
  rcases hown.2 with ⟨hv, h0⟩ | ⟨g, cap, cur, hv, hbg, hg, hnc, hcm, hcs, htake⟩
  · obtain ⟨g, cap, w', h1, h2, h3, h4⟩ := run_pushS ht hinfo hzs hc w ty hown news hl hx h63 hb hbase
    refine ⟨g, cap, w', h1, h2, ?_, h3, h4⟩
    refine ⟨hown.1, .inl ⟨hv, h0⟩⟩
  · subst hv
    obtain ⟨i0, hi, hz0, hz1, hz2⟩ := info_parts hinfo
    have hsz : (w.alloc (.cells news.toArray e)).heap.size = w.heap.size + 1 := by simp
    have hnew : ∀ j u, news[j]? = some u → (w.alloc (.cells news.toArray e)).cell? ((⟨w.heap.size, 0, none⟩ : Addr).add j) = some u := fun j u hj => by rw [add_none, Nat.zero_add, (Blk.new w news e).cell]; exact hj
    by_cases hr : n + 1 ≤ cap
    · obtain ⟨w', h1, h2, h3⟩ := run_append_fits (P := P) (w.alloc (.cells news.toArray e)) B t ty e i0 c ht hi hz1 g n cap xs (hown.alloc _) ⟨w.heap.size, 0, none⟩ 1 1 news (by omega) hnew hx hr
      refine ⟨g, cap, w', h1, h2, ?_, ((Upd.refl _ w).alloc _).grown h3 (fun k hk => .inl (by rw [← hk]; rfl)), .inl rfl⟩
      obtain ⟨g', cap', ys, e5, q1, q2, q3, q4, q5, q6⟩ := ownS_blk h2 (by omega)
      have e6 : g = g' ∧ cap = cap' := by simpa using e5
      obtain ⟨rfl, rfl⟩ := e6
      have h9 := ownS_of_blk (n := n) (c := c) q6 q1 q4 hnc q3
      have : ys.take (n * c) = xs := by
        have e9 : ys.take (n * c) = (ys.take ((n + 1) * c)).take (n * c) := by rw [List.take_take, Nat.min_eq_left (Nat.mul_le_mul_right _ (by omega))]
        rw [e9, q5, List.take_append_of_le_length (by rw [hown.1]; exact Nat.le_refl _), List.take_of_length_le (by rw [hown.1]; exact Nat.le_refl _)]
      rw [this] at h9
      exact h9
    · have hbk : Blk w g e cur.toList := by unfold Blk; rw [Array.toArray_toList]; exact hg
      have hold : ∀ j u, xs[j]? = some u → (w.alloc (.cells news.toArray e)).cell? ((⟨g, 0, none⟩ : Addr).add j) = some u := fun j u hj => by
        rw [add_none, Nat.zero_add, (hbk.alloc _).cell]
        rw [← htake, List.getElem?_take] at hj
        split at hj
        · exact hj
        · cases hj
      obtain ⟨v', w', h1, h2, h3⟩ := run_append_arg_grows (P := P) (w.alloc (.cells news.toArray e)) t ty e i0 z c bytes ht hi hz0 hz1 hz2 hzs hc ⟨g, 0, none⟩ n cap xs hown.1 hold ⟨w.heap.size, 0, none⟩ 1 1 news (by omega) hnew (by omega) h63 hb
      obtain ⟨g', cap', ys, rfl, q1, q2, q3, q4, q5, q6⟩ := ownS_blk h2 (by omega)
      have hu0 : Upd (fun _ => False) w w' := ((Upd.refl _ w).alloc _).grown h3 (fun k hk => by cases hk)
      refine ⟨g', cap', w', h1, own_base h2 (by omega), ownS_upd hown hu0 (fun _ _ h => h), hu0.mono (fun _ _ h => h.elim), .inr (by omega)⟩
/-- A program of the call's own; its lists made longer. -/
structure Pg where
  v : Value
  u : Value
  C : List In
  E : List Int
  v2 : Value
  u2 : Value
  C2 : List In
  E2 : List Int
def Dj (a b c d : Value) : Prop := ∀ k, (a.ownBlock = some k ∨ b.ownBlock = some k) → ¬ (c.ownBlock = some k ∨ d.ownBlock = some k)
def PgOk (w : World) (B : Nat) (p : Pg) : Prop := COwn w B p.v p.C ∧ IOwn w B p.u p.E ∧ COwn w B p.v2 p.C2 ∧ IOwn w B p.u2 p.E2
def PgAp (p q : Pg) : Prop := Dj p.v p.v2 q.v q.v2 ∧ Dj p.u p.u2 q.u q.u2
structure PAll (w : World) (B : Nat) (L : List Pg) : Prop where
  ok : ∀ p ∈ L, PgOk w B p
  ap : L.Pairwise PgAp
theorem PgOk.upd {w w' : World} {B : Nat} {p : Pg} {S : Nat → Prop} (h : PgOk w B p) (hu : Upd S w w') (hv : ∀ k, (p.v.ownBlock = some k ∨ p.v2.ownBlock = some k) → ¬ S k) (hu2 : ∀ k, (p.u.ownBlock = some k ∨ p.u2.ownBlock = some k) → ¬ S k) : PgOk w' B p :=
  ⟨h.1.upd hu (fun k e => hv k (.inl e)), h.2.1.upd hu (fun k e => hu2 k (.inl e)), h.2.2.1.upd hu (fun k e => hv k (.inr e)), h.2.2.2.upd hu (fun k e => hu2 k (.inr e))⟩
theorem PAll.later {w w' : World} {B : Nat} {L : List Pg} (h : PAll w B L) (hB : Below w.heap.size w w') : PAll w' B L :=
  ⟨fun p hp => (h.ok p hp).upd (Upd.of_below (S := fun _ => False) hB) (fun _ _ h => h) (fun _ _ h => h), h.ap⟩
/-- Blocks that hold neither instructions nor integers may change. -/
theorem PAll.updT {w w' : World} {B : Nat} {L : List Pg} {S : Nat → Prop} (h : PAll w B L) (hu : Upd S w w') (h1 : ∀ k ys, S k → Blk w k 40 ys → False) (h2 : ∀ k ys, S k → Blk w k 3 ys → False) : PAll w' B L :=
  ⟨fun p hp => by
    obtain ⟨a, b, c, d⟩ := h.ok p hp
    refine (h.ok p hp).upd hu (fun k e hS => ?_) (fun k e hS => ?_)
    · rcases e with e | e
      · obtain ⟨ys, hy⟩ := ownS_type a e; exact h1 k ys hS hy
      · obtain ⟨ys, hy⟩ := ownS_type c e; exact h1 k ys hS hy
    · rcases e with e | e
      · obtain ⟨ys, hy⟩ := ownS_type b e; exact h2 k ys hS hy
      · obtain ⟨ys, hy⟩ := ownS_type d e; exact h2 k ys hS hy, h.ap⟩
theorem PAll.nil (w : World) (B : Nat) : PAll w B [] := ⟨fun p hp => (by cases hp), List.Pairwise.nil⟩
theorem own_nil : (Value.slice none 0 0).ownBlock = none := rfl
/-- One program more, of new memory. -/
theorem PAll.add {w w' : World} {B : Nat} {L : List Pg} {v u : Value} {C : List In} {E : List Int} (h : PAll w B L) (hB : Below w.heap.size w w') (hb : B ≤ w.heap.size) (hc : COwn w' w.heap.size v C) (he : IOwn w' w.heap.size u E) : PAll w' B (L ++ [⟨v, u, C, E, .slice none 0 0, .slice none 0 0, [], []⟩]) := by
  refine ⟨fun p hp => ?_, ?_⟩
  · rcases List.mem_append.1 hp with hp | hp
    · exact (h.later hB).ok p hp
    · simp only [List.mem_singleton] at hp
      subst hp
      exact ⟨own_base hc hb, own_base he hb, COwn.nil _ _, IOwn.nil _ _⟩
  · rw [List.pairwise_append]
    refine ⟨h.ap, List.pairwise_singleton _ _, fun p hp q hq => ?_⟩
    simp only [List.mem_singleton] at hq
    subst hq
    obtain ⟨a, b, c, d⟩ := h.ok p hp
    refine ⟨fun k e e2 => ?_, fun k e e2 => ?_⟩
    · have h1 : k < w.heap.size := by
        rcases e with e | e
        · exact (a.lies e).2
        · exact (c.lies e).2
      rcases e2 with e2 | e2
      · have := (hc.lies e2).1; omega
      · cases e2
    · have h1 : k < w.heap.size := by
        rcases e with e | e
        · exact (b.lies e).2
        · exact (d.lies e).2
      rcases e2 with e2 | e2
      · have := (he.lies e2).1; omega
      · cases e2
/-- One of them turns: its code's blocks alone may change. -/
theorem PAll.turn {w w' : World} {B : Nat} {L : List Pg} {k : Nat} {p p' : Pg} {S : Nat → Prop} (h : PAll w B L) (hk : L[k]? = some p) (hu : Upd S w w') (hok : PgOk w' B p')
    (hS : ∀ j, S j → (p.v.ownBlock = some j ∨ p.v2.ownBlock = some j) ∨ (p.u.ownBlock = some j ∨ p.u2.ownBlock = some j))
    (hv : ∀ j, (p'.v.ownBlock = some j ∨ p'.v2.ownBlock = some j) → (p.v.ownBlock = some j ∨ p.v2.ownBlock = some j) ∨ w.heap.size ≤ j)
    (hu' : ∀ j, (p'.u.ownBlock = some j ∨ p'.u2.ownBlock = some j) → (p.u.ownBlock = some j ∨ p.u2.ownBlock = some j) ∨ w.heap.size ≤ j) : PAll w' B (L.set k p') := by
  have hkl := (List.getElem?_eq_some_iff.1 hk).1
  have hpe := (List.getElem?_eq_some_iff.1 hk).2
  have hap := List.pairwise_iff_getElem.1 h.ap
  have hpp : PgOk w B p := h.ok p (List.mem_of_getElem? hk)
  -- two programs of the list that are not one
  have hne : ∀ j (hj : j < L.length), j ≠ k → PgAp L[j] p ∨ PgAp p L[j] := fun j hj hjk => by
    rcases Nat.lt_or_gt_of_ne hjk with hlt | hlt
    · exact .inl (by have := hap j k hj hkl hlt; rw [hpe] at this; exact this)
    · exact .inr (by have := hap k j hkl hj hlt; rw [hpe] at this; exact this)
  have disV : ∀ j (hj : j < L.length), j ≠ k → ∀ m, (L[j].v.ownBlock = some m ∨ L[j].v2.ownBlock = some m) → ¬ (p.v.ownBlock = some m ∨ p.v2.ownBlock = some m) := fun j hj hjk m e e2 => by
    rcases hne j hj hjk with h1 | h1
    · exact h1.1 m e e2
    · exact h1.1 m e2 e
  have disU : ∀ j (hj : j < L.length), j ≠ k → ∀ m, (L[j].u.ownBlock = some m ∨ L[j].u2.ownBlock = some m) → ¬ (p.u.ownBlock = some m ∨ p.u2.ownBlock = some m) := fun j hj hjk m e e2 => by
    rcases hne j hj hjk with h1 | h1
    · exact h1.2 m e e2
    · exact h1.2 m e2 e
  have isI : ∀ (q : Pg), PgOk w B q → ∀ m, (q.v.ownBlock = some m ∨ q.v2.ownBlock = some m) → ∃ ys, Blk w m 40 ys := fun q hq m e => by
    rcases e with e | e
    · exact ownS_type hq.1 e
    · exact ownS_type hq.2.2.1 e
  have isN : ∀ (q : Pg), PgOk w B q → ∀ m, (q.u.ownBlock = some m ∨ q.u2.ownBlock = some m) → ∃ ys, Blk w m 3 ys := fun q hq m e => by
    rcases e with e | e
    · exact ownS_type hq.2.1 e
    · exact ownS_type hq.2.2.2 e
  have mix : ∀ {q r : Pg}, PgOk w B q → PgOk w B r → ∀ m, (q.v.ownBlock = some m ∨ q.v2.ownBlock = some m) → ¬ (r.u.ownBlock = some m ∨ r.u2.ownBlock = some m) := fun {q r} hq hr m e e2 => by
    obtain ⟨ys, hy⟩ := isI q hq m e
    obtain ⟨zs, hz⟩ := isN r hr m e2
    exact absurd (blk_type hy hz) (by decide)
  refine ⟨fun q hq => ?_, ?_⟩
  · obtain ⟨j, hj, rfl⟩ := List.getElem_of_mem hq
    rw [List.length_set] at hj
    by_cases hjk : j = k
    · subst hjk
      rw [List.getElem_set_self]
      exact hok
    · rw [List.getElem_set_ne (fun h => hjk h.symm)]
      have hq := h.ok _ (List.getElem_mem hj)
      refine hq.upd hu (fun m e hs => ?_) (fun m e hs => ?_)
      · rcases hS m hs with h1 | h1
        · exact disV j hj hjk m e h1
        · exact mix hq hpp m e h1
      · rcases hS m hs with h1 | h1
        · exact mix hpp hq m h1 e
        · exact disU j hj hjk m e h1
  · rw [List.pairwise_iff_getElem]
    have ltV : ∀ j (hj : j < L.length) m, (L[j].v.ownBlock = some m ∨ L[j].v2.ownBlock = some m) → m < w.heap.size := fun j hj m e => by
      obtain ⟨ys, hy⟩ := isI _ (h.ok _ (List.getElem_mem hj)) m e
      exact hy.lt
    have ltU : ∀ j (hj : j < L.length) m, (L[j].u.ownBlock = some m ∨ L[j].u2.ownBlock = some m) → m < w.heap.size := fun j hj m e => by
      obtain ⟨ys, hy⟩ := isN _ (h.ok _ (List.getElem_mem hj)) m e
      exact hy.lt
    intro i j hi hj hij
    have hi2 : i < L.length := by rw [List.length_set] at hi; exact hi
    have hj2 : j < L.length := by rw [List.length_set] at hj; exact hj
    by_cases hik : i = k
    · subst hik
      rw [List.getElem_set_self, List.getElem_set_ne (by omega)]
      refine ⟨fun m e e2 => ?_, fun m e e2 => ?_⟩
      · rcases hv m e with h1 | h1
        · exact disV j hj2 (by omega) m e2 h1
        · have := ltV j hj2 m e2; omega
      · rcases hu' m e with h1 | h1
        · exact disU j hj2 (by omega) m e2 h1
        · have := ltU j hj2 m e2; omega
    · by_cases hjk : j = k
      · subst hjk
        rw [List.getElem_set_self, List.getElem_set_ne (by omega)]
        refine ⟨fun m e e2 => ?_, fun m e e2 => ?_⟩
        · rcases hv m e2 with h1 | h1
          · exact disV i hi2 hik m e h1
          · have := ltV i hi2 m e; omega
        · rcases hu' m e2 with h1 | h1
          · exact disU i hi2 hik m e h1
          · have := ltU i hi2 m e; omega
      · rw [List.getElem_set_ne (fun h => hik h.symm), List.getElem_set_ne (fun h => hjk h.symm)]
        exact hap i j hi2 hj2 hij
theorem upd4 (w : World) (g i j k l : Nat) (x y z u : Value) : Upd (fun n => n = g) w ((((w.setCell ⟨g, i, none⟩ x).setCell ⟨g, j, none⟩ y).setCell ⟨g, k, none⟩ z).setCell ⟨g, l, none⟩ u) := by
  have h1 : Upd (fun n => n = g) w (w.setCell ⟨g, i, none⟩ x) := (Upd.refl (fun n => n = g) w).set ⟨g, i, none⟩ x (.inl rfl)
  have h2 := h1.set ⟨g, j, none⟩ y (.inl rfl)
  have h3 := h2.set ⟨g, k, none⟩ z (.inl rfl)
  exact h3.set ⟨g, l, none⟩ u (.inl rfl)
section
variable {w : World} {B : Nat} {L : List Pg} {k : Nat} {p : Pg}
/-- An instruction is written over. -/
theorem PAll.setC (h : PAll w B L) (hk : L[k]? = some p) (h2 : p.v2 = .slice none 0 0) {g n c i : Nat} (hv : p.v = .slice (some ⟨g, 0, none⟩) n c) (hi : i < p.C.length) (x : In) :
    PAll ((((w.setCell ⟨g, i * 4, none⟩ (.int .i64 x.op)).setCell ⟨g, i * 4 + 1, none⟩ (.int .i64 x.a)).setCell ⟨g, i * 4 + 2, none⟩ (.int .i64 x.b)).setCell ⟨g, i * 4 + 3, none⟩ (.int .i64 x.c)) B (L.set k { p with C := p.C.set i x }) ∧ B ≤ g ∧ (∃ ys, Blk w g 40 ys) := by
  obtain ⟨a, b, c', d⟩ := h.ok p (List.mem_of_getElem? hk)
  have hu := upd4 w g (i * 4) (i * 4 + 1) (i * 4 + 2) (i * 4 + 3) (.int .i64 x.op) (.int .i64 x.a) (.int .i64 x.b) (.int .i64 x.c)
  have hg : p.v.ownBlock = some g := by rw [hv]; rfl
  have hty := ownS_type a hg
  refine ⟨h.turn hk hu ⟨?_, ?_, ?_, ?_⟩ (fun j hj => .inl (.inl (by rw [hj]; exact hg))) (fun j e => .inl e) (fun j e => .inl e), (a.lies hg).1, hty⟩
  · show COwn _ B p.v (p.C.set i x)
    rw [hv]
    rw [hv] at a
    exact row_set4 inc_len a hi x _ _ _ _ rfl
  · show IOwn _ B p.u p.E
    exact b.upd hu (fun j e hj => by subst hj; obtain ⟨ys, hy⟩ := hty; exact notI b hy (by decide) e)
  · show COwn _ B p.v2 p.C2
    exact c'.upd hu (fun j e hj => by rw [h2] at e; cases e)
  · show IOwn _ B p.u2 p.E2
    exact d.upd hu (fun j e hj => by subst hj; obtain ⟨ys, hy⟩ := hty; exact notI d hy (by decide) e)
/-- An entry is written over. -/
theorem PAll.setE (h : PAll w B L) (hk : L[k]? = some p) (h2 : p.u2 = .slice none 0 0) {g n c i : Nat} (hv : p.u = .slice (some ⟨g, 0, none⟩) n c) (hi : i < p.E.length) (x : Int) :
    PAll (w.setCell ⟨g, i, none⟩ (.int .i64 x)) B (L.set k { p with E := p.E.set i x }) ∧ B ≤ g ∧ (∃ ys, Blk w g 3 ys) := by
  obtain ⟨a, b, c', d⟩ := h.ok p (List.mem_of_getElem? hk)
  have hu : Upd (fun n => n = g) w (w.setCell ⟨g, i, none⟩ (.int .i64 x)) := (Upd.refl (fun n => n = g) w).set ⟨g, i, none⟩ _ (.inl rfl)
  have hg : p.u.ownBlock = some g := by rw [hv]; rfl
  have hty := ownS_type b hg
  refine ⟨h.turn hk hu ⟨?_, ?_, ?_, ?_⟩ (fun j hj => .inr (.inl (by rw [hj]; exact hg))) (fun j e => .inl e) (fun j e => .inl e), (b.lies hg).1, hty⟩
  · show COwn _ B p.v p.C
    exact a.upd hu (fun j e hj => by subst hj; obtain ⟨ys, hy⟩ := hty; exact notC a hy (by decide) e)
  · show IOwn _ B p.u (p.E.set i x)
    rw [hv]
    rw [hv] at b
    exact b.set hi x
  · show COwn _ B p.v2 p.C2
    exact c'.upd hu (fun j e hj => by subst hj; obtain ⟨ys, hy⟩ := hty; exact notC c' hy (by decide) e)
  · show IOwn _ B p.u2 p.E2
    exact d.upd hu (fun j e hj => by rw [h2] at e; cases e)
/-- Its code is made longer. -/
theorem PAll.growC (h : PAll w B L) (hk : L[k]? = some p) (h2 : p.v2 = .slice none 0 0) (x : In) (hl : p.C.length ≤ 1000000000) (hB : B ≤ w.heap.size) :
    ∃ g cap w', (Builtin.append_ #[28, 28] 28 #[p.v, .slice (some ⟨w.heap.size, 0, none⟩) 1 1]).run Try.prog (w.alloc (.cells #[.int .i64 x.op, .int .i64 x.a, .int .i64 x.b, .int .i64 x.c] 40)) = .ok (.slice (some ⟨g, 0, none⟩) (p.C.length + 1) cap) w' ∧ PAll w' B (L.set k { p with v2 := .slice (some ⟨g, 0, none⟩) (p.C.length + 1) cap, C2 := p.C ++ [x] }) ∧ Upd (fun k => p.v.ownBlock = some k) w w' ∧ (∀ j, p.v.ownBlock = some j → B ≤ j ∧ ∃ ys, Blk w j 40 ys) := by
  obtain ⟨a, b, c', d⟩ := h.ok p (List.mem_of_getElem? hk)
  obtain ⟨g, cap, w', h1, h2', h3, h4, h5⟩ := run_pushK (P := Try.prog) (t := 28) (e := 40) (c := 4) Try.underlying28 infoIn rfl (by decide) w 28 a (inc x) rfl (inc_one x) (by unfold maxLen; omega) (by omega) hB
  have hty : ∀ j, p.v.ownBlock = some j → ∃ ys, Blk w j 40 ys := fun j e => ownS_type a e
  refine ⟨g, cap, w', h1, h.turn hk h4 ⟨h3, ?_, ?_, ?_⟩ (fun j hj => .inl (.inl hj)) (fun j e => ?_) (fun j e => .inl e), h4, fun j e => ⟨(a.lies e).1, hty j e⟩⟩
  · show IOwn _ B p.u p.E
    exact b.upd h4 (fun j e hj => by obtain ⟨ys, hy⟩ := hty j hj; exact notI b hy (by decide) e)
  · show COwn w' B (.slice (some ⟨g, 0, none⟩) (p.C.length + 1) cap) (p.C ++ [x])
    unfold COwn
    rw [cellsG_app, cellsG_one, List.length_append, List.length_singleton]
    exact h2'
  · show IOwn _ B p.u2 p.E2
    exact d.upd h4 (fun j e hj => by obtain ⟨ys, hy⟩ := hty j hj; exact notI d hy (by decide) e)
  · rcases e with e | e
    · exact .inl (.inl e)
    · have : g = j := own_is e
      subst this
      rcases h5 with h5 | h5
      · exact .inl (.inl h5)
      · exact .inr h5
/-- Its entries are made longer. -/
theorem PAll.growE (h : PAll w B L) (hk : L[k]? = some p) (h2 : p.u2 = .slice none 0 0) (x : Int) (hl : p.E.length ≤ 1000000000) (hB : B ≤ w.heap.size) :
    ∃ g cap w', (Builtin.append_ #[29, 29] 29 #[p.u, .slice (some ⟨w.heap.size, 0, none⟩) 1 1]).run Try.prog (w.alloc (.cells #[.int .i64 x] 3)) = .ok (.slice (some ⟨g, 0, none⟩) (p.E.length + 1) cap) w' ∧ PAll w' B (L.set k { p with u2 := .slice (some ⟨g, 0, none⟩) (p.E.length + 1) cap, E2 := p.E ++ [x] }) ∧ Upd (fun k => p.u.ownBlock = some k) w w' ∧ (∀ j, p.u.ownBlock = some j → B ≤ j ∧ ∃ ys, Blk w j 3 ys) := by
  obtain ⟨a, b, c', d⟩ := h.ok p (List.mem_of_getElem? hk)
  obtain ⟨g, cap, w', h1, h2', h3, h4, h5⟩ := run_pushK (P := Try.prog) (t := 29) (e := 3) (c := 1) elI.sl elI.info rfl (by decide) w 29 b [.int .i64 x] rfl (fun u hu => by simp only [List.mem_singleton] at hu; subst hu; rfl) (by unfold maxLen; omega) (by omega) hB
  have hty : ∀ j, p.u.ownBlock = some j → ∃ ys, Blk w j 3 ys := fun j e => ownS_type b e
  refine ⟨g, cap, w', h1, h.turn hk h4 ⟨?_, h3, ?_, ?_⟩ (fun j hj => .inr (.inl hj)) (fun j e => .inl e) (fun j e => ?_), h4, fun j e => ⟨(b.lies e).1, hty j e⟩⟩
  · show COwn _ B p.v p.C
    exact a.upd h4 (fun j e hj => by obtain ⟨ys, hy⟩ := hty j hj; exact notC a hy (by decide) e)
  · show COwn _ B p.v2 p.C2
    exact c'.upd h4 (fun j e hj => by obtain ⟨ys, hy⟩ := hty j hj; exact notC c' hy (by decide) e)
  · show IOwn w' B (.slice (some ⟨g, 0, none⟩) (p.E.length + 1) cap) (p.E ++ [x])
    unfold IOwn
    rw [cellsL_append, List.length_append, List.length_singleton]
    exact h2'
  · rcases e with e | e
    · exact .inl (.inl e)
    · have : g = j := own_is e
      subst this
      rcases h5 with h5 | h5
      · exact .inl (.inl h5)
      · exact .inr h5
end
end Go.Proofs.Ytepmgbfdmbogiaa
/- Programs in a list, their lists grown, in lists: what lies in memory. -/
namespace Go.Proofs.Ytepmgbfdmbogiaa
open Go.RowKit
set_option linter.unusedVariables false

def prc (p : Value × Value) : List Value := [.bool false, p.1, p.2]
theorem prc_len (p : Value × Value) : (prc p).length = 3 := rfl
def one1 (v : Value) : List Value := [v]
theorem one1_len (v : Value) : (one1 v).length = 1 := rfl
theorem infoPg : (Try.prog.info? 31).map (fun i => (i.zero, i.size, i.bytes)) = some (some (.agg #[.bool false, .slice none 0 0, .slice none 0 0]), 3, 56) := by kernel_rfl
theorem infoSI : (Try.prog.info? 28).map (fun i => (i.zero, i.size, i.bytes)) = some (some (.slice none 0 0), 1, 24) := by kernel_rfl
theorem infoSN : (Try.prog.info? 29).map (fun i => (i.zero, i.size, i.bytes)) = some (some (.slice none 0 0), 1, 24) := by kernel_rfl
structure ApS (w6 wr : World) (vL : Value) (VL : List (Value × Value)) (vI : Value) (IL : List Value) (vN : Value) (NL : List Value) (L : List Pg) : Prop where
  all : PAll wr w6.heap.size L
  row : wr.ownsRow w6.heap.size 31 3 vL VL.length (cellsG prc VL)
  ri : wr.ownsRow w6.heap.size 28 1 vI IL.length (cellsG one1 IL)
  rn : wr.ownsRow w6.heap.size 29 1 vN NL.length (cellsG one1 NL)
  bel : Below w6.heap.size w6 wr
section
variable {w6 w w' : World} {vL : Value} {VL : List (Value × Value)} {vI : Value} {IL : List Value} {vN : Value} {NL : List Value} {L : List Pg}
theorem ApS.later (h : ApS w6 w vL VL vI IL vN NL L) (hB : Below w.heap.size w w') : ApS w6 w' vL VL vI IL vN NL L :=
  ⟨h.all.later hB, ownS_upd h.row (Upd.of_below (S := fun _ => False) hB) (fun _ _ h => h), ownS_upd h.ri (Upd.of_below (S := fun _ => False) hB) (fun _ _ h => h), ownS_upd h.rn (Upd.of_below (S := fun _ => False) hB) (fun _ _ h => h), below_to h.bel hB⟩
theorem ApS.addP {v u : Value} {C : List In} {E : List Int} (h : ApS w6 w vL VL vI IL vN NL L) (hB : Below w.heap.size w w') (hc : COwn w' w.heap.size v C) (he : IOwn w' w.heap.size u E) : ApS w6 w' vL VL vI IL vN NL (L ++ [⟨v, u, C, E, .slice none 0 0, .slice none 0 0, [], []⟩]) :=
  ⟨h.all.add hB h.bel.size hc he, (h.later hB).row, (h.later hB).ri, (h.later hB).rn, (h.later hB).bel⟩
/-- Instructions or integers of the programs may change. -/
theorem ApS.turn {L' : List Pg} {S : Nat → Prop} (h : ApS w6 w vL VL vI IL vN NL L) (hu : Upd S w w') (hS : ∀ k, S k → w6.heap.size ≤ k ∧ ((∃ ys, Blk w k 40 ys) ∨ ∃ ys, Blk w k 3 ys)) (hp : PAll w' w6.heap.size L') : ApS w6 w' vL VL vI IL vN NL L' := by
  have hn : ∀ {v : Value} {n c : Nat} {t : TypeId} {xs : List Value}, w.ownsRow w6.heap.size t c v n xs → t ≠ 40 → t ≠ 3 → ∀ k, v.ownBlock = some k → ¬ S k := fun ho h1 h2 k e hs => by
    obtain ⟨ys, hy⟩ := ownS_type ho e
    rcases (hS k hs).2 with ⟨zs, hz⟩ | ⟨zs, hz⟩
    · exact h1 (blk_type hy hz)
    · exact h2 (blk_type hy hz)
  exact ⟨hp, ownS_upd h.row hu (hn h.row (by decide) (by decide)), ownS_upd h.ri hu (hn h.ri (by decide) (by decide)), ownS_upd h.rn hu (hn h.rn (by decide) (by decide)), h.bel.trans (hu.below _ h.bel.size (fun k hk => (hS k hk).1))⟩
theorem ApS.pushL {a b : Option Addr} {n m c d : Nat} (h : ApS w6 w vL VL vI IL vN NL L) (hl : VL.length ≤ 1000) : ∃ g cap w', (Builtin.append_ #[42, 42] 42 #[vL, .slice (some ⟨w.heap.size, 0, none⟩) 1 1]).run Try.prog (w.alloc (.cells #[.bool false, .slice a n c, .slice b m d] 31)) = .ok (.slice (some ⟨g, 0, none⟩) (VL.length + 1) cap) w' ∧ ApS w6 w' (.slice (some ⟨g, 0, none⟩) (VL.length + 1) cap) (VL ++ [(.slice a n c, .slice b m d)]) vI IL vN NL L ∧ Upd (fun k => vL.ownBlock = some k) w w' := by
  obtain ⟨g, cap, w', h1, h2, h3, h4⟩ := run_pushS (P := Try.prog) (t := 42) (e := 31) (c := 3) Try.underlying42 infoPg rfl (by decide) w 42 h.row (prc (.slice a n c, .slice b m d)) rfl (fun u hu => by simp [prc] at hu; rcases hu with rfl | rfl | rfl <;> rfl) (by unfold maxLen; omega) (by omega) h.bel.size
  have hty : ∀ k, vL.ownBlock = some k → ∃ ys, Blk w k 31 ys := fun k e => ownS_type h.row e
  refine ⟨g, cap, w', h1, ⟨h.all.updT h3 (fun k ys e hb => by obtain ⟨zs, hz⟩ := hty k e; exact absurd (blk_type hb hz) (by decide)) (fun k ys e hb => by obtain ⟨zs, hz⟩ := hty k e; exact absurd (blk_type hb hz) (by decide)), ?_, ownS_upd h.ri h3 (fun k e e2 => ?_), ownS_upd h.rn h3 (fun k e e2 => ?_), h.bel.trans (h3.below _ h.bel.size (fun k e => (h.row.lt k e).1))⟩, h3⟩
  · rw [cellsG_app, cellsG_one, List.length_append, List.length_singleton]
    exact h2
  · obtain ⟨ys, hy⟩ := ownS_type h.ri e; obtain ⟨zs, hz⟩ := hty k e2; exact absurd (blk_type hy hz) (by decide)
  · obtain ⟨ys, hy⟩ := ownS_type h.rn e; obtain ⟨zs, hz⟩ := hty k e2; exact absurd (blk_type hy hz) (by decide)
theorem ApS.pushI {a : Option Addr} {n c : Nat} (h : ApS w6 w vL VL vI IL vN NL L) (hl : IL.length ≤ 1000) : ∃ g cap w', (Builtin.append_ #[44, 44] 44 #[vI, .slice (some ⟨w.heap.size, 0, none⟩) 1 1]).run Try.prog (w.alloc (.cells #[.slice a n c] 28)) = .ok (.slice (some ⟨g, 0, none⟩) (IL.length + 1) cap) w' ∧ ApS w6 w' vL VL (.slice (some ⟨g, 0, none⟩) (IL.length + 1) cap) (IL ++ [.slice a n c]) vN NL L ∧ Upd (fun k => vI.ownBlock = some k) w w' := by
  obtain ⟨g, cap, w', h1, h2, h3, h4⟩ := run_pushS (P := Try.prog) (t := 44) (e := 28) (c := 1) Try.underlying44 infoSI rfl (by decide) w 44 h.ri (one1 (.slice a n c)) rfl (fun u hu => by simp [one1] at hu; subst hu; rfl) (by unfold maxLen; omega) (by omega) h.bel.size
  have hty : ∀ k, vI.ownBlock = some k → ∃ ys, Blk w k 28 ys := fun k e => ownS_type h.ri e
  refine ⟨g, cap, w', h1, ⟨h.all.updT h3 (fun k ys e hb => by obtain ⟨zs, hz⟩ := hty k e; exact absurd (blk_type hb hz) (by decide)) (fun k ys e hb => by obtain ⟨zs, hz⟩ := hty k e; exact absurd (blk_type hb hz) (by decide)), ownS_upd h.row h3 (fun k e e2 => ?_), ?_, ownS_upd h.rn h3 (fun k e e2 => ?_), h.bel.trans (h3.below _ h.bel.size (fun k e => (h.ri.lt k e).1))⟩, h3⟩
  · obtain ⟨ys, hy⟩ := ownS_type h.row e; obtain ⟨zs, hz⟩ := hty k e2; exact absurd (blk_type hy hz) (by decide)
  · rw [cellsG_app, cellsG_one, List.length_append, List.length_singleton]
    exact h2
  · obtain ⟨ys, hy⟩ := ownS_type h.rn e; obtain ⟨zs, hz⟩ := hty k e2; exact absurd (blk_type hy hz) (by decide)
theorem ApS.pushN {a : Option Addr} {n c : Nat} (h : ApS w6 w vL VL vI IL vN NL L) (hl : NL.length ≤ 1000) : ∃ g cap w', (Builtin.append_ #[45, 45] 45 #[vN, .slice (some ⟨w.heap.size, 0, none⟩) 1 1]).run Try.prog (w.alloc (.cells #[.slice a n c] 29)) = .ok (.slice (some ⟨g, 0, none⟩) (NL.length + 1) cap) w' ∧ ApS w6 w' vL VL vI IL (.slice (some ⟨g, 0, none⟩) (NL.length + 1) cap) (NL ++ [.slice a n c]) L ∧ Upd (fun k => vN.ownBlock = some k) w w' := by
  obtain ⟨g, cap, w', h1, h2, h3, h4⟩ := run_pushS (P := Try.prog) (t := 45) (e := 29) (c := 1) Try.underlying45 infoSN rfl (by decide) w 45 h.rn (one1 (.slice a n c)) rfl (fun u hu => by simp [one1] at hu; subst hu; rfl) (by unfold maxLen; omega) (by omega) h.bel.size
  have hty : ∀ k, vN.ownBlock = some k → ∃ ys, Blk w k 29 ys := fun k e => ownS_type h.rn e
  refine ⟨g, cap, w', h1, ⟨h.all.updT h3 (fun k ys e hb => by obtain ⟨zs, hz⟩ := hty k e; exact absurd (blk_type hb hz) (by decide)) (fun k ys e hb => by obtain ⟨zs, hz⟩ := hty k e; exact absurd (blk_type hb hz) (by decide)), ownS_upd h.row h3 (fun k e e2 => ?_), ownS_upd h.ri h3 (fun k e e2 => ?_), ?_, h.bel.trans (h3.below _ h.bel.size (fun k e => (h.rn.lt k e).1))⟩, h3⟩
  · obtain ⟨ys, hy⟩ := ownS_type h.row e; obtain ⟨zs, hz⟩ := hty k e2; exact absurd (blk_type hy hz) (by decide)
  · obtain ⟨ys, hy⟩ := ownS_type h.ri e; obtain ⟨zs, hz⟩ := hty k e2; exact absurd (blk_type hy hz) (by decide)
  · rw [cellsG_app, cellsG_one, List.length_append, List.length_singleton]
    exact h2
/-- The cells of program number k in the list. -/
theorem ApS.atL {k : Nat} {x : Value × Value} (h : ApS w6 w vL VL vI IL vN NL L) (hk : VL[k]? = some x) : ∃ g c, vL = .slice (some ⟨g, 0, none⟩) VL.length c ∧ w.cell? ⟨g, k * 3, none⟩ = some (.bool false) ∧ w.cell? ⟨g, k * 3 + 1, none⟩ = some x.1 ∧ w.cell? ⟨g, k * 3 + 2, none⟩ = some x.2 := by
  have hl := (List.getElem?_eq_some_iff.1 hk).1
  obtain ⟨g, c, ys, rfl, _⟩ := ownS_blk h.row (by omega)
  obtain ⟨a, c', e, -, -, hr⟩ := own_grow prc_len h.row
  injection e with e _ _
  subst e
  obtain ⟨b, o, e, -, hc⟩ := hr.open (by omega)
  injection e with e
  injection e with e1 e2 _
  subst e1 e2
  have c0 := hc k x hk 0 (by decide); have c1 := hc k x hk 1 (by decide); have c2 := hc k x hk 2 (by decide)
  simp [prc] at c0 c1 c2
  exact ⟨_, _, rfl, c0, c1, c2⟩
theorem ApS.atI {k : Nat} {x : Value} (h : ApS w6 w vL VL vI IL vN NL L) (hk : IL[k]? = some x) : ∃ g c, vI = .slice (some ⟨g, 0, none⟩) IL.length c ∧ w.cell? ⟨g, k, none⟩ = some x := by
  have hl := (List.getElem?_eq_some_iff.1 hk).1
  obtain ⟨g, c, ys, rfl, _⟩ := ownS_blk h.ri (by omega)
  obtain ⟨a, c', e, -, -, hr⟩ := own_grow one1_len h.ri
  injection e with e _ _
  subst e
  obtain ⟨b, o, e, -, hc⟩ := hr.open (by omega)
  injection e with e
  injection e with e1 e2 _
  subst e1 e2
  have c0 := hc k x hk 0 (by decide)
  simp [one1] at c0
  exact ⟨_, _, rfl, c0⟩
theorem ApS.atN {k : Nat} {x : Value} (h : ApS w6 w vL VL vI IL vN NL L) (hk : NL[k]? = some x) : ∃ g c, vN = .slice (some ⟨g, 0, none⟩) NL.length c ∧ w.cell? ⟨g, k, none⟩ = some x := by
  have hl := (List.getElem?_eq_some_iff.1 hk).1
  obtain ⟨g, c, ys, rfl, _⟩ := ownS_blk h.rn (by omega)
  obtain ⟨a, c', e, -, -, hr⟩ := own_grow one1_len h.rn
  injection e with e _ _
  subst e
  obtain ⟨b, o, e, -, hc⟩ := hr.open (by omega)
  injection e with e
  injection e with e1 e2 _
  subst e1 e2
  have c0 := hc k x hk 0 (by decide)
  simp [one1] at c0
  exact ⟨_, _, rfl, c0⟩
theorem ApS.atL2 {k g n c : Nat} {x : Value × Value} (h : ApS w6 w (.slice (some ⟨g, 0, none⟩) n c) VL vI IL vN NL L) (hk : VL[k]? = some x) : w.cell? ⟨g, k * 3, none⟩ = some (.bool false) ∧ w.cell? ⟨g, k * 3 + 1, none⟩ = some x.1 ∧ w.cell? ⟨g, k * 3 + 2, none⟩ = some x.2 := by
  obtain ⟨g2, c2, e, h1⟩ := h.atL hk
  injection e with e _ _
  injection e with e
  injection e with e _ _
  subst e
  exact h1
theorem ApS.atI2 {k g n c : Nat} {x : Value} (h : ApS w6 w vL VL (.slice (some ⟨g, 0, none⟩) n c) IL vN NL L) (hk : IL[k]? = some x) : w.cell? ⟨g, k, none⟩ = some x := by
  obtain ⟨g2, c2, e, h1⟩ := h.atI hk
  injection e with e _ _
  injection e with e
  injection e with e _ _
  subst e
  exact h1
theorem ApS.atN2 {k g n c : Nat} {x : Value} (h : ApS w6 w vL VL vI IL (.slice (some ⟨g, 0, none⟩) n c) NL L) (hk : NL[k]? = some x) : w.cell? ⟨g, k, none⟩ = some x := by
  obtain ⟨g2, c2, e, h1⟩ := h.atN hk
  injection e with e _ _
  injection e with e
  injection e with e _ _
  subst e
  exact h1
end
end Go.Proofs.Ytepmgbfdmbogiaa
/- Lower, plain: a routine hangs on the types that it is made of alone; of fewer types a front. -/
namespace Go.Proofs.Ytepmgbfdmbogiaa
open Go.RowKit
set_option linter.unusedVariables false

theorem rowP_congr {X X' : List Ex} {ps : List Pt} (h : ∀ p ∈ ps, exAt X p.ty = exAt X' p.ty) : rowP X ps = rowP X' ps := by
  have key : ∀ (ps : List Pt) (y : Ly), (∀ p ∈ ps, exAt X p.ty = exAt X' p.ty) → ps.foldl (addF X) y = ps.foldl (addF X') y := fun ps => by
    induction ps with
    | nil => intro y _; rfl
    | cons p ps ih =>
      intro y h
      rw [List.foldl_cons, List.foldl_cons]
      have e : addF X y p = addF X' y p := by unfold addF; rw [h p (List.mem_cons_self ..)]
      rw [e]
      exact ih _ (fun q hq => h q (List.mem_cons_of_mem _ hq))
  exact key ps _ h
theorem ptA_mem {ps : List Pt} {j : Nat} (h : j < ps.length) : ptA ps j ∈ ps := by
  unfold ptA
  rw [List.getD_eq_getElem?_getD, List.getElem?_eq_getElem h]
  exact List.getElem_mem h
theorem bdP_congr {T T' : List Ty} {ps : List Pt} (r : Int) (h : ∀ p ∈ ps, rdP T 0 p.ty = rdP T' 0 p.ty) : ∀ m, m ≤ ps.length → bdP T ps r m = bdP T' ps r m
  | 0, _ => rfl
  | m + 1, hm => by rw [bdP_succ, bdP_succ, bdP_congr r h m (by omega), h _ (ptA_mem (by omega))]
theorem fxP_congr {T T' : List Ty} {X X' : List Ex} {ps : List Pt} (sz : Int) (h : ∀ p ∈ ps, exAt X p.ty = exAt X' p.ty ∧ ∀ k, rdP T k p.ty = rdP T' k p.ty) : ∀ m, m ≤ ps.length → fxP T X ps sz m = fxP T' X' ps sz m
  | 0, _ => rfl
  | m + 1, hm => by
    have hh := h _ (ptA_mem (show m < ps.length by omega))
    rw [fxP_succ, fxP_succ, fxP_congr sz h m (by omega), hh.1, hh.2]
theorem vrN_congr {X X' : List Ex} {ps : List Pt} (h : ∀ p ∈ ps, exAt X p.ty = exAt X' p.ty) : ∀ m, m ≤ ps.length → vrN X ps m = vrN X' ps m
  | 0, _ => rfl
  | m + 1, hm => by
    show vrN X ps m + _ = vrN X' ps m + _
    rw [vrN_congr h m (by omega), h _ (ptA_mem (by omega))]
theorem vrP_congr {X X' : List Ex} {ps : List Pt} (h : ∀ p ∈ ps, exAt X p.ty = exAt X' p.ty) : ∀ m, m ≤ ps.length → vrP X ps m = vrP X' ps m
  | 0, _ => rfl
  | m + 1, hm => by rw [vrP_succ, vrP_succ, vrP_congr h m (by omega), vrN_congr h m (by omega), h _ (ptA_mem (by omega))]
theorem rtnP_congr {T T' : List Ty} {X X' : List Ex} {t : Ty} {i : Nat} (b : Int) (hok : tyOk t (i : Int) = true) (hself : tyA T (i : Int) = tyA T' (i : Int)) (h : ∀ e : Int, 0 ≤ e → e < (i : Int) → tyA T e = tyA T' e ∧ exAt X e = exAt X' e) : rtnP T X t (i : Int) b = rtnP T' X' t (i : Int) b := by
  have hrd : ∀ k e, (tyA T e = tyA T' e) → rdP T k e = rdP T' k e := fun k e he => by unfold rdP; rw [he]
  have hel : hasE t.k = true → 0 ≤ t.e ∧ t.e < (i : Int) := fun hk => by
    have := (tyOk_parts hok).2.1
    unfold elemOk at this
    rw [if_pos hk] at this
    exact of_decide_eq_true this
  have hpt : ∀ p ∈ t.ps, exAt X p.ty = exAt X' p.ty ∧ ∀ k, rdP T k p.ty = rdP T' k p.ty := fun p hp => by
    obtain ⟨j, hj, rfl⟩ := List.getElem_of_mem hp
    obtain ⟨h0, h1⟩ := tyOk_part hok (List.getElem?_eq_getElem hj)
    obtain ⟨e1, e2⟩ := h _ h0 h1
    exact ⟨e2, fun k => hrd k _ e1⟩
  have hx : ∀ p ∈ t.ps, exAt X p.ty = exAt X' p.ty := fun p hp => (hpt p hp).1
  unfold rtnP
  congr 1
  unfold bodP
  by_cases h6 : t.k = 6
  · rw [if_pos h6, if_pos h6]
    obtain ⟨e0, e1⟩ := hel (by unfold hasE; rw [h6]; decide)
    rw [hrd 0 _ (h _ e0 e1).1]
  rw [if_neg h6, if_neg h6]
  by_cases h1 : t.k = 1 ∨ t.k = 2 ∨ t.k = 3
  · rw [if_pos h1, if_pos h1, hrd (-1) _ hself]
  rw [if_neg h1, if_neg h1]
  by_cases h4 : t.k = 4 ∨ t.k = 5
  · rw [if_pos h4, if_pos h4]
    obtain ⟨e0, e1⟩ := hel (by unfold hasE; rcases h4 with h4 | h4 <;> rw [h4] <;> decide)
    obtain ⟨a1, a2⟩ := h _ e0 e1
    have hl : (layP X t).sz = (layP X' t).sz := by
      have h8 : ¬ t.k = 8 := by omega
      unfold layP
      rw [if_neg h8, if_neg h8, a2]
    have hf : itF T t b = itF T' t b := by unfold itF; rw [hrd (-1) _ a1]
    rw [a2, hl, hf]
  rw [if_neg h4, if_neg h4]
  by_cases h7 : t.k = 7
  · rw [if_pos h7, if_pos h7]
    unfold armP
    rw [bdP_congr _ (fun p hp => (hpt p hp).2 0) _ (Nat.le_refl _)]
  rw [if_neg h7, if_neg h7]
  by_cases h8 : t.k = 8
  · rw [if_pos h8, if_pos h8]
    have hl : (layP X t).sz = (layP X' t).sz := by unfold layP; rw [if_pos h8, if_pos h8, rowP_congr hx]
    unfold fldP
    rw [hl, fxP_congr _ hpt _ (Nat.le_refl _), vrP_congr hx _ (Nat.le_refl _)]
  rw [if_neg h8, if_neg h8]
theorem tyA_take {T : List Ty} {n : Nat} {e : Int} (h0 : 0 ≤ e) (h1 : e < (n : Int)) : tyA (T.take n) e = tyA T e := by
  unfold tyA
  rw [List.getD_eq_getElem?_getD, List.getD_eq_getElem?_getD, List.getElem?_take, if_pos (by omega)]
theorem getD_take {T : List Ty} {n j : Nat} (h : j < n) : (T.take n).getD j ty0 = T.getD j ty0 := by
  rw [List.getD_eq_getElem?_getD, List.getD_eq_getElem?_getD, List.getElem?_take, if_pos h]
theorem lowC_take {T : List Ty} {R : List Rt} (hS : OkS T R) {n : Nat} (hn : n ≤ T.length) : ∀ i, i ≤ n → lowC (T.take n) (extL (T.take n)) i = lowC T (extL T) i
  | 0, _ => rfl
  | i + 1, hi => by
    have ih := lowC_take hS hn i (by omega)
    show lowC (T.take n) _ i ++ _ = lowC T _ i ++ _
    rw [ih, tyA_take (by omega) (by omega)]
    have hok := hS.ty i (by omega)
    have e : tyA T (i : Int) = T.getD i ty0 := by unfold tyA; rw [Int.toNat_natCast]
    rw [e]
    rw [rtnP_congr _ hok (tyA_take (by omega) (by omega)) (fun e h0 h1 => ⟨tyA_take h0 (by omega), exAt_take hn h0 (by omega)⟩)]
theorem lowC_front (T : List Ty) (X : List Ex) (i : Nat) : ∀ j, (lowC T X i) <+: (lowC T X (i + j))
  | 0 => List.prefix_refl _
  | j + 1 => by
    have := lowC_front T X i j
    show _ <+: lowC T X (i + j) ++ _
    exact this.trans (List.prefix_append _ _)
/-! ### The roots of the first types -/
theorem names_apart {R : List Rt} (h : ∀ j, j < R.length → findR R (R.getD j rt0).name = j) : R.Pairwise (fun a b => a.name ≠ b.name) := by
  rw [List.pairwise_iff_getElem]
  intro i j hi hj hij e
  have h1 := h j hj
  rw [List.getD_eq_getElem?_getD, List.getElem?_eq_getElem hj] at h1
  simp only [Option.getD_some] at h1
  unfold findR at h1
  have : R.findIdx (fun q => decide (q.name = R[j].name)) ≤ i := by
    apply Nat.le_of_not_lt
    intro hlt
    have := List.not_of_lt_findIdx hlt
    simp [e] at this
  omega
theorem names_find {R : List Rt} (h : R.Pairwise (fun a b => a.name ≠ b.name)) (j : Nat) (hj : j < R.length) : findR R (R.getD j rt0).name = j := by
  rw [List.getD_eq_getElem?_getD, List.getElem?_eq_getElem hj]
  simp only [Option.getD_some]
  unfold findR
  rw [List.findIdx_eq hj]
  refine ⟨by simp, fun i hi => ?_⟩
  rw [List.pairwise_iff_getElem] at h
  have := h i j (by omega) hj hi
  simp [this]
theorem rt_cut {T : List Ty} {R : List Rt} (hS : OkS T R) {n : Nat} (hn : n ≤ T.length) : OkS (T.take n) (rtF n R) := by
  have hl : (T.take n).length = n := by rw [List.length_take]; omega
  refine ⟨fun j hj => ?_, fun j hj => ?_, fun j hj => ?_⟩
  · rw [hl] at hj
    rw [getD_take hj]
    exact hS.ty j (by omega)
  · rw [hl] at hj
    rw [depL_take T hj hn]
    exact hS.dep j (by omega)
  · rw [hl]
    have hap := names_apart (R := R) (fun k hk => by
      have := hS.root k hk
      unfold rootOk at this
      simp only [Bool.and_eq_true] at this
      exact of_decide_eq_true this.2)
    have hap2 : (rtF n R).Pairwise (fun a b => a.name ≠ b.name) := hap.sublist (List.filter_sublist)
    have hle := rtF_le n R
    have h256 := hS.root j (by omega)
    unfold rootOk at h256
    simp only [Bool.and_eq_true] at h256
    have hm : (rtF n R).getD j rt0 ∈ rtF n R := by
      rw [List.getD_eq_getElem?_getD, List.getElem?_eq_getElem hj]
      exact List.getElem_mem hj
    have hmR := (List.mem_filter.1 hm)
    obtain ⟨k, hk, hke⟩ := List.getElem_of_mem hmR.1
    have hrk := hS.root k hk
    unfold rootOk at hrk
    rw [show R.getD k rt0 = (rtF n R).getD j rt0 by rw [← hke, List.getD_eq_getElem?_getD, List.getElem?_eq_getElem hk]; rfl] at hrk
    simp only [Bool.and_eq_true] at hrk
    have hty := of_decide_eq_true hmR.2
    have hin := of_decide_eq_true hrk.1.2
    unfold rootOk
    rw [names_find hap2 j hj]
    simp only [Bool.and_eq_true]
    exact ⟨⟨⟨h256.1.1.1, hrk.1.1.2⟩, decide_eq_true ⟨hin.1, hty⟩⟩, by simp⟩
theorem lowA_ok {T : List Ty} {R : List Rt} (h : lowA T R = 0) : OkS T R ∧ bigX (extL T) = false ∧ (lowC T (extL T) T.length).length ≤ 1048576 := by
  unfold lowA at h
  by_cases h1 : (chk T R).1 ≠ 0
  · rw [if_pos h1] at h; cases h
  rw [if_neg h1] at h
  by_cases h2 : bigX (extL T) = true
  · rw [if_pos h2] at h; cases h
  rw [if_neg h2] at h
  by_cases h3 : 1048576 < (lowC T (extL T) T.length).length
  · rw [if_pos h3] at h; cases h
  exact ⟨okS_of (by omega), by simpa using h2, by omega⟩
theorem lowA_of {T : List Ty} {R : List Rt} (h1 : OkS T R) (h2 : bigX (extL T) = false) (h3 : (lowC T (extL T) T.length).length ≤ 1048576) : lowA T R = 0 := by
  unfold lowA
  rw [if_neg (by rw [h1.chk]; simp), if_neg (by rw [h2]; decide), if_neg (by omega)]
/-- Of fewer types the program is a front. -/
theorem low_front {T : List Ty} {R : List Rt} (h : lowA T R = 0) {n : Nat} (hn : n ≤ T.length) : (chk (T.take n) (rtF n R)).1 = 0 ∧ lowA (T.take n) (rtF n R) = 0 ∧ lowX (T.take n) (rtF n R) = lowC T (extL T) n ∧ lowY (T.take n) (rtF n R) = lowE T (extL T) n := by
  obtain ⟨hS, hb, hl⟩ := lowA_ok h
  have hS2 := rt_cut hS hn
  have hln : (T.take n).length = n := by rw [List.length_take]; omega
  have hc := lowC_take hS hn
  have hm := lowC_mono T (extL T) n (T.length - n)
  rw [show n + (T.length - n) = T.length by omega] at hm
  have hA : lowA (T.take n) (rtF n R) = 0 := lowA_of hS2 (by
    rw [extL_take T n hn]
    unfold bigX at hb ⊢
    rw [List.any_eq_false] at hb ⊢
    exact fun x hx => hb x (List.mem_of_mem_take hx)) (by rw [hln, hc n (Nat.le_refl _)]; omega)
  refine ⟨by rw [hS2.chk], hA, ?_, ?_⟩
  · unfold lowX
    rw [if_pos hA, hln, hc n (Nat.le_refl _)]
  · unfold lowY
    rw [if_pos hA, hln]
    unfold lowE
    refine List.map_congr_left (fun j hj => ?_)
    rw [hc j (by have := List.mem_range.1 hj; omega)]
end Go.Proofs.Ytepmgbfdmbogiaa
/- LowerFront: its walk. -/
namespace Go.Proofs.Ytepmgbfdmbogiaa
open Go.RowKit
set_option linter.unusedVariables false

theorem fldF (a b : Int) (w : World) : (Instr.field 37 (.agg #[.int .i64 a, .int .i64 b]) 0).run Try.prog w = .ok (.int .i64 a) w := by kernel_rfl
/-- A schema that is lent, as an argument. -/
theorem LtS.arg {w : World} {B gT cT gR cR n : Nat} {Q : List (Ty × Value)} {R : List Rt} {T : List Ty} (h : LtS w B gT cT Q gR cR R mkP mkT mkR) (hQ : Q.map (·.1) = T.take n) : TRow w (some ⟨gT, 0, none⟩) (T.take n) ∧ RRow w (some ⟨gR, 0, none⟩) R := by
  have := h.row
  rw [hQ] at this
  exact this
theorem LtS.base {w : World} {B B' gT cT gR cR : Nat} {Q : List (Ty × Value)} {R : List Rt} (h : LtS w B gT cT Q gR cR R mkP mkT mkR) (hb : B' ≤ B) : LtS w B' gT cT Q gR cR R mkP mkT mkR := by
  refine ⟨⟨own_base h.ty.1 hb, fun p hp => ?_⟩, fun p hp => ?_, own_base h.rt hb⟩
  · rcases List.mem_append.1 hp with hp | hp
    · exact (h.mks p hp).ptIn B'
    · simp only [List.mem_singleton] at hp
      subst hp
      exact ⟨none, 0, rfl, Nat.le_refl _, fun _ => rfl, .inl rfl, .inl rfl⟩
  · obtain ⟨g, c, e, h1, h2, h3, h4⟩ := h.mks p hp
    exact ⟨g, c, e, h1, h2, Nat.le_trans hb h3, h4⟩
/-- Blocks of other types may change. -/
theorem LtS.updT {w w' : World} {B gT cT gR cR g : Nat} {Q : List (Ty × Value)} {R : List Rt} {t : TypeId} {ys : List Value} (h : LtS w B gT cT Q gR cR R mkP mkT mkR) (hu : Upd (fun k => k = g) w w') (hb : Blk w g t ys) (hg : B ≤ g) (h1 : t ≠ 54) (h2 : t ≠ 56) (h3 : t ≠ 58) : LtS w' B gT cT Q gR cR R mkP mkT mkR :=
  ⟨h.ty.updS hu (fun k hk => by subst hk; exact hg) (fun k ys hk hb' => by subst hk; exact h2 (blk_type hb hb')) (fun k ys hk hb' => by subst hk; exact h1 (blk_type hb hb')), fun p hp => (h.mks p hp).upd hu (fun k ys hk hb' => by subst hk; exact h2 (blk_type hb hb')), h.rt.updN hu hb h3⟩
theorem take_parts {T : List Ty} {n : Nat} {b : Nat} (h : ∀ t ∈ T, t.ps.length ≤ b) : ∀ t ∈ T.take n, t.ps.length ≤ b := fun t ht => h t (List.mem_of_mem_take ht)
theorem lens_take {T : List Ty} {n : Nat} (hn : n ≤ 1000000000) (h : ∀ t ∈ T, t.ps.length ≤ 4398046510976) : LensT (T.take n) := ⟨by rw [List.length_take]; omega, fun t ht => by have := take_parts h t ht; omega⟩
theorem blkS2 {w : World} {g : Nat} {t : TypeId} {x y : Value} (h : Blk w g t [x, y]) (x' y' : Value) : Blk ((w.setCell ⟨g, 0, none⟩ x').setCell ⟨g, 1, none⟩ y') g t [x', y'] := by
  have := (h.set 0 x').set 1 y'
  simpa using this
theorem tmod_in (a b : Int) (h : 0 < b) : -b < a.tmod b ∧ a.tmod b < b := ⟨by have := Int.lt_tmod_of_pos a h; omega, Int.tmod_lt_of_pos a h⟩
set_option maxRecDepth 100000 in
set_option maxHeartbeats 8000000 in
theorem front_any (aT : Option Addr) (cT : Nat) (T : List Ty) (aR : Option Addr) (cR : Nat) (R : List Rt) (nn : Int) (w : World) (hnn : -9223372036854775808 ≤ nn ∧ nn ≤ 9223372036854775807) (hTl : T.length ≤ 1000000000000000) (hRl : R.length ≤ 5864062014634) (hl : Hid (∀ t ∈ T, t.ps.length ≤ 4398046510976)) (hT : Hid (TRow w aT T)) (hR : Hid (RRow w aR R)) :
    Calls Try.prog 3 #[.agg #[.slice aT T.length cT, .slice aR R.length cR], .int .i64 nn] w fun e w' => e = .returned (.bool true) ∧ Below w.heap.size w w' := by
  obtain ⟨w1, hw1⟩ : ∃ wx, wx = w.alloc (.cells #[.slice aT T.length cT, .slice aR R.length cR] 25) := ⟨_, rfl⟩
  have hB1 : Below w.heap.size w w1 := by rw [hw1]; exact below1 _ _
  have k1 : Blk w1 w.heap.size 25 [.slice aT T.length cT, .slice aR R.length cR] := by rw [hw1]; exact Blk.newA w _ _
  have HAw := hide_ (awake_any w1)
  have HB1 := hide_ hB1
  have K1 := hide_ k1
  clear hB1 k1
  go_enter Try.func3, Try.ntmps3
  go_upto_region 1 with fail
  rw [← hw1]
  clear hw1
  go_upto_region 3 with (go_at_call 6; refine HAw.out.mono ?_; rintro e w2 ⟨rfl, hB2⟩)
  have HB2 := hide_ (below_to HB1.out hB2)
  have K2 := hide_ (K1.out.later hB2)
  obtain ⟨m, hm⟩ : ∃ m, min 2000 T.length = m := ⟨_, rfl⟩
  have hm2 : m ≤ 2000 := by omega
  have hmT : m ≤ T.length := by omega
  have HCu := hide_ (cut_any aT cT T aR cR R 2000 m w2 hm (by omega) (by omega) hRl hl (hide_ (hT.out.later HB2.out)) (hide_ (hR.out.later HB2.out)))
  have s0 := K2.out.cell 0; have s1 := K2.out.cell 1
  simp at s0 s1
  clear hB2 HAw HB1 K1 hm
  go_wp2_with fail
  refine HCu.out.mono ?_
  rintro e w3 ⟨gT, cT3, Q, gR, cR3, rfl, HL3, HQ3, HB3⟩
  have k3 := K2.out.later HB3.out
  have t0 := k3.cell 0; have t1 := k3.cell 1
  have tz := fun i => k3.frozen i
  simp at t0 t1
  obtain ⟨w4, hw4⟩ : ∃ wx, wx = (w3.setCell ⟨w.heap.size, 0, none⟩ (.slice (some ⟨gT, 0, none⟩) m cT3)).setCell ⟨w.heap.size, 1, none⟩ (.slice (some ⟨gR, 0, none⟩) (rtF m R).length cR3) := ⟨_, rfl⟩
  have K4 : Hid (Blk w4 w.heap.size 25 [.slice (some ⟨gT, 0, none⟩) m cT3, .slice (some ⟨gR, 0, none⟩) (rtF m R).length cR3]) := hide_ (by rw [hw4]; exact blkS2 k3 _ _)
  have hu4 : Upd (fun k => k = w.heap.size) w3 w4 := by rw [hw4]; exact ((Upd.refl (fun k => k = w.heap.size) w3).set _ _ (.inl rfl)).set _ _ (.inl rfl)
  have HL4 : Hid (LtS w4 w.heap.size gT cT3 Q gR cR3 (rtF m R) mkP mkT mkR) := hide_ ((HL3.out.base HB2.out.size).updT hu4 k3 (Nat.le_refl _) (by decide) (by decide) (by decide))
  have HB4 : Hid (Below w.heap.size w w4) := hide_ ((below_to HB2.out HB3.out).trans (hu4.below _ (below_to HB2.out HB3.out).size (fun k hk => by omega)))
  clear hu4 k3 HL3 HB3 HCu s0 s1 K2 HB2
  go_upto_region 4 with fail
  rw [← hw4]
  clear hw4 t0 t1 tz
  have hRm : (rtF m R).length ≤ 5864062014634 := Nat.le_trans (rtF_le m R) hRl
  obtain ⟨U, hU⟩ : ∃ U, U = T.take m := ⟨_, rfl⟩
  have hUl : U.length = m := by rw [hU, List.length_take]; omega
  have HUp : Hid (∀ t ∈ U, t.ps.length ≤ 4398046510976) := hide_ (by rw [hU]; exact take_parts hl.out)
  have HUL : Hid (LensT U) := hide_ (by rw [hU]; exact lens_take (by omega) hl.out)
  have HRw : Hid (TRow w4 (some ⟨gT, 0, none⟩) U ∧ RRow w4 (some ⟨gR, 0, none⟩) (rtF m R)) := hide_ (by rw [hU]; exact HL4.out.arg HQ3.out)
  generalize rtF m R = S at *
  have hd := decoder_any (some ⟨gT, 0, none⟩) cT3 U (some ⟨gR, 0, none⟩) cR3 S w4 (by omega) (by omega) HUL (hide_ HRw.out.1) (hide_ HRw.out.2)
  rw [hUl] at hd
  have HD := hide_ hd
  have HUl := hide_ hUl
  clear hd hU HL4 HQ3 hUl hmT
  have s0 := K4.out.cell 0; have s1 := K4.out.cell 1
  simp at s0 s1
  go_wp2_with fail
  refine HD.out.mono ?_
  rintro e w5 ⟨vC, vE, rfl, HC5, HE5, hB5⟩
  obtain ⟨ac, cc, rfl, -, -, -⟩ := HC5.out.row
  obtain ⟨ae, ce, rfl, -, -, -⟩ := HE5.out.row
  obtain ⟨w6, hw6⟩ : ∃ wx, wx = w5.alloc (.cells #[.bool false, .slice ac (lowX U S).length cc, .slice ae (lowY U S).length ce] 31) := ⟨_, rfl⟩
  have hB6 : Below w5.heap.size w5 w6 := by rw [hw6]; exact below1 _ _
  have KP6 : Hid (Blk w6 w5.heap.size 31 [.bool false, .slice ac (lowX U S).length cc, .slice ae (lowY U S).length ce]) := hide_ (by rw [hw6]; exact Blk.newA w5 _ _)
  have HB46 := hide_ (below_to hB5 hB6)
  have HC6 := hide_ (HC5.out.later hB6)
  have HE6 := hide_ (HE5.out.later hB6)
  have K6 := hide_ (K4.out.later HB46.out)
  have HB6 := hide_ (below_to HB4.out HB46.out)
  clear HD hB5 hB6 HC5 HE5 s0 s1 K4
  have HLf : Hid (lowA U S = 0 → ∀ q, q ≤ U.length → (chk (U.take q) (rtF q S)).1 = 0 ∧ lowA (U.take q) (rtF q S) = 0 ∧ lowX (U.take q) (rtF q S) = lowC U (extL U) q ∧ lowY (U.take q) (rtF q S) = lowE U (extL U) q) := hide_ (fun h q hq => low_front h hq)
  have HNu := hide_ (fun n w' => num_any n w')
  go_upto_region 5 with fail
  rw [← hw6]
  clear hw6
  obtain ⟨g5, hg5⟩ : ∃ g, g = w5.heap.size := ⟨_, rfl⟩
  rw [← hg5] at KP6 ⊢
  clear hg5
  have s0 := K6.out.cell 0
  simp at s0
  by_cases hA : lowA U S = 0
  · rw [hA]
    by_cases h0 : m = 0
    · have h0' : ((m : Int) == 0) = true := by simp [h0]
      clear h0
      go_wp2_with (go_at_call 9; refine (HNu.out _ _).mono ?_; rintro e w' ⟨rfl, rfl⟩)
      go_ret
      exact ⟨rfl, HB6.out⟩
    have h0' : ((m : Int) == 0) = false := by rw [beq_eq_false_iff_ne]; omega
    obtain ⟨q1, q2⟩ := tmod_in nn ((m : Int) + 1) (by omega)
    have hz : ((m : Int) + 1 == 0) = false := by rw [beq_eq_false_iff_ne]; omega
    obtain ⟨tq, htq⟩ : ∃ tq, nn.tmod ((m : Int) + 1) = tq := ⟨_, rfl⟩
    rw [htq] at q1 q2
    go_upto_region 8 with (go_at_call 9; refine (HNu.out _ _).mono ?_; rintro e w' ⟨rfl, rfl⟩)
    go_upto_if 37 with fail
    go_cut [1] from 38 to 43 (fun x1 wc => ∃ q : Nat, x1 = .int .i64 (q : Int) ∧ q ≤ m ∧ w6 = wc)
    case first =>
      by_cases hn : tq < 0
      · obtain ⟨q, hq⟩ : ∃ q : Nat, tq + (m : Int) + 1 = (q : Int) := ⟨(tq + (m : Int) + 1).toNat, by omega⟩
        have hql : q ≤ m := by omega
        go_wp2_with fail
        go_meet
        case rel => exact ⟨q, rfl, hql, rfl⟩
      · obtain ⟨q, hq⟩ : ∃ q : Nat, tq = (q : Int) := ⟨tq.toNat, by omega⟩
        have hql : q ≤ m := by omega
        subst hq
        go_wp2_with fail
        go_meet
        case rel => exact ⟨q, rfl, hql, rfl⟩
    case rest =>
    obtain ⟨q, rfl, hql, rfl⟩ := hcut
    clear htq q1 q2 hz h0 h0' s0
    obtain ⟨F1, F2, F3, F4⟩ := HLf.out hA q (by rw [HUl.out]; exact hql)
    have hcu := cut_any (some ⟨gT, 0, none⟩) cT3 U (some ⟨gR, 0, none⟩) cR3 S q q w6 (by rw [HUl.out]; omega) (by omega) (by rw [HUl.out]; omega) hRm HUp (hide_ (HRw.out.1.later HB46.out)) (hide_ (HRw.out.2.later HB46.out))
    rw [HUl.out] at hcu
    have HCu := hide_ hcu
    have s0 := K6.out.cell 0; have s1 := K6.out.cell 1
    simp at s0 s1
    clear hcu HLf
    go_wp2_with fail
    refine HCu.out.mono ?_
    rintro e w7 ⟨gT2, cT7, Q2, gR2, cR7, rfl, HL7, HQ7, HB7⟩
    obtain ⟨w8, hw8⟩ : ∃ wx, wx = w7.alloc (.cells #[.slice (some ⟨gT2, 0, none⟩) q cT7, .slice (some ⟨gR2, 0, none⟩) (rtF q S).length cR7] 25) := ⟨_, rfl⟩
    have hB8 : Below w7.heap.size w7 w8 := by rw [hw8]; exact below1 _ _
    have K8 : Hid (Blk w8 w7.heap.size 25 [.slice (some ⟨gT2, 0, none⟩) q cT7, .slice (some ⟨gR2, 0, none⟩) (rtF q S).length cR7]) := hide_ (by rw [hw8]; exact Blk.newA w7 _ _)
    have HRw8 := hide_ ((HL7.out.later hB8).arg HQ7.out)
    have HB68 := hide_ (below_to HB7.out hB8)
    have hRq : (rtF q S).length ≤ 5864062014634 := Nat.le_trans (rtF_le q S) hRm
    have hVl : (U.take q).length = q := by rw [List.length_take, HUl.out]; omega
    have HVL : Hid (LensT (U.take q)) := hide_ (lens_take (by omega) HUp.out)
    clear HL7 HQ7 HB7 hB8 HCu s0 s1 HRw
    go_upto_region 11 with fail
    rw [← hw8]
    clear hw8
    obtain ⟨g8, hg8⟩ : ∃ g, g = w7.heap.size := ⟨_, rfl⟩
    rw [← hg8] at K8 ⊢
    clear hg8
    have hd := decoder_any (some ⟨gT2, 0, none⟩) cT7 (U.take q) (some ⟨gR2, 0, none⟩) cR7 (rtF q S) w8 (by omega) (by omega) HVL (hide_ HRw8.out.1) (hide_ HRw8.out.2)
    unfold DcTo at hd
    rw [hVl, F2, F3, F4] at hd
    have hck := fun w' (hb : Below w8.heap.size w8 w') => check_any (some ⟨gT2, 0, none⟩) cT7 (U.take q) (some ⟨gR2, 0, none⟩) cR7 (rtF q S) w' (by omega) (by omega) HVL (hide_ (HRw8.out.1.later hb)) (hide_ (HRw8.out.2.later hb))
    simp only [hVl, F1] at hck
    have HD := hide_ hd
    have HCk := hide_ hck
    have HX6 : Hid (lowX U S = lowC U (extL U) m ∧ lowY U S = lowE U (extL U) m) := hide_ (by unfold lowX lowY; rw [if_pos hA, if_pos hA, HUl.out]; exact ⟨rfl, rfl⟩)
    clear hd hck F1 F2 F3 F4 hVl
    rw [HX6.out.1] at HC6
    rw [HX6.out.2] at HE6
    rw [HX6.out.1, HX6.out.2] at KP6 ⊢
    generalize rtF q S = S2 at *
    generalize (chk (U.take q) S2).2 = ck2 at *
    have s0 := K8.out.cell 0; have s1 := K8.out.cell 1
    simp at s0 s1
    go_wp2_with fail
    refine HD.out.mono ?_
    rintro e w9 ⟨vC9, vE9, rfl, HC9, HE9, hB9⟩
    obtain ⟨ac9, cc9, rfl, -, -, -⟩ := HC9.out.row
    obtain ⟨ae9, ce9, rfl, -, -, -⟩ := HE9.out.row
    rw [lowE_len] at HE9 HE6 KP6 ⊢
    have hmono := lowC_mono U (extL U) q (m - q)
    have hpre := lowC_front U (extL U) q (m - q)
    rw [show q + (m - q) = m by omega] at hmono hpre
    have HEq : Hid (∀ (i : Nat), i < q → (lowE U (extL U) q)[i]? = some ((lowC U (extL U) i).length : Int)) := hide_ (fun i hi => by unfold lowE; rw [List.getElem?_map, List.getElem?_range hi]; rfl)
    have HEm : Hid (∀ (i : Nat), i < m → (lowE U (extL U) m)[i]? = some ((lowC U (extL U) i).length : Int)) := hide_ (fun i hi => by unfold lowE; rw [List.getElem?_map, List.getElem?_range hi]; rfl)
    have HPre := hide_ hpre
    have HlC : Hid (∀ i, i ≤ q → (lowC U (extL U) i).length ≤ 1048576) := hide_ (fun i hi => by
      obtain ⟨-, -, h3⟩ := lowA_ok hA
      have := lowC_mono U (extL U) i (U.length - i)
      rw [show i + (U.length - i) = U.length by rw [HUl.out]; omega] at this
      omega)
    have hcq := HlC.out q (Nat.le_refl _)
    obtain ⟨lq, hlq⟩ : ∃ l, (lowC U (extL U) q).length = l := ⟨_, rfl⟩
    have HLq := hide_ hlq
    obtain ⟨lm, hlm⟩ : ∃ l, (lowC U (extL U) m).length = l := ⟨_, rfl⟩
    have HLm := hide_ hlm
    rw [hlq] at hmono HC9 hcq ⊢
    rw [hlm] at hmono HC6 KP6
    have hng : ¬ ((lm : Nat) : Int) < ((lq : Nat) : Int) := by omega
    obtain ⟨w10, hw10⟩ : ∃ wx, wx = w9.alloc (.cells #[.bool false, .slice ac9 lq cc9, .slice ae9 q ce9] 31) := ⟨_, rfl⟩
    have hB10 : Below w9.heap.size w9 w10 := by rw [hw10]; exact below1 _ _
    have KQ : Hid (Blk w10 w9.heap.size 31 [.bool false, .slice ac9 lq cc9, .slice ae9 q ce9]) := hide_ (by rw [hw10]; exact Blk.newA w9 _ _)
    have HC10 := hide_ (HC9.out.later hB10)
    have HE10 := hide_ (HE9.out.later hB10)
    have HB810 := hide_ (below_to hB9 hB10)
    have HB610 := hide_ (below_to HB68.out HB810.out)
    have KP := hide_ (KP6.out.later HB610.out)
    have HCp := hide_ (HC6.out.later HB610.out)
    have HEp := hide_ (HE6.out.later HB610.out)
    have KS := hide_ (K6.out.later HB610.out)
    have KC := hide_ (K8.out.later HB810.out)
    have HB10 := hide_ (below_to HB6.out HB610.out)
    clear hpre hlq hlm s0 s1 HD HC9 HE9 hB9 hB10 KP6 HC6 HE6 K6 K8 HX6
    go_upto_region 12 with fail
    rw [← hw10]
    clear hw10
    obtain ⟨g10, hg10⟩ : ∃ g, g = w9.heap.size := ⟨_, rfl⟩
    rw [← hg10] at KQ ⊢
    clear hg10
    have c0 := KC.out.cell 0; have c1 := KC.out.cell 1
    simp at c0 c1
    have hfl := fun w' => fldF 0 ck2 w'
    go_wp2_with fail
    refine (HCk.out _ HB810.out).mono ?_
    rintro e w11 ⟨rfl, hB11⟩
    have HB11 := hide_ hB11
    have KQ11 := hide_ (KQ.out.later hB11)
    have KP11 := hide_ (KP.out.later hB11)
    have HC11 := hide_ (HC10.out.later hB11)
    have HE11 := hide_ (HE10.out.later hB11)
    have HCp11 := hide_ (HCp.out.later hB11)
    have HEp11 := hide_ (HEp.out.later hB11)
    have KS11 := hide_ (KS.out.later hB11)
    have HBf := hide_ (below_to HB10.out hB11)
    have u1 := KQ11.out.cell 1; have u2 := KQ11.out.cell 2; have v1 := KP11.out.cell 1; have v2 := KP11.out.cell 2
    simp at u1 u2 v1 v2
    clear hB11 c0 c1 KQ KP HC10 HE10 HCp HEp KS HB10 HB11 HCk KC
    go_upto_region 14 with (go_at_call 9; refine (HNu.out _ _).mono ?_; rintro e w' ⟨rfl, rfl⟩)
    clear hfl u1 u2 v1 v2
    go_wp2_with fail
    go_loopw [10] (fun x10 wr => ∃ (i : Nat), i ≤ lq ∧ x10 = .int .i64 (i : Int) ∧ Hid (Below w11.heap.size w11 wr)) (fun x10 _ => lq - (intOf x10).toNat)
    case atStart => exact ⟨0, Nat.zero_le _, rfl, hide_ (Below.refl _ _)⟩
    case round =>
      obtain ⟨i, hi, rfl, HB⟩ := hrel
      generalize wr = wq at *
      have u1 := (KQ11.out.later HB.out).cell 1; have v1 := (KP11.out.later HB.out).cell 1
      simp at u1 v1
      by_cases hlt : i < lq
      · have hlt' : (i : Int) < (lq : Int) := by omega
        have hltm' : (i : Int) < (lm : Int) := by omega
        obtain ⟨x, hx⟩ : ∃ x, (lowC U (extL U) q)[i]? = some x := ⟨_, List.getElem?_eq_getElem (by rw [HLq.out]; exact hlt)⟩
        have hxm : (lowC U (extL U) m)[i]? = some x := by
          obtain ⟨t, ht⟩ := HPre.out
          rw [← ht, List.getElem?_append_left (by rw [HLq.out]; exact hlt)]
          exact hx
        obtain ⟨b1, o1, rfl, -, h1⟩ := (HC11.out.later HB.out).rowS.open (by rw [HLq.out]; omega)
        obtain ⟨b2, o2, rfl, -, h2⟩ := (HCp11.out.later HB.out).rowS.open (by rw [HLm.out]; omega)
        have a0 := h1 i x hx 0 (by decide); have a1 := h1 i x hx 1 (by decide); have a2 := h1 i x hx 2 (by decide); have a3 := h1 i x hx 3 (by decide)
        have b0 := h2 i x hxm 0 (by decide); have b1' := h2 i x hxm 1 (by decide); have b2' := h2 i x hxm 2 (by decide); have b3 := h2 i x hxm 3 (by decide)
        simp [inc] at a0 a1 a2 a3 b0 b1' b2' b3
        clear h1 h2 hx hxm
        go_upto_region 17 with fail
        go_quiet (fail)
        have HBq : ∀ k, Hid (Below w11.heap.size w11 (wq.drewN k)) := fun k => hide_ (below_drewN HB.out k)
        go_wp2_with fail
        go_roundw
        case rel => exact ⟨i + 1, by omega, by go_num, HBq _⟩
        case measure => simp [intOf]; omega
      · obtain rfl : lq = i := by omega
        clear hlt hi
        have HBq := HB
        go_upto_region 20 with fail
        clear u1 v1
        go_loopw [11] (fun x11 wr => ∃ (i : Nat), i ≤ q ∧ x11 = .int .i64 (i : Int) ∧ Hid (Below w11.heap.size w11 wr)) (fun x11 _ => q - (intOf x11).toNat)
        case atStart => exact ⟨0, Nat.zero_le _, rfl, HBq⟩
        case round =>
          obtain ⟨i, hi, rfl, HB2⟩ := hrel
          generalize wr = wz at *
          clear HB HBq
          have u1 := (KQ11.out.later HB2.out).cell 1; have u2 := (KQ11.out.later HB2.out).cell 2; have v1 := (KP11.out.later HB2.out).cell 1; have v2 := (KP11.out.later HB2.out).cell 2
          have z0 := (KS11.out.later HB2.out).cell 0
          simp at u1 u2 v1 v2 z0
          by_cases hlt : i < q
          · have hlt' : (i : Int) < (q : Int) := by omega
            have hltm' : (i : Int) < (m : Int) := by omega
            obtain ⟨b1, o1, rfl, -, h1⟩ := (HE11.out.later HB2.out).rowS.open (by rw [lowE_len]; omega)
            obtain ⟨b2, o2, rfl, -, h2⟩ := (HEp11.out.later HB2.out).rowS.open (by rw [lowE_len]; omega)
            have a0 := h1 i (by rw [lowE_len]; omega); have b0 := h2 i (by rw [lowE_len]; omega)
            rw [List.getD, HEq.out i hlt] at a0
            rw [List.getD, HEm.out i (by omega)] at b0
            simp only [Option.getD_some] at a0 b0
            clear h1 h2 u1 v1 z0
            generalize (lowC U (extL U) i).length = le at *
            go_upto_region 22 with fail
            go_quiet (fail)
            have HBq : ∀ k, Hid (Below w11.heap.size w11 (wz.drewN k)) := fun k => hide_ (below_drewN HB2.out k)
            go_wp2_with fail
            go_roundw
            case rel => exact ⟨i + 1, by omega, by go_num, HBq _⟩
            case measure => simp [intOf]; omega
          · obtain rfl : q = i := by omega
            clear hlt hi
            have HBz := hide_ (below_to HBf.out HB2.out)
            by_cases hqm : q = m
            · have hqm' : ((q : Int) == (m : Int)) = true := by simp [hqm]
              clear hqm
              go_upto_region 24 with fail
              go_quiet (fail)
              have HBq : ∀ k, Hid (Below w.heap.size w (wz.drewN k)) := fun k => hide_ (below_drewN HBz.out k)
              go_wp2_with fail
              go_ret
              exact ⟨rfl, (HBq _).out⟩
            · have hqm' : ((q : Int) == (m : Int)) = false := by rw [beq_eq_false_iff_ne]; omega
              have hltm' : (q : Int) < (m : Int) := by omega
              obtain ⟨b2, o2, rfl, -, h2⟩ := (HEp11.out.later HB2.out).rowS.open (by rw [lowE_len]; omega)
              have b0 := h2 q (by rw [lowE_len]; omega)
              rw [List.getD, HEm.out q (by omega)] at b0
              simp only [Option.getD_some] at b0
              rw [HLq.out] at b0
              clear h2 hqm u2 v1
              go_upto_region 24 with fail
              go_quiet (fail)
              have HBq : ∀ k, Hid (Below w.heap.size w (wz.drewN k)) := fun k => hide_ (below_drewN HBz.out k)
              go_wp2_with fail
              go_ret
              exact ⟨by simp, (HBq _).out⟩
  · have hA' : (lowA U S != 0) = true := by simpa using hA
    have hA2 : (lowA U S == 0) = false := by simpa using hA
    generalize lowA U S = eA at *
    go_wp2_with (go_at_call 9; refine (HNu.out _ _).mono ?_; rintro e w' ⟨rfl, rfl⟩)
    go_ret
    exact ⟨rfl, HB6.out⟩
end Go.Proofs.Ytepmgbfdmbogiaa
/- LowerApart: its walk. -/
namespace Go.Proofs.Ytepmgbfdmbogiaa
open Go.RowKit
set_option linter.unusedVariables false

/-- The first i are written over with marks of their own. -/
def MkC (n k i : Nat) (C : List In) : Prop := C.length = n ∧ ∀ j, j < i → C[j]? = some ⟨-(k : Int) - 1, (j : Int), 0, 0⟩
def MkE (m k i : Nat) (E : List Int) : Prop := E.length = m ∧ ∀ j, j < i → E[j]? = some (-(k : Int) - 1)
theorem MkC.set {n k i : Nat} {C : List In} (h : MkC n k i C) (hi : i < n) : MkC n k (i + 1) (C.set i ⟨-(k : Int) - 1, (i : Int), 0, 0⟩) := by
  refine ⟨by rw [List.length_set]; exact h.1, fun j hj => ?_⟩
  by_cases e : j = i
  · subst e; rw [List.getElem?_set_self (by rw [h.1]; exact hi)]
  · rw [List.getElem?_set_ne (fun h => e h.symm)]; exact h.2 j (by omega)
theorem MkE.set {m k i : Nat} {E : List Int} (h : MkE m k i E) (hi : i < m) : MkE m k (i + 1) (E.set i (-(k : Int) - 1)) := by
  refine ⟨by rw [List.length_set]; exact h.1, fun j hj => ?_⟩
  by_cases e : j = i
  · subst e; rw [List.getElem?_set_self (by rw [h.1]; exact hi)]
  · rw [List.getElem?_set_ne (fun h => e h.symm)]; exact h.2 j (by omega)
theorem MkC.app {n k : Nat} {C : List In} (h : MkC n k n C) : MkC (n + 1) k (n + 1) (C ++ [⟨-(k : Int) - 1, (n : Int), 0, 0⟩]) := by
  refine ⟨by simp [h.1], fun j hj => ?_⟩
  by_cases e : j = n
  · subst e; rw [List.getElem?_append_right (by rw [h.1]; exact Nat.le_refl _), h.1]; simp
  · rw [List.getElem?_append_left (by rw [h.1]; omega)]; exact h.2 j (by omega)
theorem MkE.app {m k : Nat} {E : List Int} (h : MkE m k m E) : MkE (m + 1) k (m + 1) (E ++ [-(k : Int) - 1]) := by
  refine ⟨by simp [h.1], fun j hj => ?_⟩
  by_cases e : j = m
  · subst e; rw [List.getElem?_append_right (by rw [h.1]; exact Nat.le_refl _), h.1]; simp
  · rw [List.getElem?_append_left (by rw [h.1]; omega)]; exact h.2 j (by omega)
def vuP (p : Pg) : Value × Value := (p.v, p.u)
/-- The programs while they are written over: those below k whole, number k up to i and i'. -/
def LkA (n m k i i' : Nat) (L : List Pg) : Prop := ∀ j p, L[j]? = some p → p.v2 = .slice none 0 0 ∧ p.u2 = .slice none 0 0 ∧ p.C.length = n ∧ p.E.length = m ∧ (j < k → MkC n j n p.C ∧ MkE m j m p.E) ∧ (j = k → MkC n j i p.C ∧ MkE m j i' p.E)
/-- The programs while they are made longer: those below k are. -/
def LkB (n m k : Nat) (IL NL : List Value) (L : List Pg) : Prop := (∀ j p, L[j]? = some p → MkC n j n p.C ∧ MkE m j m p.E ∧ (k ≤ j → p.v2 = .slice none 0 0 ∧ p.u2 = .slice none 0 0) ∧ (j < k → IL[j]? = some p.v2 ∧ NL[j]? = some p.u2 ∧ MkC (n + 1) j (n + 1) p.C2 ∧ MkE (m + 1) j (m + 1) p.E2))
theorem vu_at {L : List Pg} {VL : List (Value × Value)} {k : Nat} {p : Pg} (h : L.map vuP = VL) (hk : L[k]? = some p) : VL[k]? = some (p.v, p.u) := by
  rw [← h, List.getElem?_map, hk]; rfl
theorem vu_set {L : List Pg} {VL : List (Value × Value)} {k : Nat} {p p' : Pg} (h : L.map vuP = VL) (hk : L[k]? = some p) (h1 : p'.v = p.v) (h2 : p'.u = p.u) : (L.set k p').map vuP = VL := by
  rw [List.map_set, ← h]
  apply List.ext_getElem?
  intro j
  have hkl := (List.getElem?_eq_some_iff.1 hk).1
  by_cases e : j = k
  · subst e
    rw [List.getElem?_set_self (by rw [List.length_map]; exact hkl), List.getElem?_map, hk]
    simp [vuP, h1, h2]
  · rw [List.getElem?_set_ne (fun h => e h.symm)]
theorem at_set {L : List Pg} {k : Nat} {p' : Pg} (hk : k < L.length) {j : Nat} {q : Pg} (h : (L.set k p')[j]? = some q) : (j = k ∧ q = p') ∨ (j ≠ k ∧ L[j]? = some q) := by
  by_cases e : j = k
  · subst e
    rw [List.getElem?_set_self hk] at h
    injection h with h
    exact .inl ⟨rfl, h.symm⟩
  · rw [List.getElem?_set_ne (fun h => e h.symm)] at h
    exact .inr ⟨e, h⟩
set_option maxRecDepth 100000 in
set_option maxHeartbeats 16000000 in
theorem lapart_any (aT : Option Addr) (cT : Nat) (T : List Ty) (aR : Option Addr) (cR : Nat) (R : List Rt) (w : World) (hTl : T.length ≤ 1000000000000000) (hRl : R.length ≤ 5864062014634) (hl : Hid (∀ t ∈ T, t.ps.length ≤ 4398046510976)) (hT : Hid (TRow w aT T)) (hR : Hid (RRow w aR R)) :
    Calls Try.prog 4 #[.agg #[.slice aT T.length cT, .slice aR R.length cR]] w fun e w' => e = .returned (.bool true) ∧ Below w.heap.size w w' := by
  obtain ⟨w1, hw1⟩ : ∃ wx, wx = w.alloc (.cells #[.slice aT T.length cT, .slice aR R.length cR] 25) := ⟨_, rfl⟩
  have hB1 : Below w.heap.size w w1 := by rw [hw1]; exact below1 _ _
  have k1 : Blk w1 w.heap.size 25 [.slice aT T.length cT, .slice aR R.length cR] := by rw [hw1]; exact Blk.newA w _ _
  have HAw := hide_ (awake_any w1)
  have HB1 := hide_ hB1
  have K1 := hide_ k1
  clear hB1 k1
  go_enter Try.func4, Try.ntmps4
  go_upto_region 1 with fail
  rw [← hw1]
  clear hw1
  go_upto_region 3 with (go_at_call 6; refine HAw.out.mono ?_; rintro e w2 ⟨rfl, hB2⟩)
  have HB2 := hide_ (below_to HB1.out hB2)
  have K2 := hide_ (K1.out.later hB2)
  obtain ⟨m, hm⟩ : ∃ m, min 300 T.length = m := ⟨_, rfl⟩
  have hm2 : m ≤ 300 := by omega
  have hmT : m ≤ T.length := by omega
  have HCu := hide_ (cut_any aT cT T aR cR R 300 m w2 hm (by omega) (by omega) hRl hl (hide_ (hT.out.later HB2.out)) (hide_ (hR.out.later HB2.out)))
  have s0 := K2.out.cell 0; have s1 := K2.out.cell 1
  simp at s0 s1
  clear hB2 HAw HB1 K1 hm
  go_wp2_with fail
  refine HCu.out.mono ?_
  rintro e w3 ⟨gT, cT3, Q, gR, cR3, rfl, HL3, HQ3, HB3⟩
  have k3 := K2.out.later HB3.out
  have t0 := k3.cell 0; have t1 := k3.cell 1
  have tz := fun i => k3.frozen i
  simp at t0 t1
  obtain ⟨w4, hw4⟩ : ∃ wx, wx = (w3.setCell ⟨w.heap.size, 0, none⟩ (.slice (some ⟨gT, 0, none⟩) m cT3)).setCell ⟨w.heap.size, 1, none⟩ (.slice (some ⟨gR, 0, none⟩) (rtF m R).length cR3) := ⟨_, rfl⟩
  have K4 : Hid (Blk w4 w.heap.size 25 [.slice (some ⟨gT, 0, none⟩) m cT3, .slice (some ⟨gR, 0, none⟩) (rtF m R).length cR3]) := hide_ (by rw [hw4]; exact blkS2 k3 _ _)
  have hu4 : Upd (fun k => k = w.heap.size) w3 w4 := by rw [hw4]; exact ((Upd.refl (fun k => k = w.heap.size) w3).set _ _ (.inl rfl)).set _ _ (.inl rfl)
  have HL4 : Hid (LtS w4 w.heap.size gT cT3 Q gR cR3 (rtF m R) mkP mkT mkR) := hide_ ((HL3.out.base HB2.out.size).updT hu4 k3 (Nat.le_refl _) (by decide) (by decide) (by decide))
  have HB4 : Hid (Below w.heap.size w w4) := hide_ ((below_to HB2.out HB3.out).trans (hu4.below _ (below_to HB2.out HB3.out).size (fun k hk => by omega)))
  clear hu4 k3 HL3 HB3 HCu s0 s1 K2 HB2
  go_upto_region 4 with fail
  rw [← hw4]
  clear hw4 t0 t1 tz
  have hRm : (rtF m R).length ≤ 5864062014634 := Nat.le_trans (rtF_le m R) hRl
  obtain ⟨U, hU⟩ : ∃ U, U = T.take m := ⟨_, rfl⟩
  have hUl : U.length = m := by rw [hU, List.length_take]; omega
  have HUL : Hid (LensT U) := hide_ (by rw [hU]; exact lens_take (by omega) hl.out)
  have HRw : Hid (TRow w4 (some ⟨gT, 0, none⟩) U ∧ RRow w4 (some ⟨gR, 0, none⟩) (rtF m R)) := hide_ (by rw [hU]; exact HL4.out.arg HQ3.out)
  generalize rtF m R = S at *
  have HDc : Hid (∀ w', Below w4.heap.size w4 w' → Calls Try.prog 8 #[.agg #[.slice (some ⟨gT, 0, none⟩) m cT3, .slice (some ⟨gR, 0, none⟩) S.length cR3]] w' fun e w'' => DcTo U S w' e w'') := hide_ (fun w' hb => by
    have hd := decoder_any (some ⟨gT, 0, none⟩) cT3 U (some ⟨gR, 0, none⟩) cR3 S w' (by omega) (by omega) HUL (hide_ (HRw.out.1.later hb)) (hide_ (HRw.out.2.later hb))
    rw [hUl] at hd
    exact hd)
  have HLx : Hid ((lowX U S).length ≤ 1048576 ∧ (lowY U S).length ≤ 300) := hide_ (by
    by_cases hA : lowA U S = 0
    · obtain ⟨-, -, h3⟩ := lowA_ok hA
      unfold lowX lowY
      rw [if_pos hA, if_pos hA, lowE_len]
      exact ⟨h3, by omega⟩
    · unfold lowX lowY
      rw [if_neg hA, if_neg hA]
      simp)
  clear hU HL4 HQ3 hUl hmT HRw
  have s0 := K4.out.cell 0; have s1 := K4.out.cell 1
  simp at s0 s1
  go_wp2_with fail
  refine (HDc.out _ (Below.refl _ _)).mono ?_
  rintro e w5 ⟨vC, vE, rfl, HC5, HE5, hB5⟩
  obtain ⟨ac, cc, rfl, -, -, -⟩ := HC5.out.row
  obtain ⟨ae, ce, rfl, -, -, -⟩ := HE5.out.row
  obtain ⟨w6, hw6⟩ : ∃ wx, wx = w5.alloc (.cells #[.bool false, .slice ac (lowX U S).length cc, .slice ae (lowY U S).length ce] 31) := ⟨_, rfl⟩
  have hB6 : Below w5.heap.size w5 w6 := by rw [hw6]; exact below1 _ _
  have KW : Hid (Blk w6 w5.heap.size 31 [.bool false, .slice ac (lowX U S).length cc, .slice ae (lowY U S).length ce]) := hide_ (by rw [hw6]; exact Blk.newA w5 _ _)
  have HB46 := hide_ (below_to hB5 hB6)
  have HCW := hide_ (HC5.out.later hB6)
  have HEW := hide_ (HE5.out.later hB6)
  have KS := hide_ (K4.out.later HB46.out)
  have HB6 := hide_ (below_to HB4.out HB46.out)
  have HD6 : Hid (∀ w', Below w6.heap.size w6 w' → Calls Try.prog 8 #[.agg #[.slice (some ⟨gT, 0, none⟩) m cT3, .slice (some ⟨gR, 0, none⟩) S.length cR3]] w' fun e w'' => DcTo U S w' e w'') := hide_ (fun w' hb => HDc.out w' (below_to HB46.out hb))
  have HNu := hide_ (fun n w' => num_any n w')
  clear hB5 hB6 HC5 HE5 s0 s1 K4 HDc HB46 HB4
  go_upto_region 5 with fail
  rw [← hw6]
  clear hw6
  obtain ⟨gW, hgW⟩ : ∃ g, g = w5.heap.size := ⟨_, rfl⟩
  rw [← hgW] at KW ⊢
  clear hgW
  by_cases hA : lowA U S = 0
  · rw [hA]
    unfold DcTo at HD6
    rw [hA] at HD6
    have hX6 := HLx.out.1
    have hY6 := HLx.out.2
    generalize lowX U S = X at *
    generalize lowY U S = Y at *
    generalize S.length = sl at *
    clear hA HLx
    have HEq : Hid (∀ w' a b c d, Below w6.heap.size w6 w' → IRow w' a X → Row .i64 w' b Y → Calls Try.prog 11 #[.agg #[.bool false, .slice a X.length c, .slice b Y.length d], .agg #[.bool false, .slice ac X.length cc, .slice ae Y.length ce]] w' fun e w'' => e = .returned (.bool true) ∧ Below w'.heap.size w' w'') := hide_ (fun w' a b c d hb h1 h2 => by
      have h := requal_any false false a ac b ae c cc d ce X X Y Y w' (by omega) (by omega) (by omega) (by omega) (hide_ h1) (hide_ (HCW.out.later hb).rowS) (hide_ h2) (hide_ (HEW.out.later hb).rowS)
      rw [eqP_iff.2 ⟨rfl, rfl, rfl⟩] at h
      exact h)
    have HS0 : Hid (ApS w6 w6 (.slice none 0 0) [] (.slice none 0 0) [] (.slice none 0 0) [] []) := hide_ ⟨PAll.nil _ _, World.ownsRow_nil _ _ _ _, World.ownsRow_nil _ _ _ _, World.ownsRow_nil _ _ _ _, Below.refl _ _⟩
    go_upto_region 9 with (go_at_call 9; refine (HNu.out _ _).mono ?_; rintro e w' ⟨rfl, rfl⟩)
    go_loopw [5, 6] (fun x5 x6 wr => ∃ (i : Nat) (v : Value) (VL : List (Value × Value)) (L : List Pg), i ≤ 3 ∧ x6 = .int .i64 (i : Int) ∧ v = x5 ∧ Hid (L.length = i ∧ L.map vuP = VL ∧ ∀ p ∈ L, p.C = X ∧ p.E = Y ∧ p.v2 = .slice none 0 0 ∧ p.u2 = .slice none 0 0) ∧ Hid (ApS w6 wr v VL (.slice none 0 0) [] (.slice none 0 0) [] L)) (fun _ x6 _ => 3 - (intOf x6).toNat)
    case atStart => exact ⟨0, _, [], [], by omega, rfl, rfl, hide_ ⟨rfl, rfl, fun p hp => (by cases hp)⟩, HS0⟩
    case round =>
      obtain ⟨i, v, VL, L, hi, rfl, rfl, HLk, HS⟩ := hrel
      generalize wr = wq at *
      clear HS0
      by_cases hlt : i < 3
      · have hlt' : (i : Int) < 3 := by omega
        have s0 := (KS.out.later HS.out.bel).cell 0; have s1 := (KS.out.later HS.out.bel).cell 1
        simp at s0 s1
        go_wp2_with fail
        refine (HD6.out _ HS.out.bel).mono ?_
        rintro e w7 ⟨vC7, vE7, rfl, HC7, HE7, hB7⟩
        obtain ⟨a7, c7, rfl, -, -, -⟩ := HC7.out.row
        obtain ⟨b7, d7, rfl, -, -, -⟩ := HE7.out.row
        obtain ⟨w8, hw8⟩ : ∃ wx, wx = w7.alloc (.cells #[.bool false, .slice a7 X.length c7, .slice b7 Y.length d7] 31) := ⟨_, rfl⟩
        have hB8 : Below w7.heap.size w7 w8 := by rw [hw8]; exact below1 _ _
        have k8 : Blk w8 w7.heap.size 31 [.bool false, .slice a7 X.length c7, .slice b7 Y.length d7] := by rw [hw8]; exact Blk.newA w7 _ _
        have hS8 := HS.out.addP (below_to hB7 hB8) (HC7.out.later hB8) (HE7.out.later hB8)
        have hvl : VL.length = i := by rw [← HLk.out.2.1, List.length_map]; exact HLk.out.1
        obtain ⟨g9, c9, w9, hrun, hS9, -⟩ := hS8.pushL (a := a7) (b := b7) (n := X.length) (m := Y.length) (c := c7) (d := d7) (by omega)
        obtain ⟨av, cv, hav, -, -, -⟩ := own_grow prc_len HS.out.row
        subst hav
        have HR := hide_ hrun
        have HSn := hide_ hS9
        have HLn : Hid ((L ++ [(⟨.slice a7 X.length c7, .slice b7 Y.length d7, X, Y, .slice none 0 0, .slice none 0 0, [], []⟩ : Pg)]).length = i + 1 ∧ (L ++ [(⟨.slice a7 X.length c7, .slice b7 Y.length d7, X, Y, .slice none 0 0, .slice none 0 0, [], []⟩ : Pg)]).map vuP = VL ++ [(.slice a7 X.length c7, .slice b7 Y.length d7)] ∧ ∀ p ∈ L ++ [(⟨.slice a7 X.length c7, .slice b7 Y.length d7, X, Y, .slice none 0 0, .slice none 0 0, [], []⟩ : Pg)], p.C = X ∧ p.E = Y ∧ p.v2 = .slice none 0 0 ∧ p.u2 = .slice none 0 0) := hide_ (by
          refine ⟨by simp [HLk.out.1], by rw [List.map_append, HLk.out.2.1]; rfl, fun p hp => ?_⟩
          rcases List.mem_append.1 hp with hp | hp
          · exact HLk.out.2.2 p hp
          · simp only [List.mem_singleton] at hp
            subst hp
            exact ⟨rfl, rfl, rfl, rfl⟩)
        have p0 := k8.cell 0; have p1 := k8.cell 1; have p2 := k8.cell 2
        simp at p0 p1 p2
        clear hB7 hB8 k8 hS8 hvl hrun hS9 HC7 HE7 HS HLk s0 s1
        go_upto_region 12 with fail
        rw [← hw8]
        clear hw8
        go_wp2_with (at_builtin; refine wpList_append_run rfl (.tmp 42) (.tmp 44) 42 42 rfl rfl rfl HR.out ?_)
        go_roundw
        case rel => exact ⟨i + 1, _, _, _, by omega, by go_num, rfl, HLn, HSn⟩
        case measure => simp [intOf]; omega
      · have Hi3 : Hid (i = 3) := hide_ (by omega)
        have hni : ¬ (i : Int) < 3 := by omega
        clear hlt hi
        go_upto_region 14 with fail
        go_loopw [9] (fun x9 wr => ∃ (k : Nat), k ≤ 3 ∧ x9 = .int .i64 (k : Int) ∧ Hid (Below wq.heap.size wq wr)) (fun x9 _ => 3 - (intOf x9).toNat)
        case atStart => exact ⟨0, by omega, rfl, hide_ (Below.refl _ _)⟩
        case round =>
          obtain ⟨k, hk, rfl, HBz⟩ := hrel
          generalize wr = wz at *
          have HSz := hide_ (HS.out.later HBz.out)
          by_cases hlt : k < 3
          · have hlt' : (k : Int) < 3 := by omega
            obtain ⟨p, hp⟩ : ∃ p, L[k]? = some p := ⟨_, List.getElem?_eq_getElem (by rw [HLk.out.1, Hi3.out]; exact hlt)⟩
            have hpm := List.mem_of_getElem? hp
            obtain ⟨e1, e2, -, -⟩ := HLk.out.2.2 p hpm
            obtain ⟨o1, o2, -, -⟩ := HSz.out.all.ok p hpm
            rw [e1] at o1
            rw [e2] at o2
            obtain ⟨a, c, hv, -, -, hra⟩ := o1.row
            obtain ⟨b, d, hu, hrb, -, -⟩ := o2.row
            have hvk := vu_at HLk.out.2.1 hp
            rw [hv, hu] at hvk
            obtain ⟨gl, cl, rfl, x0, x1, x2⟩ := HSz.out.atL hvk
            have hvl : VL.length = i := by rw [← HLk.out.2.1, List.length_map]; exact HLk.out.1
            have HEk := hide_ (HEq.out wz.drew a b c d (HSz.out.bel.drew) (hra.later ((Below.refl _ _).drew)) (hrb.later ((Below.refl _ _).drew)))
            have HSS : Hid (∀ w', Below wz.heap.size wz w' → (fun w' => w'.cell? ⟨gl, k * 3, none⟩ = some (.bool false) ∧ w'.cell? ⟨gl, k * 3 + 1, none⟩ = some (.slice a X.length c) ∧ w'.cell? ⟨gl, k * 3 + 2, none⟩ = some (.slice b Y.length d) ∧ w'.cell? ⟨gW, 0, none⟩ = some (.bool false) ∧ w'.cell? ⟨gW, 1, none⟩ = some (.slice ac X.length cc) ∧ w'.cell? ⟨gW, 2, none⟩ = some (.slice ae Y.length ce)) w') := hide_ (fun w' hb => by
              obtain ⟨gl2, cl2, e, y0, y1, y2⟩ := (HSz.out.later hb).atL hvk
              injection e with e _ _
              injection e with e
              injection e with e _ _
              subst e
              exact ⟨y0, y1, y2, (KW.out.later (below_to HSz.out.bel hb)).cell 0, (KW.out.later (below_to HSz.out.bel hb)).cell 1, (KW.out.later (below_to HSz.out.bel hb)).cell 2⟩)
            clear hp hpm e1 e2 o1 o2 hv hu hra hrb hvk x0 x1 x2 HSz
            rw [hvl]
            clear hvl
            have hk3 : (k : Int) < (i : Int) := by rw [Hi3.out]; exact hlt'
            go_upto_region 16 with fail
            refine wp_region_last 6 (fun w' => w'.cell? ⟨gl, k * 3, none⟩ = some (.bool false) ∧ w'.cell? ⟨gl, k * 3 + 1, none⟩ = some (.slice a X.length c) ∧ w'.cell? ⟨gl, k * 3 + 2, none⟩ = some (.slice b Y.length d) ∧ w'.cell? ⟨gW, 0, none⟩ = some (.bool false) ∧ w'.cell? ⟨gW, 1, none⟩ = some (.slice ac X.length cc) ∧ w'.cell? ⟨gW, 2, none⟩ = some (.slice ae Y.length ce)) (by kernel_rfl) (HSS.out _ ((Below.refl wz.heap.size wz).drew)) (fun hHeld => ?_)
            refine wpAnyF_take [6, 5, 3, 2] (by kernel_rfl) (i := 0) (v := ?vq1) rfl (by kernel_rfl) (by kernel_rfl) (by kernel_rfl) (fun _ _ _ h => h) (Or.inl ⟨by kernel_rfl, ?hyq1⟩) hHeld ?restq1
            case hyq1 => intro w' hSw; (try dsimp only at hSw); go_simp; try with_reducible rfl
            simp only [Act.put]
            refine wpAnyF_take [6, 5, 3, 2] (by kernel_rfl) (i := 1) (v := ?vq2) rfl (by kernel_rfl) (by kernel_rfl) (by kernel_rfl) (fun _ _ _ h => h) (Or.inl ⟨by kernel_rfl, ?hyq2⟩) hHeld ?restq2
            case hyq2 => intro w' hSw; (try dsimp only at hSw); go_simp; try with_reducible rfl
            simp only [Act.put]
            refine wpAnyF_take [6, 5, 3] (by kernel_rfl) (i := 2) (v := ?vq3) rfl (by kernel_rfl) (by kernel_rfl) (by kernel_rfl) (fun _ _ _ h => h) (Or.inl ⟨by kernel_rfl, ?hyq3⟩) hHeld ?restq3
            case hyq3 => intro w' hSw; (try dsimp only at hSw); go_simp; try with_reducible rfl
            simp only [Act.put]
            refine wpAnyF_take [6, 5] (by kernel_rfl) (i := 3) (v := ?vq4) rfl (by kernel_rfl) (by kernel_rfl) (by kernel_rfl) (fun _ _ _ h => h) (Or.inl ⟨by kernel_rfl, ?hyq4⟩) hHeld ?restq4
            case hyq4 => intro w' hSw; (try dsimp only at hSw); go_simp; try with_reducible rfl
            simp only [Act.put]
            refine wpAnyF_take [6, 5] (by kernel_rfl) (i := 4) (v := ?vq5) rfl (by kernel_rfl) (by kernel_rfl) (by kernel_rfl) (fun _ _ _ h => h) (Or.inl ⟨by kernel_rfl, ?hyq5⟩) hHeld ?restq5
            case hyq5 => intro w' hSw; (try dsimp only at hSw); go_simp; try with_reducible rfl
            simp only [Act.put]
            refine wpAnyF_ready (rs := [5]) (by kernel_rfl) (by simp) ?_
            refine AllReadyF.cons rfl (fun K hK => ?_) AllReadyF.nil
            go_simp
            refine HEk.out.mono ?_
            rintro e w9 ⟨rfl, hB9⟩
            dsimp only
            have HB9 := hide_ (below_to ((Below.refl wz.heap.size wz).drew) hB9)
            clear hB9
            refine hK.out _ _ (HSS.out _ HB9.out) (fun hHeld => ?_)
            clear hK K
            refine wpAnyF_ready (rs := [6]) (by kernel_rfl) (by simp) ?_
            refine AllReadyF.last rfl (fun K hK => ?_)
            go_simp
            refine hK.out _ _ ?_
            clear hK K
            refine wpAnyF_done (by kernel_rfl) ?_ _
            clear HSS HEk
            go_wp2_with fail
            go_roundw
            case rel => exact ⟨k + 1, by omega, by go_num, hide_ (below_to HBz.out HB9.out)⟩
            case measure => simp [intOf]; omega
          · have hnk : ¬ (k : Int) < 3 := by omega
            clear hlt hk HS
            have HLA : Hid (L.length = 3 ∧ L.map vuP = VL ∧ LkA X.length Y.length 0 0 0 L) := hide_ ⟨by rw [HLk.out.1, Hi3.out], HLk.out.2.1, fun j p hp => by
              obtain ⟨e1, e2, e3, e4⟩ := HLk.out.2.2 p (List.mem_of_getElem? hp)
              exact ⟨e3, e4, by rw [e1], by rw [e2], fun h => absurd h (by omega), fun h => ⟨⟨by rw [e1], fun j hj => absurd hj (by omega)⟩, ⟨by rw [e2], fun j hj => absurd hj (by omega)⟩⟩⟩⟩
            clear HLk HBz
            obtain ⟨gl, cl, hvl⟩ : ∃ gl cl, v = .slice (some ⟨gl, 0, none⟩) VL.length cl := by
              obtain ⟨p, hp⟩ : ∃ p, L[0]? = some p := ⟨_, List.getElem?_eq_getElem (by rw [HLA.out.1]; omega)⟩
              obtain ⟨gl, cl, e, -⟩ := HSz.out.atL (vu_at HLA.out.2.1 hp)
              exact ⟨gl, cl, e⟩
            subst hvl
            have HV3 : Hid (VL.length = 3) := hide_ (by rw [← HLA.out.2.1, List.length_map]; exact HLA.out.1)
            obtain ⟨n3, hn3⟩ : ∃ n, VL.length = n := ⟨_, rfl⟩
            rw [hn3] at HSz HV3 ⊢
            clear hn3
            go_upto_region 21 with fail
            go_loopw [12] (fun x12 wr => ∃ (k : Nat) (L : List Pg), k ≤ 3 ∧ x12 = .int .i64 (k : Int) ∧ Hid (L.length = 3 ∧ L.map vuP = VL ∧ LkA X.length Y.length k 0 0 L) ∧ Hid (ApS w6 wr (.slice (some ⟨gl, 0, none⟩) n3 cl) VL (.slice none 0 0) [] (.slice none 0 0) [] L)) (fun x12 _ => 3 - (intOf x12).toNat)
            case atStart => exact ⟨0, L, by omega, rfl, HLA, HSz⟩
            case round =>
              obtain ⟨k3, L3, hk3, rfl, HL3, HS3⟩ := hrel
              generalize wr = wy at *
              clear HLA HSz
              by_cases hlt : k3 < 3
              · have hlt' : (k3 : Int) < 3 := by omega
                have hkn : (k3 : Int) < (n3 : Int) := by rw [HV3.out]; exact hlt'
                go_upto_region 24 with fail
                go_loopw [13] (fun x13 wr => ∃ (i : Nat) (L : List Pg), i ≤ X.length ∧ x13 = .int .i64 (i : Int) ∧ Hid (L.length = 3 ∧ L.map vuP = VL ∧ LkA X.length Y.length k3 i 0 L) ∧ Hid (ApS w6 wr (.slice (some ⟨gl, 0, none⟩) n3 cl) VL (.slice none 0 0) [] (.slice none 0 0) [] L)) (fun x13 _ => X.length - (intOf x13).toNat)
                case atStart => exact ⟨0, L3, Nat.zero_le _, rfl, HL3, HS3⟩
                case round =>
                  obtain ⟨i4, L4, hi4, rfl, HL4, HS4⟩ := hrel
                  generalize wr = wx at *
                  clear HL3 HS3
                  obtain ⟨p, hp⟩ : ∃ p, L4[k3]? = some p := ⟨_, List.getElem?_eq_getElem (by rw [HL4.out.1]; exact hlt)⟩
                  obtain ⟨e1, e2, e3, e4, -, e6⟩ := HL4.out.2.2 k3 p hp
                  obtain ⟨o1, o2, -, -⟩ := HS4.out.all.ok p (List.mem_of_getElem? hp)
                  obtain ⟨a, c, hv, -, -, hra⟩ := o1.row
                  rw [e3] at hv
                  have hvk := vu_at HL4.out.2.1 hp
                  obtain ⟨x0, x1, x2⟩ := HS4.out.atL2 hvk
                  simp only at x1 x2
                  rw [hv] at x1
                  by_cases hlt4 : i4 < X.length
                  · have hlt4' : (i4 : Int) < X.length := by omega
                    obtain ⟨g, c2, ys, hv2, -, -, -, -, -, hyk⟩ := ownS_blk o1 (by omega)
                    rw [hv] at hv2
                    obtain ⟨rfl, rfl⟩ : a = some ⟨g, 0, none⟩ ∧ c = c2 := by
                      injection hv2 with h1 _ h3
                      exact ⟨h1, h3⟩
                    obtain ⟨hPA, hgB, hgt⟩ := HS4.out.all.setC hp e1 hv (i := i4) (by omega) ⟨-(k3 : Int) - 1, (i4 : Int), 0, 0⟩
                    have HSn := hide_ (HS4.out.turn (upd4 wx g (i4 * 4) (i4 * 4 + 1) (i4 * 4 + 2) (i4 * 4 + 3) _ _ _ _) (fun k hk => by subst hk; exact ⟨hgB, .inl hgt⟩) hPA)
                    obtain ⟨x, hxe⟩ : ∃ x, p.C[i4]? = some x := ⟨_, List.getElem?_eq_getElem (by omega)⟩
                    have hx := hra.at hxe
                    have y0 := hx.1; have y1 := hx.2.1; have y2 := hx.2.2.1; have y3 := hx.2.2.2
                    simp only [Nat.zero_add] at y0 y1 y2 y3
                    have yz := fun i => hyk.frozen i
                    have HLn : Hid ((L4.set k3 { p with C := p.C.set i4 ⟨-(k3 : Int) - 1, (i4 : Int), 0, 0⟩ }).length = 3 ∧ (L4.set k3 { p with C := p.C.set i4 ⟨-(k3 : Int) - 1, (i4 : Int), 0, 0⟩ }).map vuP = VL ∧ LkA X.length Y.length k3 (i4 + 1) 0 (L4.set k3 { p with C := p.C.set i4 ⟨-(k3 : Int) - 1, (i4 : Int), 0, 0⟩ })) := hide_ ⟨by rw [List.length_set]; exact HL4.out.1, vu_set HL4.out.2.1 hp rfl rfl, fun j q hq => by
                      rcases at_set (by rw [HL4.out.1]; exact hlt) hq with ⟨rfl, rfl⟩ | ⟨hne, hq⟩
                      · exact ⟨e1, e2, by simp only [List.length_set]; exact e3, e4, fun h => absurd h (by omega), fun _ => ⟨(e6 rfl).1.set hlt4, (e6 rfl).2⟩⟩
                      · obtain ⟨f1, f2, f3, f4, f5, f6⟩ := HL4.out.2.2 j q hq
                        exact ⟨f1, f2, f3, f4, f5, fun h => absurd h hne⟩⟩
                    clear hPA hgB hgt hx hxe hyk hv2 hvk x0 x2 hra o1 o2 e1 e2 e3 e4 e6 hp HL4 HS4 hv
                    go_wp2_with fail
                    go_roundw
                    case rel => exact ⟨i4 + 1, _, by omega, by go_num, HLn, HSn⟩
                    case measure => simp [intOf]; omega
                  · have hlt4' : ¬ (i4 : Int) < X.length := by omega
                    obtain rfl : i4 = X.length := by omega
                    clear hlt4 hi4 hra o1 o2 x0 x2
                    go_upto_region 28 with fail
                    clear x1
                    go_loopw [14] (fun x14 wr => ∃ (i : Nat) (L : List Pg), i ≤ Y.length ∧ x14 = .int .i64 (i : Int) ∧ Hid (L.length = 3 ∧ L.map vuP = VL ∧ LkA X.length Y.length k3 X.length i L) ∧ Hid (ApS w6 wr (.slice (some ⟨gl, 0, none⟩) n3 cl) VL (.slice none 0 0) [] (.slice none 0 0) [] L)) (fun x14 _ => Y.length - (intOf x14).toNat)
                    case atStart => exact ⟨0, L4, Nat.zero_le _, rfl, HL4, HS4⟩
                    case round =>
                      clear hp e1 e2 e3 e4 e6 hv hvk
                      obtain ⟨i5, L5, hi5, rfl, HL5, HS5⟩ := hrel
                      generalize wr = wv at *
                      clear HL4 HS4
                      obtain ⟨p, hp⟩ : ∃ p, L5[k3]? = some p := ⟨_, List.getElem?_eq_getElem (by rw [HL5.out.1]; exact hlt)⟩
                      obtain ⟨e1, e2, e3, e4, -, e6⟩ := HL5.out.2.2 k3 p hp
                      obtain ⟨o1, o2, -, -⟩ := HS5.out.all.ok p (List.mem_of_getElem? hp)
                      obtain ⟨a, c, hv, hra, -, -⟩ := o2.row
                      rw [e4] at hv
                      have hvk := vu_at HL5.out.2.1 hp
                      obtain ⟨x0, x1, x2⟩ := HS5.out.atL2 hvk
                      simp only at x1 x2
                      rw [hv] at x2
                      by_cases hlt5 : i5 < Y.length
                      · have hlt5' : (i5 : Int) < Y.length := by omega
                        obtain ⟨g, c2, ys, hv2, -, -, -, -, -, hyk⟩ := ownS_blk o2 (by omega)
                        rw [hv] at hv2
                        obtain ⟨rfl, rfl⟩ : a = some ⟨g, 0, none⟩ ∧ c = c2 := by
                          injection hv2 with h1 _ h3
                          exact ⟨h1, h3⟩
                        obtain ⟨hPA, hgB, hgt⟩ := HS5.out.all.setE hp e2 hv (i := i5) (by omega) (-(k3 : Int) - 1)
                        have HSn := hide_ (HS5.out.turn ((Upd.refl (fun n => n = g) wv).set ⟨g, i5, none⟩ (.int .i64 (-(k3 : Int) - 1)) (.inl rfl)) (fun k hk => by subst hk; exact ⟨hgB, .inr hgt⟩) hPA)
                        have y0 : wv.cell? ⟨g, i5, none⟩ = some (.int .i64 (p.E.getD i5 0)) := by
                          rcases hra with ⟨h, _⟩ | ⟨x, hx, hc⟩
                          · cases h
                          · injection hx with hx
                            subst hx
                            have := hc i5 (by omega)
                            rw [add_none, Nat.zero_add] at this
                            exact this
                        have yz := fun i => hyk.frozen i
                        have HLn : Hid ((L5.set k3 { p with E := p.E.set i5 (-(k3 : Int) - 1) }).length = 3 ∧ (L5.set k3 { p with E := p.E.set i5 (-(k3 : Int) - 1) }).map vuP = VL ∧ LkA X.length Y.length k3 X.length (i5 + 1) (L5.set k3 { p with E := p.E.set i5 (-(k3 : Int) - 1) })) := hide_ ⟨by rw [List.length_set]; exact HL5.out.1, vu_set HL5.out.2.1 hp rfl rfl, fun j q hq => by
                          rcases at_set (by rw [HL5.out.1]; exact hlt) hq with ⟨rfl, rfl⟩ | ⟨hne, hq⟩
                          · exact ⟨e1, e2, e3, by simp only [List.length_set]; exact e4, fun h => absurd h (by omega), fun _ => ⟨(e6 rfl).1, (e6 rfl).2.set hlt5⟩⟩
                          · obtain ⟨f1, f2, f3, f4, f5, f6⟩ := HL5.out.2.2 j q hq
                            exact ⟨f1, f2, f3, f4, f5, fun h => absurd h hne⟩⟩
                        clear hPA hgB hgt hyk hv2 hvk x0 x1 hra o1 o2 e1 e2 e3 e4 e6 hp HL5 HS5 hv
                        go_wp2_with fail
                        go_roundw
                        case rel => exact ⟨i5 + 1, _, by omega, by go_num, HLn, HSn⟩
                        case measure => simp [intOf]; omega
                      · have hlt5' : ¬ (i5 : Int) < Y.length := by omega
                        obtain rfl : i5 = Y.length := by omega
                        have HLn : Hid (L5.length = 3 ∧ L5.map vuP = VL ∧ LkA X.length Y.length (k3 + 1) 0 0 L5) := hide_ ⟨HL5.out.1, HL5.out.2.1, fun j q hq => by
                          obtain ⟨f1, f2, f3, f4, f5, f6⟩ := HL5.out.2.2 j q hq
                          refine ⟨f1, f2, f3, f4, fun h => ?_, fun h => ⟨⟨f3, fun i hi => absurd hi (by omega)⟩, ⟨f4, fun i hi => absurd hi (by omega)⟩⟩⟩
                          by_cases hj : j = k3
                          · exact f6 hj
                          · exact f5 (by omega)⟩
                        clear hlt5 hi5 hra o1 o2 x0 x1 e1 e2 e3 e4 e6 hp hvk HL5 hv
                        go_wp2_with fail
                        go_roundw
                        case rel => exact ⟨k3 + 1, L5, by omega, by go_num, HLn, HS5⟩
                        case measure => simp [intOf]; omega
              · have hnk3 : ¬ (k3 : Int) < 3 := by omega
                have HL6 : Hid (L3.length = 3 ∧ L3.map vuP = VL ∧ LkB X.length Y.length 0 [] [] L3) := hide_ ⟨HL3.out.1, HL3.out.2.1, fun j p hp => by
                  obtain ⟨f1, f2, f3, f4, f5, f6⟩ := HL3.out.2.2 j p hp
                  have hj : j < k3 := by have := (List.getElem?_eq_some_iff.1 hp).1; rw [HL3.out.1] at this; omega
                  exact ⟨(f5 hj).1, (f5 hj).2, fun _ => ⟨f1, f2⟩, fun h => absurd h (by omega)⟩⟩
                clear hlt hk3 HL3
                go_upto_region 32 with fail
                go_loopw [10, 11, 15] (fun x10 x11 x15 wr => ∃ (k : Nat) (vI vN : Value) (IL NL : List Value) (L : List Pg), k ≤ 3 ∧ x15 = .int .i64 (k : Int) ∧ vI = x10 ∧ vN = x11 ∧ Hid (IL.length = k ∧ NL.length = k ∧ L.length = 3 ∧ L.map vuP = VL ∧ LkB X.length Y.length k IL NL L) ∧ Hid (ApS w6 wr (.slice (some ⟨gl, 0, none⟩) n3 cl) VL vI IL vN NL L)) (fun _ _ x15 _ => 3 - (intOf x15).toNat)
                case atStart => exact ⟨0, _, _, [], [], L3, by omega, rfl, rfl, rfl, hide_ ⟨rfl, rfl, HL6.out⟩, HS3⟩
                case round =>
                  obtain ⟨k, vI, vN, IL, NL, L, hk, rfl, rfl, rfl, HL7, HS7⟩ := hrel
                  generalize wr = wz at *
                  clear HL6 HS3
                  by_cases hlt : k < 3
                  · have hlt' : (k : Int) < 3 := by omega
                    have hkn : (k : Int) < (n3 : Int) := by rw [HV3.out]; exact hlt'
                    obtain ⟨hIL, hNL, hLl, hvu, hLB⟩ := HL7.out
                    obtain ⟨p, hp⟩ : ∃ p, L[k]? = some p := ⟨_, List.getElem?_eq_getElem (by rw [hLl]; exact hlt)⟩
                    obtain ⟨m1, m2, m3, -⟩ := hLB k p hp
                    obtain ⟨m3, m4⟩ := m3 (Nat.le_refl _)
                    obtain ⟨o1, o2, -, -⟩ := HS7.out.all.ok p (List.mem_of_getElem? hp)
                    obtain ⟨a, c, hv, -, -, -⟩ := o1.row
                    obtain ⟨b, d, hu, -, -, -⟩ := o2.row
                    have hvk := vu_at hvu hp
                    obtain ⟨g, cap, wg, hr1, hPg, hUg, hgt⟩ := (HS7.out.later ((Below.refl _ _).drew)).all.growC hp m3 ⟨-(k : Int) - 1, (X.length : Int), 0, 0⟩ (by rw [m1.1]; omega) (Nat.le_trans HS7.out.bel.size (Nat.le_refl _))
                    rw [m1.1] at hr1 hPg hv
                    rw [hv] at hr1
                    have hSg := (HS7.out.later ((Below.refl _ _).drew)).turn hUg (fun j hj => ⟨(hgt j hj).1, .inl (hgt j hj).2⟩) hPg
                    obtain ⟨p1, hp1⟩ : ∃ p1 : Pg, p1 = { p with v2 := .slice (some ⟨g, 0, none⟩) (X.length + 1) cap, C2 := p.C ++ [⟨-(k : Int) - 1, (X.length : Int), 0, 0⟩] } := ⟨_, rfl⟩
                    rw [← hp1] at hSg
                    obtain ⟨gi, ci, wi, hr2, hSi, -⟩ := hSg.pushI (a := some ⟨g, 0, none⟩) (n := X.length + 1) (c := cap) (by omega)
                    obtain ⟨ai, cai, hai, -, -, -⟩ := own_grow one1_len HS7.out.ri
                    have hL1 : (L.set k p1)[k]? = some p1 := by rw [List.getElem?_set_self (by rw [hLl]; exact hlt)]
                    have hu1 : p1.u2 = .slice none 0 0 := by rw [hp1]; exact m4
                    have hE1 : p1.E = p.E := by rw [hp1]
                    have hU1 : p1.u = p.u := by rw [hp1]
                    obtain ⟨g4, cap4, we, hr3, hPe, hUe, hge⟩ := hSi.all.growE hL1 hu1 (-(k : Int) - 1) (by rw [hE1, m2.1]; omega) hSi.bel.size
                    rw [hE1, m2.1] at hr3 hPe
                    rw [m2.1] at hu
                    rw [hU1, hu] at hr3
                    have hSe := hSi.turn hUe (fun j hj => ⟨(hge j hj).1, .inr (hge j hj).2⟩) hPe
                    obtain ⟨gn, cn, wn, hr4, hSn, -⟩ := hSe.pushN (a := some ⟨g4, 0, none⟩) (n := Y.length + 1) (c := cap4) (by omega)
                    obtain ⟨an, can, han, -, -, -⟩ := own_grow one1_len HS7.out.rn
                    subst hai han
                    rw [hv, hu] at hvk
                    have HSS : Hid (∀ w', Below wz.heap.size wz w' → (fun w' => w'.cell? ⟨gl, k * 3 + 1, none⟩ = some (.slice a X.length c)) w') := hide_ (fun w' hb => ((HS7.out.later hb).atL2 hvk).2.1)
                    have HSg : Hid ((fun w' => w'.cell? ⟨gl, k * 3 + 1, none⟩ = some (.slice a X.length c)) wg) := hide_ (hSg.atL2 hvk).2.1
                    have HSh : Hid ((fun w' => w'.cell? ⟨gl, k * 3 + 1, none⟩ = some (.slice a X.length c)) (wg.alloc (.cells #[.slice (some ⟨g, 0, none⟩) (X.length + 1) cap] 28))) := hide_ ((hSg.later (below1 _ _)).atL2 hvk).2.1
                    have HSi : Hid ((fun w' => w'.cell? ⟨gl, k * 3 + 1, none⟩ = some (.slice a X.length c)) wi) := hide_ (hSi.atL2 hvk).2.1
                    have xi := (hSi.atL2 hvk).2.2
                    simp only at xi
                    have HR1 := hide_ hr1
                    have HR2 := hide_ hr2
                    have HR3 := hide_ hr3
                    have HR4 := hide_ hr4
                    have HSn := hide_ hSn
                    have HLn : Hid ((IL ++ [Value.slice (some ⟨g, 0, none⟩) (X.length + 1) cap]).length = k + 1 ∧ (NL ++ [Value.slice (some ⟨g4, 0, none⟩) (Y.length + 1) cap4]).length = k + 1 ∧ ((L.set k p1).set k { p1 with E := p.E, u2 := .slice (some ⟨g4, 0, none⟩) (Y.length + 1) cap4, E2 := p.E ++ [-(k : Int) - 1] }).length = 3 ∧ ((L.set k p1).set k { p1 with E := p.E, u2 := .slice (some ⟨g4, 0, none⟩) (Y.length + 1) cap4, E2 := p.E ++ [-(k : Int) - 1] }).map vuP = VL ∧ LkB X.length Y.length (k + 1) (IL ++ [Value.slice (some ⟨g, 0, none⟩) (X.length + 1) cap]) (NL ++ [Value.slice (some ⟨g4, 0, none⟩) (Y.length + 1) cap4]) ((L.set k p1).set k { p1 with E := p.E, u2 := .slice (some ⟨g4, 0, none⟩) (Y.length + 1) cap4, E2 := p.E ++ [-(k : Int) - 1] })) := hide_ (by
                      have hkL : k < L.length := by rw [hLl]; exact hlt
                      refine ⟨by simp [hIL], by simp [hNL], by rw [List.length_set, List.length_set]; exact hLl, ?_, ?_⟩
                      · exact vu_set (vu_set hvu hp (by rw [hp1]) (by rw [hp1])) hL1 rfl rfl
                      · intro j q hq
                        rcases at_set (by rw [List.length_set]; exact hkL) hq with ⟨rfl, rfl⟩ | ⟨hne, hq⟩
                        · subst hp1
                          refine ⟨m1, m2, fun h => absurd h (by omega), fun _ => ⟨?_, ?_, m1.app, m2.app⟩⟩
                          · rw [List.getElem?_append_right (by rw [hIL]; exact Nat.le_refl _), hIL]; simp
                          · rw [List.getElem?_append_right (by rw [hNL]; exact Nat.le_refl _), hNL]; simp
                        · rcases at_set hkL hq with ⟨h, _⟩ | ⟨_, hq⟩
                          · exact absurd h hne
                          · obtain ⟨n1, n2, n3', n4⟩ := hLB j q hq
                            refine ⟨n1, n2, fun h => n3' (by omega), fun h => ?_⟩
                            obtain ⟨z1, z2, z3, z4⟩ := n4 (by omega)
                            exact ⟨by rw [List.getElem?_append_left (by rw [hIL]; omega)]; exact z1, by rw [List.getElem?_append_left (by rw [hNL]; omega)]; exact z2, z3, z4⟩)
                    clear hIL hNL hLl hvu hLB hp m1 m2 m3 m4 o1 o2 hv hu hvk hr1 hPg hUg hgt hSg hp1 hr2 hSi hL1 hu1 hE1 hU1 hr3 hPe hUe hge hSe hr4 hSn HL7 HS7
                    have hw1 : IntKind.i64.wrap (-(k : Int)) = -(k : Int) := by rw [IntKind.wrap_i64]; omega
                    have hw2 : IntKind.i64.wrap (-(k : Int) - 1) = -(k : Int) - 1 := by rw [IntKind.wrap_i64]; omega
                    go_upto_region 34 with fail
                    refine wp_region_last 20 (fun w' => w'.cell? ⟨gl, k * 3 + 1, none⟩ = some (.slice a X.length c)) (by kernel_rfl) (HSS.out _ ((Below.refl wz.heap.size wz).drew)) (fun hHeld => ?_)
                    refine wpAnyF_take [20] (by kernel_rfl) (i := 0) (v := ?vh1) rfl (by kernel_rfl) (by kernel_rfl) (by kernel_rfl) (fun _ _ _ h => h) (Or.inl ⟨by kernel_rfl, ?hyh1⟩) hHeld ?resth1
                    case hyh1 => intro w' hSw; (try dsimp only at hSw); go_simp; try with_reducible rfl
                    simp only [Act.put]
                    refine wpAnyF_take [20] (by kernel_rfl) (i := 1) (v := ?vh2) rfl (by kernel_rfl) (by kernel_rfl) (by kernel_rfl) (fun _ _ _ h => h) (Or.inl ⟨by kernel_rfl, ?hyh2⟩) hHeld ?resth2
                    case hyh2 => intro w' hSw; (try dsimp only at hSw); go_simp; try with_reducible rfl
                    simp only [Act.put]
                    refine wpAnyF_take [20] (by kernel_rfl) (i := 2) (v := ?vh3) rfl (by kernel_rfl) (by kernel_rfl) (by kernel_rfl) (fun _ _ _ h => h) (Or.inl ⟨by kernel_rfl, ?hyh3⟩) hHeld ?resth3
                    case hyh3 => intro w' hSw; (try dsimp only at hSw); go_simp; try with_reducible rfl
                    simp only [Act.put]
                    refine wpAnyF_take [20] (by kernel_rfl) (i := 3) (v := ?vh4) rfl (by kernel_rfl) (by kernel_rfl) (by kernel_rfl) (fun _ _ _ h => h) (Or.inl ⟨by kernel_rfl, ?hyh4⟩) hHeld ?resth4
                    case hyh4 => intro w' hSw; (try dsimp only at hSw); go_simp; try with_reducible rfl
                    simp only [Act.put]
                    refine wpAnyF_take [20] (by kernel_rfl) (i := 4) (v := ?vh5) rfl (by kernel_rfl) (by kernel_rfl) (by kernel_rfl) (fun _ _ _ h => h) (Or.inl ⟨by kernel_rfl, ?hyh5⟩) hHeld ?resth5
                    case hyh5 => intro w' hSw; (try dsimp only at hSw); go_simp; try with_reducible rfl
                    simp only [Act.put]
                    refine wpAnyF_take [20] (by kernel_rfl) (i := 5) (v := ?vh6) rfl (by kernel_rfl) (by kernel_rfl) (by kernel_rfl) (fun _ _ _ h => h) (Or.inl ⟨by kernel_rfl, ?hyh6⟩) hHeld ?resth6
                    case hyh6 => intro w' hSw; (try dsimp only at hSw); go_simp; try with_reducible rfl
                    simp only [Act.put]
                    refine wpAnyF_take [20] (by kernel_rfl) (i := 6) (v := ?vh7) rfl (by kernel_rfl) (by kernel_rfl) (by kernel_rfl) (fun _ _ _ h => h) (Or.inl ⟨by kernel_rfl, ?hyh7⟩) hHeld ?resth7
                    case hyh7 => intro w' hSw; (try dsimp only at hSw); go_simp; try with_reducible rfl
                    simp only [Act.put]
                    refine wpAnyF_take [20] (by kernel_rfl) (i := 7) (v := ?vh8) rfl (by kernel_rfl) (by kernel_rfl) (by kernel_rfl) (fun _ _ _ h => h) (Or.inl ⟨by kernel_rfl, ?hyh8⟩) hHeld ?resth8
                    case hyh8 => intro w' hSw; (try dsimp only at hSw); go_simp; try with_reducible rfl
                    simp only [Act.put]
                    refine wpAnyF_take [20] (by kernel_rfl) (i := 8) (v := ?vh9) rfl (by kernel_rfl) (by kernel_rfl) (by kernel_rfl) (fun _ _ _ h => h) (Or.inl ⟨by kernel_rfl, ?hyh9⟩) hHeld ?resth9
                    case hyh9 => intro w' hSw; (try dsimp only at hSw); go_simp; try with_reducible rfl
                    simp only [Act.put]
                    refine wpAnyF_take [20] (by kernel_rfl) (i := 9) (v := ?vh10) rfl (by kernel_rfl) (by kernel_rfl) (by kernel_rfl) (fun _ _ _ h => h) (Or.inl ⟨by kernel_rfl, ?hyh10⟩) hHeld ?resth10
                    case hyh10 => intro w' hSw; (try dsimp only at hSw); go_simp; try with_reducible rfl
                    simp only [Act.put]
                    refine wpAnyF_take [20] (by kernel_rfl) (i := 10) (v := ?vh11) rfl (by kernel_rfl) (by kernel_rfl) (by kernel_rfl) (fun _ _ _ h => h) (Or.inl ⟨by kernel_rfl, ?hyh11⟩) hHeld ?resth11
                    case hyh11 => intro w' hSw; (try dsimp only at hSw); go_simp; try with_reducible rfl
                    simp only [Act.put]
                    refine wpAnyF_take [20] (by kernel_rfl) (i := 11) (v := ?vh12) rfl (by kernel_rfl) (by kernel_rfl) (by kernel_rfl) (fun _ _ _ h => h) (Or.inl ⟨by kernel_rfl, ?hyh12⟩) hHeld ?resth12
                    case hyh12 => intro w' hSw; (try dsimp only at hSw); go_simp; try with_reducible rfl
                    simp only [Act.put]
                    refine wpAnyF_take [20] (by kernel_rfl) (i := 12) (v := ?vh13) rfl (by kernel_rfl) (by kernel_rfl) (by kernel_rfl) (fun _ _ _ h => h) (Or.inl ⟨by kernel_rfl, ?hyh13⟩) hHeld ?resth13
                    case hyh13 => intro w' hSw; (try dsimp only at hSw); go_simp; try with_reducible rfl
                    simp only [Act.put]
                    refine wpAnyF_take [20] (by kernel_rfl) (i := 13) (v := ?vh14) rfl (by kernel_rfl) (by kernel_rfl) (by kernel_rfl) (fun _ _ _ h => h) (Or.inl ⟨by kernel_rfl, ?hyh14⟩) hHeld ?resth14
                    case hyh14 => intro w' hSw; (try dsimp only at hSw); go_simp; try with_reducible rfl
                    simp only [Act.put]
                    refine wpAnyF_take [20] (by kernel_rfl) (i := 14) (v := ?vh15) rfl (by kernel_rfl) (by kernel_rfl) (by kernel_rfl) (fun _ _ _ h => h) (Or.inl ⟨by kernel_rfl, ?hyh15⟩) hHeld ?resth15
                    case hyh15 => intro w' hSw; (try dsimp only at hSw); go_simp; try with_reducible rfl
                    simp only [Act.put]
                    refine wpAnyF_take [20] (by kernel_rfl) (i := 15) (v := ?vh16) rfl (by kernel_rfl) (by kernel_rfl) (by kernel_rfl) (fun _ _ _ h => h) (Or.inl ⟨by kernel_rfl, ?hyh16⟩) hHeld ?resth16
                    case hyh16 => intro w' hSw; (try dsimp only at hSw); go_simp; try with_reducible rfl
                    simp only [Act.put]
                    refine wpAnyF_ready (rs := [16]) (by kernel_rfl) (by simp) ?_
                    refine AllReadyF.cons rfl (fun K hK => ?_) AllReadyF.nil
                    go_simp
                    refine hK.out _ _ (HSS.out _ (below_to ((Below.refl wz.heap.size wz).drew) (below1 wz.drew _))) (fun hHeld => ?_)
                    clear hK K
                    refine wpAnyF_ready (rs := [17]) (by kernel_rfl) (by simp) ?_
                    refine AllReadyF.cons rfl (fun K hK => ?_) AllReadyF.nil
                    refine step_append_run rfl (.tmp 112) (.tmp 123) 28 28 rfl (v := .slice a X.length c) (u := .slice (some ⟨wz.heap.size, 0, none⟩) 1 1) (by kernel_rfl) (by kernel_rfl) HR1.out ?_
                    simp only [Act.put]
                    refine hK.out _ _ (HSg.out) (fun hHeld => ?_)
                    clear hK K
                    refine wpAnyF_ready (rs := [18]) (by kernel_rfl) (by simp) ?_
                    refine AllReadyF.cons rfl (fun K hK => ?_) AllReadyF.nil
                    go_simp
                    refine hK.out _ _ (HSh.out) (fun hHeld => ?_)
                    clear hK K
                    refine wpAnyF_ready (rs := [19]) (by kernel_rfl) (by simp) ?_
                    refine AllReadyF.cons rfl (fun K hK => ?_) AllReadyF.nil
                    refine step_append_run rfl (.tmp 107) (.tmp 125) 44 44 rfl (v := .slice ai IL.length cai) (u := .slice (some ⟨wg.heap.size, 0, none⟩) 1 1) (by kernel_rfl) (by kernel_rfl) HR2.out ?_
                    simp only [Act.put]
                    refine hK.out _ _ (HSi.out) (fun hHeld => ?_)
                    clear hK K
                    refine wpAnyF_ready (rs := [20]) (by kernel_rfl) (by simp) ?_
                    refine AllReadyF.last rfl (fun K hK => ?_)
                    go_simp
                    refine hK.out _ _ ?_
                    clear hK K
                    refine wpAnyF_done (by kernel_rfl) ?_ _
                    clear HSS HSg HSh HSi HR1 HR2 hw1 hw2
                    go_wp2_with (first
                      | (at_builtin; have _t := HR3; refine wpList_append_run rfl (.tmp 132) (.tmp 136) 29 29 rfl rfl rfl HR3.out ?_; clear HR3)
                      | (at_builtin; have _t := HR4; refine wpList_append_run rfl (.tmp 127) (.tmp 138) 45 45 rfl rfl rfl HR4.out ?_; clear HR4))
                    go_roundw
                    case rel => exact ⟨k + 1, _, _, _, _, _, by omega, by go_num, rfl, rfl, HLn, HSn⟩
                    case measure => simp [intOf]; omega
                  · have hnk7 : ¬ (k : Int) < 3 := by omega
                    have Hk3 : Hid (k = 3) := hide_ (by omega)
                    obtain ⟨hIL, hNL, hLl, hvu, hLB⟩ := HL7.out
                    have HLB := hide_ hLB
                    have HLl := hide_ hLl
                    have HVu := hide_ hvu
                    obtain ⟨gi, ci, hai⟩ : ∃ gi ci, vI = .slice (some ⟨gi, 0, none⟩) IL.length ci := by
                      obtain ⟨x, hx⟩ : ∃ x, IL[0]? = some x := ⟨_, List.getElem?_eq_getElem (by omega)⟩
                      obtain ⟨gi, ci, e, -⟩ := HS7.out.atI hx
                      exact ⟨gi, ci, e⟩
                    obtain ⟨gn, cn, han⟩ : ∃ gn cn, vN = .slice (some ⟨gn, 0, none⟩) NL.length cn := by
                      obtain ⟨x, hx⟩ : ∃ x, NL[0]? = some x := ⟨_, List.getElem?_eq_getElem (by omega)⟩
                      obtain ⟨gn, cn, e, -⟩ := HS7.out.atN hx
                      exact ⟨gn, cn, e⟩
                    subst hai han
                    rw [hIL, hNL] at HS7 ⊢
                    have HBe := hide_ HS7.out.bel
                    clear hlt hk hIL hNL hLl hvu hLB HL7
                    go_upto_region 37 with fail
                    go_loopw [16] (fun x16 wr => ∃ (q : Nat), q ≤ 3 ∧ x16 = .int .i64 (q : Int) ∧ Hid (Below wz.heap.size wz wr)) (fun x16 _ => 3 - (intOf x16).toNat)
                    case atStart => exact ⟨0, by omega, rfl, hide_ (Below.refl _ _)⟩
                    case round =>
                      obtain ⟨q, hq, rfl, HBq⟩ := hrel
                      generalize wr = wa at *
                      by_cases hlt : q < 3
                      · have hlt' : (q : Int) < 3 := by omega
                        have hqn : (q : Int) < (n3 : Int) := by rw [HV3.out]; exact hlt'
                        have hqk : (q : Int) < (k : Int) := by rw [Hk3.out]; exact hlt'
                        obtain ⟨p, hp⟩ : ∃ p, L[q]? = some p := ⟨_, List.getElem?_eq_getElem (by rw [HLl.out]; exact hlt)⟩
                        obtain ⟨m1, m2, -, m4⟩ := HLB.out q p hp
                        obtain ⟨z1, z2, z3, z4⟩ := m4 (by rw [Hk3.out]; exact hlt)
                        have HOk := hide_ (HS7.out.all.ok p (List.mem_of_getElem? hp))
                        have hvk := vu_at HVu.out hp
                        obtain ⟨a, c, hv, -, -, -⟩ := HOk.out.1.row
                        obtain ⟨b, d, hu, -, -, -⟩ := HOk.out.2.1.row
                        obtain ⟨a2, c2, hv2, -, -, -⟩ := HOk.out.2.2.1.row
                        obtain ⟨b2, d2, hu2, -, -, -⟩ := HOk.out.2.2.2.row
                        rw [m1.1] at hv
                        rw [m2.1] at hu
                        rw [z3.1] at hv2
                        rw [z4.1] at hu2
                        rw [hv, hu] at hvk
                        rw [hv2] at z1
                        rw [hu2] at z2
                        have HCl : Hid (∀ w', Below wz.heap.size wz w' → (w'.cell? ⟨gl, q * 3 + 1, none⟩ = some (.slice a X.length c) ∧ w'.cell? ⟨gl, q * 3 + 2, none⟩ = some (.slice b Y.length d)) ∧ w'.cell? ⟨gi, q, none⟩ = some (.slice a2 (X.length + 1) c2) ∧ w'.cell? ⟨gn, q, none⟩ = some (.slice b2 (Y.length + 1) d2)) := hide_ (fun w' hb => ⟨⟨((HS7.out.later hb).atL2 hvk).2.1, ((HS7.out.later hb).atL2 hvk).2.2⟩, (HS7.out.later hb).atI2 z1, (HS7.out.later hb).atN2 z2⟩)
                        have HRw : Hid (∀ w', Below wz.heap.size wz w' → IRow w' a p.C ∧ IRow w' a2 p.C2 ∧ Row .i64 w' b p.E ∧ Row .i64 w' b2 p.E2) := hide_ (fun w' hb => by
                          obtain ⟨o1, o2, o3, o4⟩ := HOk.out
                          rw [hv] at o1
                          rw [hu] at o2
                          rw [hv2] at o3
                          rw [hu2] at o4
                          exact ⟨(o1.later hb).rowS, (o3.later hb).rowS, (o2.later hb).rowS, (o4.later hb).rowS⟩)
                        have HMk := hide_ (And.intro m1 (And.intro m2 (And.intro z3 z4)))
                        clear hp m1 m2 m4 z1 z2 z3 z4 HOk hvk hv hu hv2 hu2
                        go_upto_region 40 with fail
                        go_loopw [17] (fun x17 wr => ∃ (i : Nat), i ≤ X.length + 1 ∧ x17 = .int .i64 (i : Int) ∧ Hid (Below wz.heap.size wz wr)) (fun x17 _ => X.length + 1 - (intOf x17).toNat)
                        case atStart => exact ⟨0, Nat.zero_le _, rfl, HBq⟩
                        case round =>
                          obtain ⟨i, hi, rfl, HBi⟩ := hrel
                          generalize wr = wb at *
                          clear HBq
                          obtain ⟨⟨y1, y2⟩, y3, y4⟩ := HCl.out _ HBi.out
                          by_cases hlt8 : i < X.length + 1
                          · have hlt8' : (i : Int) < (X.length : Int) + 1 := by omega
                            have hx2 := HMk.out.2.2.1.2 i hlt8
                            obtain ⟨r1, r2, -, -⟩ := HRw.out _ HBi.out
                            obtain ⟨ba, oa, rfl, -, h2⟩ := r2.open (by rw [HMk.out.2.2.1.1]; omega)
                            have c0 := h2 i _ hx2 0 (by decide); have c1 := h2 i _ hx2 1 (by decide); have c2' := h2 i _ hx2 2 (by decide); have c3 := h2 i _ hx2 3 (by decide)
                            simp [inc] at c0 c1 c2' c3
                            have hw1 : IntKind.i64.wrap (-(q : Int)) = -(q : Int) := by rw [IntKind.wrap_i64]; omega
                            have hw2 : IntKind.i64.wrap (-(q : Int) - 1) = -(q : Int) - 1 := by rw [IntKind.wrap_i64]; omega
                            have HBn : ∀ k, Hid (Below wz.heap.size wz (wb.drewN k)) := fun k => hide_ (below_drewN HBi.out k)
                            clear h2 hx2
                            by_cases hin : i < X.length
                            · have hin' : (i : Int) < (X.length : Int) := by omega
                              have hx1 := HMk.out.1.2 i hin
                              obtain ⟨bb, ob, rfl, -, h1⟩ := r1.open (by rw [HMk.out.1.1]; omega)
                              have d0 := h1 i _ hx1 0 (by decide); have d1 := h1 i _ hx1 1 (by decide); have d2' := h1 i _ hx1 2 (by decide); have d3 := h1 i _ hx1 3 (by decide)
                              simp [inc] at d0 d1 d2' d3
                              clear h1 hx1 r2 y2 y4
                              go_upto_region 42 with fail
                              go_quiet (fail)
                              clear hw1 hw2
                              go_wp2_with fail
                              go_roundw
                              case rel => exact ⟨i + 1, by omega, by go_num, HBn _⟩
                              case measure => simp [intOf]; omega
                            · have hin' : ¬ (i : Int) < (X.length : Int) := by omega
                              clear r1 r2 y2 y4
                              go_upto_region 42 with fail
                              go_quiet (fail)
                              clear hw1 hw2
                              go_wp2_with fail
                              go_roundw
                              case rel => exact ⟨i + 1, by omega, by go_num, HBn _⟩
                              case measure => simp [intOf]; omega
                          · have hlt8' : ¬ (i : Int) < (X.length : Int) + 1 := by omega
                            clear hlt8 hi y1 y2 y4
                            go_upto_region 45 with fail
                            clear y3
                            go_loopw [18] (fun x18 wr => ∃ (j : Nat), j ≤ Y.length + 1 ∧ x18 = .int .i64 (j : Int) ∧ Hid (Below wz.heap.size wz wr)) (fun x18 _ => Y.length + 1 - (intOf x18).toNat)
                            case atStart => exact ⟨0, Nat.zero_le _, rfl, HBi⟩
                            case round =>
                              obtain ⟨j, hj, rfl, HBj⟩ := hrel
                              generalize wr = wc at *
                              clear HBi
                              obtain ⟨⟨y1, y2⟩, y3, y4⟩ := HCl.out _ HBj.out
                              by_cases hlt9 : j < Y.length + 1
                              · have hlt9' : (j : Int) < (Y.length : Int) + 1 := by omega
                                have hx2 := HMk.out.2.2.2.2 j hlt9
                                obtain ⟨-, -, r1, r2⟩ := HRw.out _ HBj.out
                                obtain ⟨ba, oa, rfl, -, h2⟩ := r2.open (by rw [HMk.out.2.2.2.1]; omega)
                                have c0 := h2 j (by rw [HMk.out.2.2.2.1]; omega)
                                rw [List.getD, hx2] at c0
                                simp only [Option.getD_some] at c0
                                clear h2 hx2
                                by_cases hin : j < Y.length
                                · have hin' : (j : Int) < (Y.length : Int) := by omega
                                  have hx1 := HMk.out.2.1.2 j hin
                                  obtain ⟨bb, ob, rfl, -, h1⟩ := r1.open (by rw [HMk.out.2.1.1]; omega)
                                  have d0 := h1 j (by rw [HMk.out.2.1.1]; omega)
                                  rw [List.getD, hx1] at d0
                                  simp only [Option.getD_some] at d0
                                  clear h1 hx1 r2 y1 y3
                                  go_wp2_with fail
                                  go_roundw
                                  case rel => exact ⟨j + 1, by omega, by go_num, HBj⟩
                                  case measure => simp [intOf]; omega
                                · have hin' : ¬ (j : Int) < (Y.length : Int) := by omega
                                  clear r1 r2 y1 y3
                                  go_wp2_with fail
                                  go_roundw
                                  case rel => exact ⟨j + 1, by omega, by go_num, HBj⟩
                                  case measure => simp [intOf]; omega
                              · have hlt9' : ¬ (j : Int) < (Y.length : Int) + 1 := by omega
                                clear hlt9 hj y1 y2 y3
                                go_wp2_with fail
                                go_roundw
                                case rel => exact ⟨q + 1, by omega, by go_num, HBj⟩
                                case measure => simp [intOf]; omega
                      · have hnq : ¬ (q : Int) < 3 := by omega
                        have hBa := below_to HBe.out HBq.out
                        have s0 := (KS.out.later hBa).cell 0; have s1 := (KS.out.later hBa).cell 1
                        simp at s0 s1
                        clear hlt hq
                        go_wp2_with fail
                        refine (HD6.out _ hBa).mono ?_
                        rintro e wd ⟨vCd, vEd, rfl, HCd, HEd, hBd⟩
                        obtain ⟨ad, cd, rfl, -, -, -⟩ := HCd.out.row
                        obtain ⟨bd, dd, rfl, -, -, -⟩ := HEd.out.row
                        obtain ⟨we, hwe⟩ : ∃ wx, wx = wd.alloc (.cells #[.bool false, .slice ad X.length cd, .slice bd Y.length dd] 31) := ⟨_, rfl⟩
                        have hBe : Below wd.heap.size wd we := by rw [hwe]; exact below1 _ _
                        have ke : Blk we wd.heap.size 31 [.bool false, .slice ad X.length cd, .slice bd Y.length dd] := by rw [hwe]; exact Blk.newA wd _ _
                        have hB6e := below_to hBa (below_to hBd hBe)
                        have HEe := hide_ (HEq.out we ad bd cd dd hB6e (HCd.out.later hBe).rowS (HEd.out.later hBe).rowS)
                        have kw := KW.out.later hB6e
                        have p0 := ke.cell 0; have p1 := ke.cell 1; have p2 := ke.cell 2
                        have q0 := kw.cell 0; have q1 := kw.cell 1; have q2 := kw.cell 2
                        simp at p0 p1 p2 q0 q1 q2
                        have HBf := hide_ (below_to HB6.out hB6e)
                        clear s0 s1 hBa hBd hBe ke hB6e kw HCd HEd
                        go_upto_region 50 with fail
                        rw [← hwe]
                        clear hwe
                        go_wp2_with (first
                          | (go_at_call 9; refine (HNu.out _ _).mono ?_; rintro e w' ⟨rfl, rfl⟩)
                          | (go_at_call 11; refine HEe.out.mono ?_; rintro e wf ⟨rfl, hBf⟩))
                        go_ret
                        exact ⟨rfl, below_to HBf.out hBf⟩
  · have hA' : (lowA U S != 0) = true := by simpa using hA
    have hA2 : (lowA U S == 0) = false := by simpa using hA
    generalize lowA U S = eA at *
    go_wp2_with (go_at_call 9; refine (HNu.out _ _).mono ?_; rintro e w' ⟨rfl, rfl⟩)
    go_ret
    exact ⟨rfl, HB6.out⟩
end Go.Proofs.Ytepmgbfdmbogiaa
/- What the reading of a schema says of memory. -/
namespace Go.Proofs.Ytepmgbfdmbogiaa
open Go.ChangeShapes Go.WideShapes Go.ChangeAt Go.RowKit
set_option linter.unusedVariables false

variable {H : Type} {enc : TypeId × Value → H} {w : World} {base : Nat} {held : Bool}
theorem len2R {cs : List Value} (h : cs.length = 2) : ∃ c0 c1, cs = [c0, c1] := by
  match cs, h with
  | [c0, c1], _ => exact ⟨c0, c1, rfl⟩
theorem len3R {cs : List Value} (h : cs.length = 3) : ∃ c0 c1 c2, cs = [c0, c1, c2] := by
  match cs, h with
  | [c0, c1, c2], _ => exact ⟨c0, c1, c2, rfl⟩
theorem len4R {cs : List Value} (h : cs.length = 4) : ∃ c0 c1 c2 c3, cs = [c0, c1, c2, c3] := by
  match cs, h with
  | [c0, c1, c2, c3], _ => exact ⟨c0, c1, c2, c3, rfl⟩
theorem cellsPt : Try.prog.cellsOf 56 = 3 := by kernel_rfl
theorem cellsTy : Try.prog.cellsOf 54 = 4 := by kernel_rfl
theorem cellsRt : Try.prog.cellsOf 58 = 2 := by kernel_rfl
theorem cellsSc : Try.prog.cellsOf 25 = 2 := by kernel_rfl
theorem bytesPt : Try.prog.bytesOf 56 = 32 := by kernel_rfl
theorem bytesTy : Try.prog.bytesOf 54 = 48 := by kernel_rfl
theorem bytesRt : Try.prog.bytesOf 58 = 24 := by kernel_rfl
theorem slice_weightR {P : Program} {t e : TypeId} (ht : P.underlying t = some (.slice e)) {fuel : Nat} {a0 : Option Addr} {len cap : Nat} {y : DataW H × List MemPlace} (h : DataW.trod enc P w base (fun _ => true) held fuel t [.slice a0 len cap] = some y) : len = 0 ∨ ∃ k, len ≤ k ∧ k * P.bytesOf e ∈ y.1.weights P t := by
  rcases Go.Deep.open_slice ht h with ⟨hcs, _⟩ | ⟨x, l, c, m, n, D, Pl, hcs, _, hl, hm, hmm, hy, hel⟩
  · left
    simp at hcs
    exact hcs.2.1
  · simp at hcs
    obtain ⟨rfl, rfl, rfl⟩ := hcs
    right
    subst hy
    simp only [DataW.weights, ht]
    refine ⟨_, ?_, List.mem_cons_self⟩
    simp
theorem slice_formR {P : Program} {t e : TypeId} (ht : P.underlying t = some (.slice e)) {fuel : Nat} {c : Value} {y : DataW H × List MemPlace} (h : DataW.trod enc P w base (fun _ => true) held fuel t [c] = some y) : ∃ a n cap, c = .slice a n cap ∧ n ≤ cap ∧ (a = none → cap = 0) ∧ n ≤ maxLen := by
  rcases Go.Deep.open_slice ht h with ⟨hcs, _⟩ | ⟨x, l, c', m, n, D, Pl, hcs, _, hl, hm, _⟩
  · simp at hcs
    exact ⟨none, 0, 0, hcs, Nat.le_refl _, fun _ => rfl, Nat.zero_le _⟩
  · simp at hcs
    exact ⟨some x, l, c', hcs, hl, (fun h => by cases h), Nat.le_trans hl hm⟩
theorem list_ofR {α : Type} (n : Nat) (Q : Nat → α → Prop) (h : ∀ i, i < n → ∃ x, Q i x) : ∃ l : List α, l.length = n ∧ ∀ i x, l[i]? = some x → Q i x := by
  induction n with
  | zero => exact ⟨[], rfl, fun i x h => by simp at h⟩
  | succ n ih =>
    obtain ⟨l, h1, h2⟩ := ih (fun i hi => h i (by omega))
    obtain ⟨x, hx⟩ := h n (by omega)
    refine ⟨l ++ [x], by simp [h1], fun i y hy => ?_⟩
    rcases Nat.lt_or_ge i l.length with hi | hi
    · rw [List.getElem?_append_left hi] at hy; exact h2 i y hy
    · rw [List.getElem?_append_right hi] at hy
      have h0 : i - l.length = 0 := by have := (List.getElem?_eq_some_iff.1 hy).1; simpa using this
      rw [h0] at hy
      simp at hy
      subst hy
      obtain rfl : i = n := by omega
      exact hx
theorem part_open {fuel : Nat} {cs : List Value} {y : DataW H × List MemPlace} (h : DataW.trod enc Try.prog w base (fun _ => true) held fuel 56 cs = some y) : ∃ x : Pt, cs = ptc x := by
  obtain ⟨hl, m, hf⟩ := field_read Try.underlying56 h
  rw [cellsPt] at hl
  obtain ⟨c0, c1, c2, rfl⟩ := len3R hl
  obtain ⟨y0, t0⟩ := hf 0 _ c0 rfl (by kernel_rfl) rfl
  obtain ⟨y1, t1⟩ := hf 1 _ c1 rfl (by kernel_rfl) rfl
  obtain ⟨y2, t2⟩ := hf 2 _ c2 rfl (by kernel_rfl) rfl
  obtain ⟨a0, k0, _, _⟩ := DataW.trod_string Try.underlying9 t0
  obtain ⟨a1, k1, _, _⟩ := DataW.trod_int Try.underlying3 t1
  obtain ⟨a2, k2, _, _⟩ := DataW.trod_int Try.underlying3 t2
  simp at k0 k1 k2
  subst k0 k1 k2
  exact ⟨⟨a0, a1, a2⟩, rfl⟩
theorem root_open {fuel : Nat} {cs : List Value} {y : DataW H × List MemPlace} (h : DataW.trod enc Try.prog w base (fun _ => true) held fuel 58 cs = some y) : ∃ x : Rt, cs = rtc x := by
  obtain ⟨hl, m, hf⟩ := field_read Try.underlying58 h
  rw [cellsRt] at hl
  obtain ⟨c0, c1, rfl⟩ := len2R hl
  obtain ⟨y0, t0⟩ := hf 0 _ c0 rfl (by kernel_rfl) rfl
  obtain ⟨y1, t1⟩ := hf 1 _ c1 rfl (by kernel_rfl) rfl
  obtain ⟨a0, k0, _, _⟩ := DataW.trod_string Try.underlying9 t0
  obtain ⟨a1, k1, _, _⟩ := DataW.trod_int Try.underlying3 t1
  simp at k0 k1
  subst k0 k1
  exact ⟨⟨a0, a1⟩, rfl⟩
theorem parts_open {fuel : Nat} {c : Value} {y : DataW H × List MemPlace} (h : DataW.trod enc Try.prog w base (fun _ => true) held fuel 52 [c] = some y) (hw : ∀ k ∈ y.1.weights Try.prog 52, k ≤ 140737488351232) :
    ∃ a cap l, c = .slice a l.length cap ∧ l.length ≤ cap ∧ (a = none → cap = 0) ∧ PRow w a l ∧ l.length ≤ 4398046510976 := by
  obtain ⟨a, n, cap, rfl, hc, hz, _⟩ := slice_formR Try.underlying52 h
  have hb : n ≤ 4398046510976 := by
    rcases slice_weightR Try.underlying52 h with h0 | ⟨k, h1, h2⟩
    · omega
    · have := hw _ h2
      rw [bytesPt] at this
      omega
  rcases structs_read Try.underlying52 (by rw [cellsPt]; omega) h with h0 | ⟨b, off, m, rfl, hbl, hlc, hcm, hel⟩
  · subst h0
    exact ⟨a, cap, [], rfl, hc, hz, .inl rfl, by simp⟩
  · rw [cellsPt] at hel
    obtain ⟨N, hN, hQ⟩ := list_ofR n (fun i (x : Pt) => ∀ j, j < 3 → w.cell? ⟨b, off + i * 3 + j, none⟩ = (ptc x)[j]?) (fun i hi => by
      obtain ⟨cs, z, _, hcell, ht⟩ := hel i hi
      obtain ⟨x, rfl⟩ := part_open ht
      exact ⟨x, hcell⟩)
    subst hN
    exact ⟨some ⟨b, off, none⟩, cap, N, rfl, hc, hz, .inr ⟨b, off, rfl, hbl, fun i x hx => hQ i x hx⟩, hb⟩
theorem roots_open {fuel : Nat} {c : Value} {y : DataW H × List MemPlace} (h : DataW.trod enc Try.prog w base (fun _ => true) held fuel 23 [c] = some y) (hw : ∀ k ∈ y.1.weights Try.prog 23, k ≤ 140737488351232) :
    ∃ a cap l, c = .slice a l.length cap ∧ l.length ≤ cap ∧ (a = none → cap = 0) ∧ RRow w a l ∧ l.length ≤ 5864062014634 := by
  obtain ⟨a, n, cap, rfl, hc, hz, _⟩ := slice_formR Try.underlying23 h
  have hb : n ≤ 5864062014634 := by
    rcases slice_weightR Try.underlying23 h with h0 | ⟨k, h1, h2⟩
    · omega
    · have := hw _ h2
      rw [bytesRt] at this
      omega
  rcases structs_read Try.underlying23 (by rw [cellsRt]; omega) h with h0 | ⟨b, off, m, rfl, hbl, hlc, hcm, hel⟩
  · subst h0
    exact ⟨a, cap, [], rfl, hc, hz, .inl rfl, by simp⟩
  · rw [cellsRt] at hel
    obtain ⟨N, hN, hQ⟩ := list_ofR n (fun i (x : Rt) => ∀ j, j < 2 → w.cell? ⟨b, off + i * 2 + j, none⟩ = (rtc x)[j]?) (fun i hi => by
      obtain ⟨cs, z, _, hcell, ht⟩ := hel i hi
      obtain ⟨x, rfl⟩ := root_open ht
      exact ⟨x, hcell⟩)
    subst hN
    exact ⟨some ⟨b, off, none⟩, cap, N, rfl, hc, hz, .inr ⟨b, off, rfl, hbl, fun i x hx => hQ i x hx⟩, hb⟩
/-- What may be copied. -/
def WtT (T : List Ty) : Prop := T.length ≤ 2932031007401 ∧ ∀ t ∈ T, t.ps.length ≤ 4398046510976
theorem WtT.lens {T : List Ty} (h : WtT T) : LensT T := ⟨by have := h.1; omega, fun t ht => by have := h.2 t ht; omega⟩
theorem type_open {fuel : Nat} {cs : List Value} {y : DataW H × List MemPlace} (h : DataW.trod enc Try.prog w base (fun _ => true) held fuel 54 cs = some y) (hw : ∀ k ∈ y.1.weights Try.prog 54, k ≤ 140737488351232) :
    ∃ (t : Ty) (va : Option Addr) (vc : Nat), cs = tyc t (.slice va t.ps.length vc) ∧ t.ps.length ≤ vc ∧ (va = none → vc = 0) ∧ PRow w va t.ps ∧ t.ps.length ≤ 4398046510976 := by
  obtain ⟨hl, m, hf⟩ := field_weigh Try.underlying54 h
  rw [cellsTy] at hl
  obtain ⟨c0, c1, c2, c3, rfl⟩ := len4R hl
  obtain ⟨y0, t0, _⟩ := hf 0 _ c0 rfl (by kernel_rfl) rfl
  obtain ⟨y1, t1, _⟩ := hf 1 _ c1 rfl (by kernel_rfl) rfl
  obtain ⟨y2, t2, _⟩ := hf 2 _ c2 rfl (by kernel_rfl) rfl
  obtain ⟨y3, t3, u3⟩ := hf 3 _ c3 rfl (by kernel_rfl) rfl
  obtain ⟨a0, k0, _, _⟩ := DataW.trod_int Try.underlying3 t0
  obtain ⟨a1, k1, _, _⟩ := DataW.trod_int Try.underlying3 t1
  obtain ⟨a2, k2, _, _⟩ := DataW.trod_int Try.underlying3 t2
  obtain ⟨va, vc, N, rfl, e1, e2, e3, e4⟩ := parts_open t3 (fun k hk => hw k (u3 k hk))
  simp at k0 k1 k2
  subst k0 k1 k2
  exact ⟨⟨a0, a1, a2, N⟩, va, vc, rfl, e1, e2, e3, e4⟩
theorem types_open {fuel : Nat} {c : Value} {y : DataW H × List MemPlace} (h : DataW.trod enc Try.prog w base (fun _ => true) held fuel 22 [c] = some y) (hw : ∀ k ∈ y.1.weights Try.prog 22, k ≤ 140737488351232) :
    ∃ a cap T, c = .slice a T.length cap ∧ T.length ≤ cap ∧ (a = none → cap = 0) ∧ TRow w a T ∧ WtT T := by
  obtain ⟨a, n, cap, rfl, hc, hz, _⟩ := slice_formR Try.underlying22 h
  have hb : n ≤ 2932031007401 := by
    rcases slice_weightR Try.underlying22 h with h0 | ⟨k, h1, h2⟩
    · omega
    · have := hw _ h2
      rw [bytesTy] at this
      omega
  rcases structs_weigh Try.underlying22 (by rw [cellsTy]; omega) h with h0 | ⟨b, off, m, rfl, hbl, hlc, hcm, hel⟩
  · subst h0
    exact ⟨a, cap, [], rfl, hc, hz, .inl rfl, by simp, fun d hd => by cases hd⟩
  · rw [cellsTy] at hel
    obtain ⟨D, hD, hQ⟩ := list_ofR n (fun i (d : Ty) => d.ps.length ≤ 4398046510976 ∧ ∃ va vc, (∀ j, j < 4 → w.cell? ⟨b, off + i * 4 + j, none⟩ = (tyc d (.slice va d.ps.length vc))[j]?) ∧ d.ps.length ≤ vc ∧ (va = none → vc = 0) ∧ PRow w va d.ps) (fun i hi => by
      obtain ⟨cs, z, _, hcell, ht, hzz⟩ := hel i hi
      obtain ⟨d, va, vc, rfl, e1, e2, e3, e4⟩ := type_open ht (fun k hk => hw k (hzz k hk))
      exact ⟨d, e4, va, vc, hcell, e1, e2, e3⟩)
    subst hD
    refine ⟨some ⟨b, off, none⟩, cap, D, rfl, hc, hz, .inr ⟨b, off, rfl, hbl, fun i d hd => (hQ i d hd).2⟩, hb, fun d hd => ?_⟩
    obtain ⟨i, hi, rfl⟩ := List.getElem_of_mem hd
    exact (hQ i _ (List.getElem?_eq_getElem hi)).1
theorem schema_open {fuel : Nat} {cs : List Value} {y : DataW H × List MemPlace} (h : DataW.trod enc Try.prog w base (fun _ => true) held fuel 25 cs = some y) (hw : ∀ k ∈ y.1.weights Try.prog 25, k ≤ 140737488351232) :
    ∃ a cap T ar cr R, cs = [.slice a T.length cap, .slice ar R.length cr] ∧ T.length ≤ cap ∧ (a = none → cap = 0) ∧ TRow w a T ∧ WtT T ∧ R.length ≤ cr ∧ (ar = none → cr = 0) ∧ RRow w ar R ∧ R.length ≤ 5864062014634 := by
  obtain ⟨hl, m, hf⟩ := field_weigh Try.underlying25 h
  rw [cellsSc] at hl
  obtain ⟨c0, c1, rfl⟩ := len2R hl
  obtain ⟨y0, t0, u0⟩ := hf 0 _ c0 rfl (by kernel_rfl) rfl
  obtain ⟨y1, t1, u1⟩ := hf 1 _ c1 rfl (by kernel_rfl) rfl
  obtain ⟨a, cap, T, rfl, e1, e2, e3, e4⟩ := types_open t0 (fun k hk => hw k (u0 k hk))
  obtain ⟨ar, cr, R, rfl, f1, f2, f3, f4⟩ := roots_open t1 (fun k hk => hw k (u1 k hk))
  exact ⟨a, cap, T, ar, cr, R, rfl, e1, e2, e3, e4, f1, f2, f3, f4⟩
end Go.Proofs.Ytepmgbfdmbogiaa
/- LowerApart, out of its walk. The frame round the walk is that of the tool proof-skeleton. -/
namespace Go.Proofs.Ytepmgbfdmbogiaa.lowerApart
open Go.ChangeShapes Go.WideShapes Go.ChangeAt Go.RowKit
set_option linter.unusedVariables false

theorem own : ownKnob Try.prog.godebug = none := by kernel_rfl
theorem laidOut : laidOutB Try.prog = true := by kernel_rfl
theorem cellsI : Try.prog.cellsOf 3 = 1 := by kernel_rfl

set_option maxRecDepth 100000 in
theorem lifted (os : Os) (started : os.Started) (H : Type) (enc : TypeId × Value → H) :
    ReturnsInHanded {} Try.checked os 4 .any (Rows.lowerApartSpec.pre6 enc Try.prog Try.f4 Rows.lowerApartRow.domain false) (Rows.lowerApartSpec.post enc Try.prog Try.f4 false true false false) := by
  refine returnsInHanded_of_change_sized (C := Try.checked) own started (by kernel_rfl) Try.func4
    (ChangeSpec.witness6 (enc := enc) (C := Try.checked) false ⟨#[], #[.agg #[.slice none 0 0, .slice none 0 0]], []⟩ 8 (by kernel_rfl) (by kernel_rfl) (by kernel_rfl) (by kernel_rfl)) ?_
  intro W base args ds gs before hval0 hW hcnd hsz0 _
  have hval : ∀ (j : Nat) t v, Try.f4.params[j]? = some t → args[j]? = some v → Value.okWide Try.prog W .any base t v := hval0
  have hsz : (DataW.weightsEach Try.prog (Try.f4.params.toList ++ Rows.lowerApartSpec.plain.varTypes Try.prog) (ds ++ gs)).all (· ≤ reachBytes) = true := hsz0
  have hW' := hW
  obtain ⟨p, q, hA0, hV, rfl, hfz, hnd⟩ := hW
  have hA : DataW.TrodAll enc Try.prog W 0 (fun _ => true) true Try.f4.params.toList args.toList ds p := hA0
  rw [Try.params4] at hA hval hsz
  obtain ⟨v0, vs0, d0, ds0, p0, q0, hargs, rfl, rfl, h0, r0⟩ := trodAll_cons hA
  obtain ⟨rfl, rfl, rfl⟩ := trodAll_nil r0
  obtain rfl : args = #[v0] := by cases args; simp_all
  obtain ⟨rfl, rfl⟩ := trodVars_none hV
  obtain ⟨cs0, rfl, _⟩ := okWide_struct Try.underlying25 (hval 0 25 v0 rfl rfl)
  have k0 := h0
  have lt0 : ∀ x ∈ p0, x.block < W.heap.size := by obtain ⟨m, hm⟩ := k0; exact DataW.trod_lt m _ _ _ hm
  have walk : Calls Try.prog 4 #[.agg cs0] W fun e w' => e = .returned (.bool true) ∧ Below W.heap.size W w' := by
    obtain ⟨fuel0, hf0⟩ := h0
    obtain ⟨a0, cap0, T0, ar0, cr0, R0, hcs0, hcT0, hnT0, hT0, hwT0, hcR0, hnR0, hR0, hwR0⟩ := schema_open hf0 (fun n hn => by
      have hm := List.all_eq_true.1 hsz _ (DataW.weights_mem_each (j := 0) rfl rfl _ hn)
      have hm2 : n ≤ reachBytes := of_decide_eq_true hm
      rw [show reachBytes = 140737488351232 from rfl] at hm2
      exact hm2)
    have e0 : cs0 = #[.slice a0 T0.length cap0, .slice ar0 R0.length cr0] := by
      have : cs0.toList = [.slice a0 T0.length cap0, .slice ar0 R0.length cr0] := hcs0
      exact Array.toList_inj.1 this
    subst e0
    exact lapart_any a0 cap0 T0 ar0 cr0 R0 W (by have := hwT0.1; omega) hwR0 (hide_ hwT0.2) (hide_ hT0) (hide_ hR0)
  clear hA0 hval0
  refine walk.mono fun e W' ⟨he, bel⟩ => ?_
  subst he
  exact ⟨_, rfl, _, _, _, [], _, [], hW', trodAll_mk1 (shut_bool Try.underlying4 _), (trodAll_cons_mk (Below.trod laidOut (by kernel_rfl) (of_decide_eq_true (by kernel_rfl)) k0 bel lt0) trodAll_mk0), rfl, bel.frame _, fun h => by cases h⟩

theorem over : Rows.lowerApartRow.holds Try.pinned (OpenSpec.ofChange Rows.lowerApartSpec) :=
  OpenClaim.holds_of_wide 4 Try.f4 rfl rfl rfl rfl rfl rfl rfl ⟨rfl, rfl, rfl, rfl, rfl⟩ rfl rfl rfl rfl rfl (by kernel_rfl) Try.func4 (by kernel_rfl)
    (of_decide_eq_true (by kernel_rfl)) (by unfold Func.isWrapper; first | (rw [if_pos (by decide +kernel)]; kernel_rfl) | (rw [if_neg (by decide +kernel)]; exact ⟨rfl, rfl⟩))
    (fun os started H enc _ => lifted os started H enc)

theorem proved : Rows.LowerApartSaid := over
end Go.Proofs.Ytepmgbfdmbogiaa.lowerApart
namespace Go.Proofs.Ytepmgbfdmbogiaa
theorem lowerApart_holds : Rows.LowerApartSaid := lowerApart.proved
#print axioms lowerApart_holds
end Go.Proofs.Ytepmgbfdmbogiaa
