/- Lists of types of the call's own; doubles. -/
import Derived.Test.YtpkghpfdibnhcaaZx
namespace Go.Proofs.Ytpkghpfdibnhcaa
open Go.RowKit
set_option linter.unusedVariables false

/-! ### Lists of types of the call's own: each type with the slice of its parts -/
def tyq (p : Ty × Value) : List Value := tyc p.1 p.2
theorem tyq_len (p : Ty × Value) : (tyq p).length = 4 := rfl
/-- A type's parts lie in older memory, or in a block of parts. -/
def PtIn (w : World) (B : Nat) (ps : List Pt) (u : Value) : Prop := ∃ va vc, u = .slice va ps.length vc ∧ ps.length ≤ vc ∧ (va = none → vc = 0) ∧ PRow w va ps ∧ ∀ x, va = some x → x.block < B ∨ ∃ ys, Blk w x.block 45 ys
def TOwn (w : World) (B : Nat) (v : Value) (Q : List (Ty × Value)) : Prop := w.ownsRow B 43 4 v Q.length (cellsG tyq Q) ∧ ∀ p ∈ Q, PtIn w B p.1.ps p.2
theorem PtIn.upd {w w' : World} {B : Nat} {ps : List Pt} {u : Value} {S : Nat → Prop} (h : PtIn w B ps u) (hu : Upd S w w') (hs : ∀ k, S k → B ≤ k) (hn : ∀ k ys, S k → Blk w k 45 ys → False) : PtIn w' B ps u := by
  obtain ⟨va, vc, e, h1, h2, h3, h4⟩ := h
  have key : ∀ x, va = some x → ¬ S x.block := fun x hx hS => by
    rcases h4 x hx with h | ⟨ys, h⟩
    · have := hs _ hS; omega
    · exact hn _ ys hS h
  refine ⟨va, vc, e, h1, h2, h3.upd hu key, fun x hx => ?_⟩
  rcases h4 x hx with h | ⟨ys, h⟩
  · exact .inl h
  · exact .inr ⟨ys, h.upd hu (key x hx)⟩
theorem TOwn.later {w w' : World} {B : Nat} {v : Value} {Q : List (Ty × Value)} (h : TOwn w B v Q) (hB : Below w.heap.size w w') : TOwn w' B v Q :=
  ⟨ownS_upd h.1 (Upd.of_below (S := fun _ => False) hB) (fun _ _ h => h), fun p hp => (h.2 p hp).upd (Upd.of_below (S := fun _ => False) hB) (fun _ h => h.elim) (fun _ _ h => h.elim)⟩
/-- A store into a block of another type. -/
theorem TOwn.other {w : World} {B : Nat} {v : Value} {Q : List (Ty × Value)} (h : TOwn w B v Q) {g : Nat} {t : TypeId} {ys : List Value} (hb : Blk w g t ys) (hg : B ≤ g) (h1 : t ≠ 43) (h2 : t ≠ 45) (i : Nat) (u : Value) : TOwn (w.setCell ⟨g, i, none⟩ u) B v Q := by
  have hu : Upd (fun k => k = g) w (w.setCell ⟨g, i, none⟩ u) := (Upd.refl _ w).set _ _ (.inl rfl)
  refine ⟨ownS_upd h.1 hu (fun k hk e => ?_), fun p hp => (h.2 p hp).upd hu (fun k e => by omega) (fun k zs e hz => ?_)⟩
  · obtain ⟨zs, hz⟩ := ownS_type h.1 hk
    subst e
    exact h1 (blk_type hb hz)
  · subst e
    exact h2 (blk_type hb hz)
theorem infoT : (Try.prog.info? 43).map (fun i => (i.zero, i.size, i.bytes)) = some (some (.agg #[.int .i64 0, .int .i64 0, .int .i64 0, .slice none 0 0]), 4, 48) := by kernel_rfl
theorem TOwn.push {w : World} {B : Nat} {v : Value} {Q : List (Ty × Value)} (h : TOwn w B v Q) (t : Ty) (u : Value) (hu1 : u.oneCell' = true) (ht : PtIn w B t.ps u) (hl : Q.length ≤ 1000000000) (hB : B ≤ w.heap.size) :
    ∃ v' w', (Builtin.append_ #[28, 28] 28 #[v, .slice (some ⟨w.heap.size, 0, none⟩) 1 1]).run Try.prog (w.alloc (.cells #[.int .i64 t.k, .int .i64 t.n, .int .i64 t.e, u] 43)) = .ok v' w' ∧ TOwn w' B v' (Q ++ [(t, u)]) ∧ Upd (fun k => v.ownBlock = some k) w w' ∧ ∃ g c, v' = .slice (some ⟨g, 0, none⟩) (Q.length + 1) c := by
  obtain ⟨g, cap, w', h1, h2, h3, h4⟩ := run_pushS (P := Try.prog) (t := 28) (e := 43) (c := 4) Try.underlying28 infoT rfl (by decide) w 28 h.1 (tyc t u) rfl (fun x hx => by simp [tyc] at hx; rcases hx with rfl | rfl | rfl | rfl; rfl; rfl; rfl; exact hu1) (by unfold maxLen; omega) (by omega) hB
  have hs : ∀ k, v.ownBlock = some k → B ≤ k := fun k hk => (h.1.lt k hk).1
  have hn : ∀ k ys, v.ownBlock = some k → Blk w k 45 ys → False := fun k ys hk hb => by
    obtain ⟨zs, hz⟩ := ownS_type h.1 hk
    exact absurd (blk_type hz hb) (by decide)
  refine ⟨_, w', h1, ⟨?_, fun p hp => ?_⟩, h3, g, cap, rfl⟩
  · rw [cellsG_app, cellsG_one, List.length_append, List.length_singleton]
    exact h2
  · rcases List.mem_append.1 hp with hp | hp
    · exact (h.2 p hp).upd h3 hs hn
    · simp at hp
      subst hp
      exact ht.upd h3 hs hn
theorem TOwn.row {w : World} {B : Nat} {v : Value} {Q : List (Ty × Value)} (h : TOwn w B v Q) : ∃ a cap, v = .slice a (Q.map (·.1)).length cap ∧ TRow w a (Q.map (·.1)) := by
  obtain ⟨a, cap, rfl, -, -, hr⟩ := own_grow tyq_len h.1
  refine ⟨a, cap, by rw [List.length_map], ?_⟩
  rcases hr with rfl | ⟨b, off, rfl, hb, hc⟩
  · exact .inl rfl
  · refine .inr ⟨b, off, rfl, hb, fun i t ht => ?_⟩
    rw [List.getElem?_map, Option.map_eq_some_iff] at ht
    obtain ⟨p, hp, rfl⟩ := ht
    obtain ⟨va, vc, e, h1, h2, h3, -⟩ := h.2 p (List.mem_of_getElem? hp)
    refine ⟨va, vc, fun j hj => ?_, h1, h2, h3⟩
    rw [← e]
    exact hc i p hp j hj
theorem retSc {fn : Func} {p : Tmp} (h : fn.results = #[.cell p 31]) {R : Ending → World → Prop} {tmps : Array Value} {g : Nat} {w : World} {x y : Value} (hp : tmps.getD p undef = .pointer (some ⟨g, 0, none⟩)) (hK : Blk w g 31 [x, y]) (hR : R (.returned (.agg #[x, y])) w) :
    bodyPost Try.prog fn R Exit.ret ⟨tmps, []⟩ w :=
  bodyPost_ret (results_cell_row h _ _ _ _ #[x, y] _ _ hp (show w.heap[g]? = some (.cells #[x, y] 31 (0, 0)) from hK) Try.underlying31 rfl (by show _ = some 2; kernel_rfl)) rfl hR
/-! ### doubles, plain -/
def db1 (st : Bool) (i : Nat) : Ty := if st then ⟨8, 0, 0, [⟨⟨#[97]⟩, 0, (i : Int)⟩, ⟨⟨#[98]⟩, 0, (i : Int)⟩]⟩ else ⟨7, 0, 0, [⟨⟨#[]⟩, 0, (i : Int)⟩, ⟨⟨#[]⟩, 1, (i : Int)⟩]⟩
def dbT (n : Nat) (st : Bool) : List Ty := ⟨1, 1, 0, []⟩ :: (List.range n).map (db1 st)
theorem dbT_succ (n : Nat) (st : Bool) : dbT (n + 1) st = dbT n st ++ [db1 st n] := by simp [dbT, List.range_succ]
theorem dbT_len (n : Nat) (st : Bool) : (dbT n st).length = n + 1 := by simp [dbT]
theorem dbT_take {n : Nat} (h : n ≤ 63) (st : Bool) : dbT n st = (dbT 63 st).take (n + 1) := by
  simp only [dbT, List.take_succ_cons, ← List.map_take, List.take_range]
  rw [Nat.min_eq_left h]
def two (i : Nat) : Int := if i ≤ 62 then 2 ^ i else 4611686018427387904
theorem db_chk (st : Bool) : chk (dbT 63 st) [] = (0, 0) := by cases st <;> kernel_rfl
theorem db_extU : extL (dbT 63 false) = (List.range 64).map (fun i : Nat => (⟨decide (i = 0), 1 + (i : Int), 1 + (i : Int), 1 + (i : Int)⟩ : Ex)) := by kernel_rfl
theorem db_extS : extL (dbT 63 true) = (List.range 64).map (fun i : Nat => (⟨true, two i, two i, 1 + (i : Int)⟩ : Ex)) := by kernel_rfl
end Go.Proofs.Ytpkghpfdibnhcaa
