/- CursorCuts: two inputs, the pieces that are given. -/
import Derived.Test.YtmeplmhngmlnaaaK
namespace Go.Proofs.Ytmeplmhngmlnaaa
open Go.RowKit
set_option linter.unusedVariables false

structure Duo (B : Nat) (w0 w : World) (bx bY : Nat) (vx vy : Value) (hx hy : List Int) (px py : Int) : Prop where
  x : InAt B w bx vx hx px false
  y : InAt B w bY vy hy py false
  sep : ∀ q, FI bx vx q → ¬ FI bY vy q
  bel : Below B w0 w
section
variable {B bx bY : Nat} {w0 w w' : World} {vx vy : Value} {hx hy h' : List Int} {px py p' : Int}
theorem Duo.swap (d : Duo B w0 w bx bY vx vy hx hy px py) : Duo B w0 w bY bx vy vx hy hx py px := ⟨d.y, d.x, fun q h1 h2 => d.sep q h2 h1, d.bel⟩
theorem Duo.later (d : Duo B w0 w bx bY vx vy hx hy px py) (hB : Below w.heap.size w w') : Duo B w0 w' bx bY vx vy hx hy px py :=
  ⟨d.x.later hB, d.y.later hB, d.sep, d.bel.trans (hB.mono d.x.base)⟩
theorem duo_x (d : Duo B w0 w bx bY vx vy hx hy px py) (s : InTo B w w' bx vx h' p' false) : ∃ vx', Duo B w0 w' bx bY vx' vy h' hy p' py := by
  obtain ⟨v', h1, h2, h3⟩ := s
  refine ⟨v', h1, d.y.upd h2 (fun k hk e => d.sep k e hk), fun q hq hq2 => ?_, d.bel.trans (in_below d.x h2)⟩
  rcases hq with rfl | hq
  · exact d.sep q (.inl rfl) hq2
  · rcases h3 q hq with e | e
    · exact d.sep q (.inr e) hq2
    · have := (d.y.fi q hq2).2; omega
theorem duo_y (d : Duo B w0 w bx bY vx vy hx hy px py) (s : InTo B w w' bY vy h' p' false) : ∃ vy', Duo B w0 w' bx bY vx vy' hx h' px p' := by
  obtain ⟨v', h⟩ := duo_x d.swap s
  exact ⟨v', h.swap⟩
end
/-- One is given the pieces, the other stays. -/
structure GiveSt (B : Nat) (w0 w : World) (b : Nat) (v : Value) (h : List Int) (b2 : Nat) (v2 : Value) (h2 : List Int) (p : Int) (row : Value) (N k : Nat) (F : Nat → Value) (P : Nat → List Int) : Prop where
  duo : Duo B w0 w b b2 v v2 h h2 p p
  pcs : Pcs B w row N k F P
  pi : ∀ j q, j < N → (F j).ownBlock = some q → ¬ FI b v q ∧ ¬ FI b2 v2 q
section
variable {B b b2 N k : Nat} {w0 w w' : World} {v v2 row : Value} {h h' h2 : List Int} {p : Int} {F : Nat → Value} {P : Nat → List Int}
theorem row_apart {t : TypeId} {xs : List Value} (g : GiveSt B w0 w b v h b2 v2 h2 p row N k F P) (q : Nat) (hq : row.ownBlock = some q) : ¬ FI b v q ∧ ¬ FI b2 v2 q := by
  constructor
  · rintro (e | e)
    · subst e; exact rowE_type g.pcs.row g.duo.x.blk (by decide) hq
    · obtain ⟨xs, hx⟩ := tail_blk g.duo.x.held e
      exact rowE_type g.pcs.row hx (by decide) hq
  · rintro (e | e)
    · subst e; exact rowE_type g.pcs.row g.duo.y.blk (by decide) hq
    · obtain ⟨xs, hx⟩ := tail_blk g.duo.y.held e
      exact rowE_type g.pcs.row hx (by decide) hq
theorem gv_give (g : GiveSt B w0 w b v h b2 v2 h2 p row N k F P) (s : InTo B w w' b v h' p false) : ∃ v', GiveSt B w0 w' b v' h' b2 v2 h2 p row N k F P := by
  have hu := s
  obtain ⟨v', h1, hU, h3⟩ := hu
  obtain ⟨v', h1, hU, h3⟩ := s
  have d' : Duo B w0 w' b b2 v' v2 h' h2 p p := by
    refine ⟨h1, g.duo.y.upd hU (fun k hk e => g.duo.sep k e hk), fun q hq hq2 => ?_, g.duo.bel.trans (in_below g.duo.x hU)⟩
    rcases hq with rfl | hq
    · exact g.duo.sep q (.inl rfl) hq2
    · rcases h3 q hq with e | e
      · exact g.duo.sep q (.inr e) hq2
      · have := (g.duo.y.fi q hq2).2; omega
  refine ⟨v', d', g.pcs.upd hU (fun q hq => (row_apart (t := 0) (xs := []) g q hq).1) (fun j q _ hj hq => (g.pi j q hj hq).1), fun j q hj hq => ⟨?_, (g.pi j q hj hq).2⟩⟩
  rintro (e | e)
  · exact (g.pi j q hj hq).1 (.inl e)
  · rcases h3 q e with e2 | e2
    · exact (g.pi j q hj hq).1 (.inr e2)
    · have := (g.pcs.lt j q hj hq).2; omega
/-- Piece k is written over, byte by byte. -/
def FillSt (B : Nat) (w0 w : World) (b : Nat) (v : Value) (h : List Int) (b2 : Nat) (v2 : Value) (h2 : List Int) (p : Int) (row : Value) (N k : Nat) (F : Nat → Value) (P : Nat → List Int) : Prop :=
  GiveSt B w0 w b v h b2 v2 h2 p row N (k + 1) F P ∧ ∃ L, Tail B w 5 .u8 (F k) L ∧ L.length = (P k).length
theorem fill_begin (g : GiveSt B w0 w b v h b2 v2 h2 p row N k F P) (hk : k < N) : FillSt B w0 w b v h b2 v2 h2 p row N k F P :=
  ⟨⟨g.duo, g.pcs.next, g.pi⟩, P k, g.pcs.tl k (Nat.le_refl _) hk, rfl⟩
theorem fill_one {a : Option Addr} {c i : Nat} (f : FillSt B w0 w b v h b2 v2 h2 p row N k F P) (hk : k < N) (hF : F k = .slice a (P k).length c) (hi : i < (P k).length) (x : Int) :
    ∃ g off, a = some ⟨g, off, none⟩ ∧ (∃ u, w.cell? ⟨g, off + i, none⟩ = some u) ∧ w.frozen? ⟨g, off + i, none⟩ = false ∧ FillSt B w0 (w.setCell ⟨g, off + i, none⟩ (.int .u8 x)) b v h b2 v2 h2 p row N k F P := by
  obtain ⟨G, L, hT, hL⟩ := f
  obtain ⟨g, off, c', e, _⟩ := hT.addr (by omega)
  have e2 := hF.symm.trans e
  injection e2 with e3 e4 e5
  subst e3 e5
  rw [hF] at hT
  obtain ⟨k1, k2, k3⟩ := hT.set i x (by omega)
  have hgo : (F k).ownBlock = some g := by rw [hF]; rfl
  have hu : Upd (fun q => q = g) w (w.setCell ⟨g, off + i, none⟩ (.int .u8 x)) := (Upd.refl (fun q => q = g) w).set _ _ (.inl rfl)
  have hp := G.pi k g hk hgo
  have hlo := (G.pcs.lt k g hk hgo).1
  obtain ⟨xs, hx⟩ := tail_blk hT rfl
  refine ⟨g, off, rfl, ⟨_, k1⟩, k2, ⟨⟨G.duo.x.upd hu (fun q hq e => hp.1 (by rw [← e]; exact hq)), G.duo.y.upd hu (fun q hq e => hp.2 (by rw [← e]; exact hq)), G.duo.sep, G.duo.bel.setCell hlo _⟩,
    G.pcs.upd hu (fun q hq e => rowE_type G.pcs.row hx (by decide) (by rw [← e]; exact hq)) (fun j q hkj hj hq e => G.pcs.inj j k hj hk (by omega) q hq (by rw [e]; exact hgo)), G.pi⟩, L.set i x, ?_, by rw [List.length_set]; exact hL⟩
  rw [hF]
  exact k3
theorem gv_start {N0 : Nat} (d : Duo B w0 w b b2 v v2 h h2 p p) (hB : Below w.heap.size w w') (hp : Pcs w.heap.size w' row N 0 F P) : GiveSt B w0 w' b v h b2 v2 h2 p row N 0 F P := by
  have hb := d.x.base
  refine ⟨d.later hB, ⟨?_, fun j hk hj => (hp.tl j hk hj).mono hb, hp.sh, hp.inj, fun j q hj hq => ⟨Nat.le_trans hb (hp.lt j q hj hq).1, (hp.lt j q hj hq).2⟩⟩, fun j q hj hq => ?_⟩
  · exact ⟨hp.row.1, hp.row.2.imp id (fun ⟨g, c, cur, h1, h2, h3⟩ => ⟨g, c, cur, h1, Nat.le_trans hb h2, h3⟩)⟩
  · have h1 := (hp.lt j q hj hq).1
    exact ⟨fun hk => by have := (d.x.fi q hk).2; omega, fun hk => by have := (d.y.fi q hk).2; omega⟩
end
/-- Behind k of the two turns. -/
def TurnSt (B : Nat) (w0 w : World) (bx bY : Nat) (r : List Int) (p : Int) (k : Nat) : Prop :=
  ∃ vx vy, Duo B w0 w bx bY vx vy (if 1 ≤ k then r else []) (if 2 ≤ k then r else []) p p
/-- The one that is given, in this turn. -/
def Given (B : Nat) (w0 w : World) (bx bY : Nat) (r : List Int) (p : Int) (k : Nat) (b b2 : Nat) (v v2 : Value) (h2 : List Int) : Prop :=
  Duo B w0 w b b2 v v2 [] h2 p p ∧ ∀ w' v' v2', Duo B w0 w' b b2 v' v2' r h2 p p → TurnSt B w0 w' bx bY r p (k + 1)
theorem given_0 {B bx bY : Nat} {w0 w : World} {r : List Int} {p : Int} (t : TurnSt B w0 w bx bY r p 0) : ∃ v v2, Given B w0 w bx bY r p 0 bx bY v v2 [] := by
  obtain ⟨vx, vy, d⟩ := t
  exact ⟨vx, vy, d, fun w' v' v2' d' => ⟨v', v2', d'⟩⟩
theorem given_1 {B bx bY : Nat} {w0 w : World} {r : List Int} {p : Int} (t : TurnSt B w0 w bx bY r p 1) : ∃ v v2, Given B w0 w bx bY r p 1 bY bx v v2 r := by
  obtain ⟨vx, vy, d⟩ := t
  exact ⟨vy, vx, d.swap, fun w' v' v2' d' => ⟨v2', v', d'.swap⟩⟩
theorem below_drewN (w : World) (n : Nat) : Below w.heap.size w (w.drewN n) := ⟨rfl, rfl, rfl, Nat.le_refl _, fun _ _ => rfl⟩
theorem not_in {n T : Int} {m K : Nat} {l : List Int} (hin : ¬ (m : Int) ≤ n - T) (hK : n - T = K) (hl : l.length = K) : ¬ (0 ≤ (m : Int) ∧ (m : Int) ≤ (l.length : Int)) := fun h => hin (by rw [hK, ← hl]; exact h.2)
theorem not_in2 {n T d : Int} {K : Nat} {l : List Int} (hin : ¬ (0 ≤ d ∧ d ≤ n - T)) (hK : n - T = K) (hl : l.length = K) : ¬ (0 ≤ d ∧ d ≤ (l.length : Int)) := fun h => hin ⟨h.1, by rw [hK, ← hl]; exact h.2⟩
/-- Behind T that were taken. -/
def StepSt (B : Nat) (w0 w : World) (bx bY : Nat) (r : List Int) (A T : Nat) : Prop :=
  ∃ vx vy, Duo B w0 w bx bY vx vy (r.drop T) (r.drop T) ((A : Int) + T) ((A : Int) + T)
theorem step_start {B bx bY A : Nat} {w0 w : World} {r : List Int} (t : TurnSt B w0 w bx bY r A 2) : StepSt B w0 w bx bY r A 0 := by
  obtain ⟨vx, vy, d⟩ := t
  refine ⟨vx, vy, ?_⟩
  rw [List.drop_zero, Int.ofNat_zero, Int.add_zero]
  exact d
theorem drop_get (r : List Int) (T : Nat) : (r.drop T).getD 0 0 = r.getD T 0 := by simp [List.getD]
/-- string(b[T:T+m]), as the model reckons the address. -/
theorem conv_mid {w0 w : World} {b off n c T m : Nat} {r : List Int} (hr : Row .u8 w0 (some ⟨b, off, none⟩) r) (hl : r.length = n) (hB : Below w0.heap.size w0 w) (hT : T + m ≤ n) :
    (∀ c', (convert 30 9 (.slice (some ⟨b, off + T, none⟩) m c')).run Try.prog w = .ok (.string (strOfNums ((r.drop T).take m))) w) ∧ (m = 0 → ∀ c', (convert 30 9 (.slice (some ⟨b, off, none⟩) 0 c')).run Try.prog w = .ok (.string (strOfNums ((r.drop T).take m))) w) := by
  refine ⟨fun c' => conv_row E30 Try.underlying9 w _ m c' _ (by rw [List.length_take, List.length_drop]; omega) (((hr.drop T).take m).later hB), fun h0 c' => ?_⟩
  subst h0
  rw [List.take_zero]
  exact conv_row E30 Try.underlying9 w _ 0 c' [] rfl ((hr.take 0).later hB)
end Go.Proofs.Ytmeplmhngmlnaaa
