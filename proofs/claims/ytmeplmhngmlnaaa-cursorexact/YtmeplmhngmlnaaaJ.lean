/- CursorCuts: bytes in pieces. -/
import Derived.Test.YtmeplmhngmlnaaaF
namespace Go.Proofs.Ytmeplmhngmlnaaa
open Go.RowKit
set_option linter.unusedVariables false

def joinN (P : Nat → List Int) : Nat → List Int
  | 0 => []
  | k + 1 => joinN P k ++ P k
theorem joinN_congr {P Q : Nat → List Int} (N : Nat) (h : ∀ j, j < N → P j = Q j) : joinN P N = joinN Q N := by
  induction N with
  | zero => rfl
  | succ N ih => rw [joinN, joinN, ih (fun j hj => h j (by omega)), h N (by omega)]
theorem joinN_le (P : Nat → List Int) (N k : Nat) (hk : k < N) : (joinN P k).length + (P k).length ≤ (joinN P N).length := by
  induction N with
  | zero => omega
  | succ N ih =>
    rw [joinN, List.length_append]
    by_cases h : k = N
    · subst h; omega
    · have := ih (by omega); omega
/-- A row of pieces: those from k on are as they were made. -/
structure Pcs (B : Nat) (w : World) (v : Value) (N k : Nat) (F : Nat → Value) (P : Nat → List Int) : Prop where
  row : RowE 30 B w v N F
  tl : ∀ j, k ≤ j → j < N → Tail B w 5 .u8 (F j) (P j)
  sh : ∀ j, j < N → ∃ a c, F j = .slice a (P j).length c ∧ (P j).length ≤ c
  inj : ∀ i j, i < N → j < N → i ≠ j → ∀ q, (F i).ownBlock = some q → (F j).ownBlock ≠ some q
  lt : ∀ j q, j < N → (F j).ownBlock = some q → B ≤ q ∧ q < w.heap.size
section
variable {B : Nat} {w w' : World} {v : Value} {N k : Nat} {F : Nat → Value} {P : Nat → List Int}
theorem Pcs.upd {S : Nat → Prop} (h : Pcs B w v N k F P) (hu : Upd S w w') (h1 : ∀ q, v.ownBlock = some q → ¬ S q) (h2 : ∀ j q, k ≤ j → j < N → (F j).ownBlock = some q → ¬ S q) : Pcs B w' v N k F P :=
  ⟨h.row.upd hu h1, fun j hk hj => (h.tl j hk hj).upd hu (fun q hq => h2 j q hk hj hq), h.sh, h.inj, fun j q hj hq => ⟨(h.lt j q hj hq).1, Nat.lt_of_lt_of_le (h.lt j q hj hq).2 hu.size⟩⟩
theorem Pcs.next (h : Pcs B w v N k F P) : Pcs B w v N (k + 1) F P := ⟨h.row, fun j hk hj => h.tl j (by omega) hj, h.sh, h.inj, h.lt⟩
theorem Pcs.nil (B : Nat) (w : World) : Pcs B w (.slice none 0 0) 0 0 (fun _ => .slice none 0 0) (fun _ => []) :=
  ⟨RowE.nil _ _ _ _, fun j _ hj => by omega, fun j hj => by omega, fun i j hi => by omega, fun j q hj => by omega⟩
theorem rowE_type {x : Nat} {t : TypeId} {xs : List Value} (h : RowE 30 B w v N F) (hb : Blk w x t xs) (ht : t ≠ 30) : v.ownBlock ≠ some x := own_ne_t h hb (fun e => ht e.symm)
theorem tail_blk {l : List Int} {u : Value} {q : Nat} (h : Tail B w 5 .u8 u l) (hq : u.ownBlock = some q) : ∃ xs, Blk w q 5 xs := by
  rcases h with ⟨rfl, _⟩ | ⟨g, cap, pre, post, rfl, _, h2, _⟩
  · cases hq
  · injection hq with hq
    have e' : g = q := hq
    subst e'
    exact ⟨_, h2⟩
end
/-- A copy more. -/
theorem pcs_push {B : Nat} {w : World} {v : Value} {N : Nat} {F : Nat → Value} {P : Nat → List Int} (h : Pcs B w v N 0 F P) (hB : B ≤ w.heap.size) (hN : N ≤ 2000000) (a : Option Addr) (m c : Nat) (r : List Int) (hr : r.length = m) (hrow : Row .u8 w a r) (hnil : a = none → c = 0) (hm : m ≤ 1000) :
    ∃ a1 c1 w1 g2 c2 w2 F2 P2, (Builtin.append_ #[30, 30] 30 #[.slice none 0 0, .slice a m c]).run Try.prog w = .ok (.slice a1 m c1) w1 ∧
      (Builtin.append_ #[22, 22] 22 #[v, .slice (some ⟨w1.heap.size, 0, none⟩) 1 1]).run Try.prog (w1.alloc (.cells #[.slice a1 m c1] 30)) = .ok (.slice (some ⟨g2, 0, none⟩) (N + 1) c2) w2 ∧
      Pcs B w2 (.slice (some ⟨g2, 0, none⟩) (N + 1) c2) (N + 1) 0 F2 P2 ∧ joinN P2 (N + 1) = joinN P N ++ r ∧ Upd (fun q => v.ownBlock = some q) w w2 ∧ (∀ j q, j < N + 1 → (F2 j).ownBlock = some q → (j < N ∧ (F j).ownBlock = some q) ∨ w.heap.size ≤ q) ∧ (v.ownBlock = some g2 ∨ w.heap.size ≤ g2) := by
  obtain ⟨v1, w1, r1, o1, gr1⟩ := run_copy E30 w 30 w.heap.size a m c r hr hrow hnil (by unfold maxLen; omega) (by omega) (Nat.le_refl _)
  have t1 := tail_of_owns o1 hr
  obtain ⟨a1, c1, e1, hr1, hn1, hc1, hcm1⟩ := t1.open
  rw [hr] at e1 hc1
  subst e1
  have hB1 : Below w.heap.size w w1 := (Below.refl _ _).grown gr1 (Nat.le_refl _) (fun k hk => by cases hk)
  have f1 : RowE 30 B w1 v N (ext F N (.slice a1 m c1)) := (h.row.later hB1).congr (fun j hj => (ext_ne _ _ _ _ (by omega)).symm)
  obtain ⟨g2, c2, w2, r2, f2, u2, l2⟩ := f1.push Try.underlying22 (z := .slice none 0 0) (bytes := 24) (by kernel_rfl) rfl (by rw [ext_at]; rfl) (by unfold maxLen; omega) (by omega) (Nat.le_trans hB hB1.size) 22
  rw [ext_at] at r2
  have hU : Upd (fun q => v.ownBlock = some q) w w2 := (Upd.of_below hB1).to u2
  have hnew : ∀ q, (Value.slice a1 m c1).ownBlock = some q → w.heap.size ≤ q ∧ q < w1.heap.size := fun q hq => t1.lt q hq
  refine ⟨a1, c1, w1, g2, c2, w2, ext F N (.slice a1 m c1), ext P N r, r1, r2, ⟨f2, fun j _ hj => ?_, fun j hj => ?_, fun i j hi hj hij q hq hq2 => ?_, fun j q hj hq => ?_⟩, ?_, hU, fun j q hj hq => ?_, ?_⟩
  · by_cases e : j = N
    · subst e
      rw [ext_at, ext_at]
      refine (t1.mono hB).upd u2 (fun q hq e => ?_)
      obtain ⟨xs, hx⟩ := tail_blk t1 hq
      exact rowE_type f1 hx (by decide) e
    · rw [ext_ne _ _ _ _ e, ext_ne _ _ _ _ e]
      have tj := (h.tl j (Nat.zero_le _) (by omega)).later hB1
      refine tj.upd u2 (fun q hq e => ?_)
      obtain ⟨xs, hx⟩ := tail_blk tj hq
      exact rowE_type f1 hx (by decide) e
  · by_cases e : j = N
    · subst e; rw [ext_at, ext_at, hr]; exact ⟨_, _, rfl, hc1⟩
    · rw [ext_ne _ _ _ _ e, ext_ne _ _ _ _ e]; exact h.sh j (by omega)
  · by_cases ei : i = N
    · subst ei
      rw [ext_at] at hq
      rw [ext_ne _ _ _ _ (fun e => hij e.symm)] at hq2
      have := (hnew q hq).1
      have := (h.lt j q (by omega) hq2).2
      omega
    · rw [ext_ne _ _ _ _ ei] at hq
      by_cases ej : j = N
      · subst ej
        rw [ext_at] at hq2
        have := (hnew q hq2).1
        have := (h.lt i q (by omega) hq).2
        omega
      · rw [ext_ne _ _ _ _ ej] at hq2
        exact h.inj i j (by omega) (by omega) hij q hq hq2
  · by_cases e : j = N
    · subst e
      rw [ext_at] at hq
      have := hnew q hq
      exact ⟨by omega, Nat.lt_of_lt_of_le this.2 u2.size⟩
    · rw [ext_ne _ _ _ _ e] at hq
      have := h.lt j q (by omega) hq
      exact ⟨this.1, Nat.lt_of_lt_of_le this.2 hU.size⟩
  · rw [joinN, ext_at, joinN_congr N (fun j hj => ext_ne P N r j (by omega))]
  · by_cases e : j = N
    · subst e
      rw [ext_at] at hq
      exact .inr (hnew q hq).1
    · rw [ext_ne _ _ _ _ e] at hq
      exact .inl ⟨by omega, hq⟩
  · rcases l2 with e | e
    · exact .inl e
    · exact .inr (Nat.le_trans hB1.size e)

/-- What cutInto keeps. -/
structure CutSt (B : Nat) (w : World) (v : Value) (N : Nat) (l r : List Int) (a : Option Addr) (c : Nat) : Prop where
  pcs : ∃ F P, Pcs B w v N 0 F P ∧ joinN P N ++ r = l
  row : Row .u8 w a r
  nil : a = none → c = 0
  le : r.length ≤ c
  big : c ≤ maxLen
  len : l.length ≤ 1000
/-- One piece more, the rest shorter. -/
theorem cut_push {B : Nat} {w0 w : World} {v : Value} {N : Nat} {l r : List Int} {a : Option Addr} {c : Nat} (h : CutSt B w v N l r a c) (hB : Below B w0 w) (hBs : B = w0.heap.size) (hN : N ≤ 2000000) (hr0 : Row .u8 w0 a r) (q : Nat) (hq : q ≤ r.length) :
    ∃ a1 c1 w1 g2 c2 w2, (Builtin.append_ #[30, 30] 30 #[.slice none 0 0, .slice a q c]).run Try.prog w = .ok (.slice a1 q c1) w1 ∧
      (Builtin.append_ #[22, 22] 22 #[v, .slice (some ⟨w1.heap.size, 0, none⟩) 1 1]).run Try.prog (w1.alloc (.cells #[.slice a1 q c1] 30)) = .ok (.slice (some ⟨g2, 0, none⟩) (N + 1) c2) w2 ∧
      (∃ F P, Pcs B w2 (.slice (some ⟨g2, 0, none⟩) (N + 1) c2) (N + 1) 0 F P ∧ joinN P (N + 1) ++ r.drop q = l) ∧ Below B w0 w2 := by
  obtain ⟨F, P, hP, hj⟩ := h.pcs
  have hl := h.len
  have hlr : r.length ≤ l.length := by rw [← hj, List.length_append]; omega
  obtain ⟨a1, c1, w1, g2, c2, w2, F2, P2, r1, r2, p2, j2, u2, _, _⟩ := pcs_push hP (hBs ▸ hB.size) hN a q c (r.take q) (by rw [List.length_take]; omega) (h.row.take q) h.nil (by omega)
  refine ⟨a1, c1, w1, g2, c2, w2, r1, r2, ⟨F2, P2, p2, ?_⟩, hB.trans (u2.below B (hBs ▸ hB.size) (fun k hk => (hP.row.lt k hk).1))⟩
  rw [j2, List.append_assoc, List.take_append_drop, hj]
end Go.Proofs.Ytmeplmhngmlnaaa
