/- first. -/
import Derived.Test.YtjeafblkmipdmaaYo
namespace Go.Proofs.Ytjeafblkmipdmaa
open Go.RowKit
set_option linter.unusedVariables false

def nx (k n : Int) (s : ByteArray) (kids a : Int) : Nd := ⟨k, n, s, ⟨#[]⟩, 0, kids, a⟩
def D3 : List Df := [⟨⟨#[97]⟩, 5, [nx 9 0 ⟨#[99]⟩ 0 9]⟩, ⟨⟨#[98]⟩, 17, [nx 5 3 ⟨#[]⟩ 1 21, nx 9 0 ⟨#[97]⟩ 0 26]⟩, ⟨⟨#[99]⟩, 38, [nx 2 0 ⟨#[]⟩ 0 42]⟩]
def D1 : List Df := [⟨⟨#[97]⟩, 7, [nx 9 0 ⟨#[97]⟩ 0 0]⟩]
theorem acy_rank {U : List (List Nat)} (r : Nat → Nat) (h : ∀ a c, c ∈ us U a → r c < r a) : Acy U := by
  have key : ∀ n a b, Ld U n a b → r b < r a := by
    intro n
    induction n with
    | zero => intro a b hb; exact h a b hb
    | succ n ih => intro a b ⟨c, h1, h2⟩; exact Nat.lt_trans (ih c b h2) (h a c h1)
  intro i ⟨n, hn⟩
  exact absurd (key n i i hn) (Nat.lt_irrefl _)
theorem us3 : usD D3 = [[2], [0], []] := by rfl
theorem us1 : usD D1 = [[0]] := by rfl
theorem us_rank3 : ∀ a c, c ∈ us [[2], [0], []] a → (fun i => if i = 0 then 1 else if i = 1 then 2 else 0) c < (fun i => if i = 0 then 1 else if i = 1 then 2 else 0) a := by
  intro a c h
  match a with
  | 0 => simp [us] at h; subst h; decide
  | 1 => simp [us] at h; subst h; decide
  | 2 => simp [us] at h
  | a + 3 => simp [us] at h
theorem ordr3 : Ordr (usD D3) [2, 0, 1] := by
  rw [us3]
  have h0 := (Ordr.nil ([[2], [0], []] : List (List Nat)))
  have h1 := h0.snoc (n := 2) (by decide) ⟨by simp, by simp [us]⟩ (fun m hm h => by
    match m, hm with
    | 0, _ => exact absurd (h.2 2 (by simp [us])) (by simp)
    | 1, _ => exact absurd (h.2 0 (by simp [us])) (by simp))
  have h2 := h1.snoc (n := 0) (by decide) ⟨by simp, by simp [us]⟩ (fun m hm => by omega)
  have h3 := h2.snoc (n := 1) (by decide) ⟨by simp, by simp [us]⟩ (fun m hm h => by
    match m, hm with
    | 0, _ => exact absurd h.1 (by simp))
  exact h3
theorem look3 : LookTo D3 0 0 [2, 0, 1] [1, 2, 1] := by
  refine lookTo_ok (by rfl) (by rfl) (by rw [us3]; exact acy_rank _ us_rank3) ordr3 rfl ⟨rfl, fun i d hd => ?_⟩ (fun j => ?_)
  · match i with
    | 0 => simp [D3] at hd; subst hd; rfl
    | 1 => simp [D3] at hd; subst hd; rfl
    | 2 => simp [D3] at hd; subst hd; rfl
    | i + 3 => simp [D3] at hd
  · match j with
    | 0 => decide
    | 1 => decide
    | 2 => decide
    | j + 3 => simp
theorem look1 : LookTo D1 82 7 [] [] := lookTo_ring (d := ⟨⟨#[97]⟩, 7, [nx 9 0 ⟨#[97]⟩ 0 0]⟩) (i := 0) (by rfl) (by rfl) rfl ⟨0, by rw [us1]; simp [Ld, us]⟩ (fun j h => by omega)
theorem bN (k : Int) (s : ByteArray) (a : Int) (w : World) : (Instr.build 38 #[(0, .int .i64 k), (2, .string s), (6, .int .i64 a)]).run Try.prog w = .ok (.agg #[.int .i64 k, .int .i64 0, .string s, .string ⟨#[]⟩, .int .i64 0, .int .i64 0, .int .i64 a]) w := by kernel_rfl
theorem bN2 (k : Int) (s : ByteArray) (w : World) : (Instr.build 38 #[(0, .int .i64 k), (2, .string s)]).run Try.prog w = .ok (.agg #[.int .i64 k, .int .i64 0, .string s, .string ⟨#[]⟩, .int .i64 0, .int .i64 0, .int .i64 0]) w := by kernel_rfl
theorem bL (k n d a : Int) (w : World) : (Instr.build 38 #[(0, .int .i64 k), (1, .int .i64 n), (5, .int .i64 d), (6, .int .i64 a)]).run Try.prog w = .ok (.agg #[.int .i64 k, .int .i64 n, .string ⟨#[]⟩, .string ⟨#[]⟩, .int .i64 0, .int .i64 d, .int .i64 a]) w := by kernel_rfl
theorem bB (k a : Int) (w : World) : (Instr.build 38 #[(0, .int .i64 k), (6, .int .i64 a)]).run Try.prog w = .ok (.agg #[.int .i64 k, .int .i64 0, .string ⟨#[]⟩, .string ⟨#[]⟩, .int .i64 0, .int .i64 0, .int .i64 a]) w := by kernel_rfl
theorem bD (s : ByteArray) (a : Int) (x : Option Addr) (n c : Nat) (w : World) : (Instr.build 41 #[(0, .string s), (1, .int .i64 a), (2, .slice x n c)]).run Try.prog w = .ok (.agg #[.string s, .int .i64 a, .slice x n c]) w := by kernel_rfl
theorem bS (x : Option Addr) (n c : Nat) (w : World) : (Instr.build 24 #[(0, .slice x n c)]).run Try.prog w = .ok (.agg #[.slice x n c]) w := by kernel_rfl
theorem nrow_blk {w : World} {g : Nat} {N : List Nd} (h : Blk w g 38 (cellsN N)) : NRow w (some ⟨g, 0, none⟩) N :=
  .inr ⟨g, 0, rfl, h.lt, fun i x hx j hj => by rw [h.cell, Nat.zero_add]; exact cellsN_at N i j x hx hj⟩
theorem drow_blk {w : World} {g : Nat} {D : List Df} {vs : List Value} (h : Blk w g 41 (cellsD D vs)) (hl : vs.length = D.length) (hv : ∀ (i : Nat) (d : Df) (v : Value), D[i]? = some d → vs[i]? = some v → ∃ va vc, v = .slice va d.ty.length vc ∧ d.ty.length ≤ vc ∧ (va = none → vc = 0) ∧ NRow w va d.ty) : DRow w (some ⟨g, 0, none⟩) D :=
  .inr ⟨g, 0, rfl, h.lt, fun i d hd => by
    have hi := (List.getElem?_eq_some_iff.1 hd).1
    have hvi : vs[i]? = some (vs[i]'(by omega)) := List.getElem?_eq_getElem _
    obtain ⟨va, vc, e, h2, h3, h4⟩ := hv i d _ hd hvi
    refine ⟨va, vc, fun j hj => ?_, h2, h3, h4⟩
    rw [e] at hvi
    rw [h.cell, Nat.zero_add]
    exact cellsD_at D vs i j d _ hd hvi hj⟩
theorem wt3 : Wt D3 := ⟨by decide, fun d hd => by simp [D3] at hd; rcases hd with rfl | rfl | rfl <;> decide⟩
theorem wt1 : Wt D1 := ⟨by decide, fun d hd => by simp [D1] at hd; subst hd; decide⟩
theorem nil_of {w : World} {B : Nat} {x : Option Addr} {n p m : Nat} {xs : List Value} (h : w.ownsRow B 3 1 (.slice x n p) m xs) : n = m := by
  rcases h.2 with ⟨e, rfl⟩ | ⟨g, cap, cur, e, _⟩
  · injection e
  · injection e with _ e _
set_option maxRecDepth 100000 in
set_option maxHeartbeats 8000000 in
theorem nFirst_any (w : World) : Calls Try.prog 4 #[] w fun e w' => e = .returned (.bool true) ∧ Below w.heap.size w w' := by
  have h1 := bN; have h2 := bN2; have h3 := bL; have h4 := bB; have h5 := bD; have h6 := bS; have h7 := bldF0; have h8 := bldF 82 7
  go_enter Try.func4, Try.ntmps4
  go_upto_region 2 with fail
  obtain ⟨W, hW⟩ : ∃ W, (((((w.alloc (.cells #[.int .i64 9, .int .i64 0, .string ⟨#[99]⟩, .string ⟨#[]⟩, .int .i64 0, .int .i64 0, .int .i64 9] 38)).alloc (.cells #[.int .i64 5, .int .i64 3, .string ⟨#[]⟩, .string ⟨#[]⟩, .int .i64 0, .int .i64 1, .int .i64 21, .int .i64 9, .int .i64 0, .string ⟨#[97]⟩, .string ⟨#[]⟩, .int .i64 0, .int .i64 0, .int .i64 26] 38)).alloc (.cells #[.int .i64 2, .int .i64 0, .string ⟨#[]⟩, .string ⟨#[]⟩, .int .i64 0, .int .i64 0, .int .i64 42] 38)).alloc (.cells #[.string ⟨#[97]⟩, .int .i64 5, .slice (some ⟨w.heap.size, 0, none⟩) 1 1, .string ⟨#[98]⟩, .int .i64 17, .slice (some ⟨w.heap.size + 1, 0, none⟩) 2 2, .string ⟨#[99]⟩, .int .i64 38, .slice (some ⟨w.heap.size + 1 + 1, 0, none⟩) 1 1] 41)).alloc (.cells #[.slice (some ⟨w.heap.size + 1 + 1 + 1, 0, none⟩) 3 3] 24)) = W := ⟨_, rfl⟩
  rw [hW]
  have k0 : Blk W (w.heap.size) 38 (cellsN [nx 9 0 ⟨#[99]⟩ 0 9]) := by
    have h := ((((Blk.newA w #[.int .i64 9, .int .i64 0, .string ⟨#[99]⟩, .string ⟨#[]⟩, .int .i64 0, .int .i64 0, .int .i64 9] 38).alloc (.cells #[.int .i64 5, .int .i64 3, .string ⟨#[]⟩, .string ⟨#[]⟩, .int .i64 0, .int .i64 1, .int .i64 21, .int .i64 9, .int .i64 0, .string ⟨#[97]⟩, .string ⟨#[]⟩, .int .i64 0, .int .i64 0, .int .i64 26] 38)).alloc (.cells #[.int .i64 2, .int .i64 0, .string ⟨#[]⟩, .string ⟨#[]⟩, .int .i64 0, .int .i64 0, .int .i64 42] 38)).alloc (.cells #[.string ⟨#[97]⟩, .int .i64 5, .slice (some ⟨w.heap.size, 0, none⟩) 1 1, .string ⟨#[98]⟩, .int .i64 17, .slice (some ⟨w.heap.size + 1, 0, none⟩) 2 2, .string ⟨#[99]⟩, .int .i64 38, .slice (some ⟨w.heap.size + 1 + 1, 0, none⟩) 1 1] 41)).alloc (.cells #[.slice (some ⟨w.heap.size + 1 + 1 + 1, 0, none⟩) 3 3] 24)
    rw [hW] at h
    exact h
  have k1 : Blk W (w.heap.size + 1) 38 (cellsN [nx 5 3 ⟨#[]⟩ 1 21, nx 9 0 ⟨#[97]⟩ 0 26]) := by
    have h := (((Blk.newA (w.alloc (.cells #[.int .i64 9, .int .i64 0, .string ⟨#[99]⟩, .string ⟨#[]⟩, .int .i64 0, .int .i64 0, .int .i64 9] 38)) #[.int .i64 5, .int .i64 3, .string ⟨#[]⟩, .string ⟨#[]⟩, .int .i64 0, .int .i64 1, .int .i64 21, .int .i64 9, .int .i64 0, .string ⟨#[97]⟩, .string ⟨#[]⟩, .int .i64 0, .int .i64 0, .int .i64 26] 38).alloc (.cells #[.int .i64 2, .int .i64 0, .string ⟨#[]⟩, .string ⟨#[]⟩, .int .i64 0, .int .i64 0, .int .i64 42] 38)).alloc (.cells #[.string ⟨#[97]⟩, .int .i64 5, .slice (some ⟨w.heap.size, 0, none⟩) 1 1, .string ⟨#[98]⟩, .int .i64 17, .slice (some ⟨w.heap.size + 1, 0, none⟩) 2 2, .string ⟨#[99]⟩, .int .i64 38, .slice (some ⟨w.heap.size + 1 + 1, 0, none⟩) 1 1] 41)).alloc (.cells #[.slice (some ⟨w.heap.size + 1 + 1 + 1, 0, none⟩) 3 3] 24)
    rw [hW, World.size_alloc] at h
    exact h
  have k2 : Blk W (w.heap.size + 1 + 1) 38 (cellsN [nx 2 0 ⟨#[]⟩ 0 42]) := by
    have h := ((Blk.newA ((w.alloc (.cells #[.int .i64 9, .int .i64 0, .string ⟨#[99]⟩, .string ⟨#[]⟩, .int .i64 0, .int .i64 0, .int .i64 9] 38)).alloc (.cells #[.int .i64 5, .int .i64 3, .string ⟨#[]⟩, .string ⟨#[]⟩, .int .i64 0, .int .i64 1, .int .i64 21, .int .i64 9, .int .i64 0, .string ⟨#[97]⟩, .string ⟨#[]⟩, .int .i64 0, .int .i64 0, .int .i64 26] 38)) #[.int .i64 2, .int .i64 0, .string ⟨#[]⟩, .string ⟨#[]⟩, .int .i64 0, .int .i64 0, .int .i64 42] 38).alloc (.cells #[.string ⟨#[97]⟩, .int .i64 5, .slice (some ⟨w.heap.size, 0, none⟩) 1 1, .string ⟨#[98]⟩, .int .i64 17, .slice (some ⟨w.heap.size + 1, 0, none⟩) 2 2, .string ⟨#[99]⟩, .int .i64 38, .slice (some ⟨w.heap.size + 1 + 1, 0, none⟩) 1 1] 41)).alloc (.cells #[.slice (some ⟨w.heap.size + 1 + 1 + 1, 0, none⟩) 3 3] 24)
    rw [hW, World.size_alloc, World.size_alloc] at h
    exact h
  have k3 : Blk W (w.heap.size + 1 + 1 + 1) 41 (cellsD D3 [.slice (some ⟨w.heap.size, 0, none⟩) 1 1, .slice (some ⟨w.heap.size + 1, 0, none⟩) 2 2, .slice (some ⟨w.heap.size + 1 + 1, 0, none⟩) 1 1]) := by
    have h := (Blk.newA (((w.alloc (.cells #[.int .i64 9, .int .i64 0, .string ⟨#[99]⟩, .string ⟨#[]⟩, .int .i64 0, .int .i64 0, .int .i64 9] 38)).alloc (.cells #[.int .i64 5, .int .i64 3, .string ⟨#[]⟩, .string ⟨#[]⟩, .int .i64 0, .int .i64 1, .int .i64 21, .int .i64 9, .int .i64 0, .string ⟨#[97]⟩, .string ⟨#[]⟩, .int .i64 0, .int .i64 0, .int .i64 26] 38)).alloc (.cells #[.int .i64 2, .int .i64 0, .string ⟨#[]⟩, .string ⟨#[]⟩, .int .i64 0, .int .i64 0, .int .i64 42] 38)) #[.string ⟨#[97]⟩, .int .i64 5, .slice (some ⟨w.heap.size, 0, none⟩) 1 1, .string ⟨#[98]⟩, .int .i64 17, .slice (some ⟨w.heap.size + 1, 0, none⟩) 2 2, .string ⟨#[99]⟩, .int .i64 38, .slice (some ⟨w.heap.size + 1 + 1, 0, none⟩) 1 1] 41).alloc (.cells #[.slice (some ⟨w.heap.size + 1 + 1 + 1, 0, none⟩) 3 3] 24)
    rw [hW, World.size_alloc, World.size_alloc, World.size_alloc] at h
    exact h
  have k4 : Blk W (w.heap.size + 1 + 1 + 1 + 1) 24 [.slice (some ⟨w.heap.size + 1 + 1 + 1, 0, none⟩) 3 3] := by
    have h := Blk.newA ((((w.alloc (.cells #[.int .i64 9, .int .i64 0, .string ⟨#[99]⟩, .string ⟨#[]⟩, .int .i64 0, .int .i64 0, .int .i64 9] 38)).alloc (.cells #[.int .i64 5, .int .i64 3, .string ⟨#[]⟩, .string ⟨#[]⟩, .int .i64 0, .int .i64 1, .int .i64 21, .int .i64 9, .int .i64 0, .string ⟨#[97]⟩, .string ⟨#[]⟩, .int .i64 0, .int .i64 0, .int .i64 26] 38)).alloc (.cells #[.int .i64 2, .int .i64 0, .string ⟨#[]⟩, .string ⟨#[]⟩, .int .i64 0, .int .i64 0, .int .i64 42] 38)).alloc (.cells #[.string ⟨#[97]⟩, .int .i64 5, .slice (some ⟨w.heap.size, 0, none⟩) 1 1, .string ⟨#[98]⟩, .int .i64 17, .slice (some ⟨w.heap.size + 1, 0, none⟩) 2 2, .string ⟨#[99]⟩, .int .i64 38, .slice (some ⟨w.heap.size + 1 + 1, 0, none⟩) 1 1] 41)) #[.slice (some ⟨w.heap.size + 1 + 1 + 1, 0, none⟩) 3 3] 24
    rw [hW, World.size_alloc, World.size_alloc, World.size_alloc, World.size_alloc] at h
    exact h
  have hBW : Below w.heap.size w W := by rw [← hW]; exact (((((Below.refl _ _).alloc (Nat.le_refl _) _).alloc (by simp) _).alloc (by simp; omega) _).alloc (by simp; omega) _).alloc (by simp; omega) _
  have hDR : DRow W (some ⟨w.heap.size + 1 + 1 + 1, 0, none⟩) D3 := drow_blk k3 rfl (fun i d v hd hv => by
    match i with
    | 0 => simp [D3] at hd hv; subst hd hv; exact ⟨_, _, rfl, by decide, fun h => (by cases h), nrow_blk k0⟩
    | 1 => simp [D3] at hd hv; subst hd hv; exact ⟨_, _, rfl, by decide, fun h => (by cases h), nrow_blk k1⟩
    | 2 => simp [D3] at hd hv; subst hd hv; exact ⟨_, _, rfl, by decide, fun h => (by cases h), nrow_blk k2⟩
    | i + 3 => simp [D3] at hd)
  have HDR := hide_ hDR
  have HBW := hide_ hBW
  have K4 := hide_ k4
  have H3 := hide_ look3
  have HW3 := hide_ wt3
  clear hW k0 k1 k2 k3 k4 hDR hBW h1 h3 h4
  have c0 := K4.out.cell 0
  simp at c0
  have HC1 : Hid (Calls Try.prog 7 #[.agg #[.slice (some ⟨w.heap.size + 1 + 1 + 1, 0, none⟩) 3 3]] W fun e w' => ∃ x n p, e = .returned (.tuple #[.slice x n p, .agg #[.int .i64 0, .int .i64 0]]) ∧ Hid (w'.ownsRow W.heap.size 3 1 (.slice x n p) 3 (cellsL .i64 [2, 0, 1])) ∧ Hid (Below W.heap.size W w')) := hide_ (nOrder_any H3.out _ 3 W HW3 HDR)
  go_upto_region 3 with (go_at_call 7; refine HC1.out.mono ?_; rintro e w1 ⟨x1, n1, p1, rfl, HO1, HB1⟩)
  obtain ⟨w1a, hw1a⟩ : ∃ w1a, w1.alloc (.cells #[.int .i64 0, .int .i64 0] 28) = w1a := ⟨_, rfl⟩
  have hB1a : Below w1.heap.size w1 w1a := by rw [← hw1a]; exact (Below.refl _ _).alloc (Nat.le_refl _) _
  have F1 : Hid (Blk w1a w1.heap.size 28 [.int .i64 0, .int .i64 0]) := by rw [← hw1a]; exact Blk.newA w1 #[.int .i64 0, .int .i64 0] 28
  have hBWa := below_to HB1.out hB1a
  have HDR1 := hide_ (HDR.out.later hBWa)
  have K4a := hide_ (K4.out.later hBWa)
  have HBW1 := hide_ (below_to HBW.out hBWa)
  have HO1a := hide_ (ownS_upd HO1.out (Upd.of_below (S := fun _ => False) hB1a) (fun _ _ h => h))
  rw [hw1a]
  clear hw1a hB1a hBWa HB1 HO1 HDR K4 HBW c0 HC1
  have c0 := K4a.out.cell 0
  simp at c0
  have HC2 : Hid (Calls Try.prog 8 #[.agg #[.slice (some ⟨w.heap.size + 1 + 1 + 1, 0, none⟩) 3 3]] w1a fun e w' => ∃ x n p, e = .returned (.tuple #[.slice x n p, .agg #[.int .i64 0, .int .i64 0]]) ∧ Hid (w'.ownsRow w1a.heap.size 3 1 (.slice x n p) 3 (cellsL .i64 [1, 2, 1])) ∧ Hid (Below w1a.heap.size w1a w')) := hide_ (nDepth_any H3.out _ 3 w1a HW3 HDR1)
  go_upto_region 4 with (go_at_call 8; refine HC2.out.mono ?_; rintro e w2 ⟨x2, n2, p2, rfl, HO2, HB2⟩)
  obtain ⟨w2a, hw2a⟩ : ∃ w2a, w2.alloc (.cells #[.int .i64 0, .int .i64 0] 28) = w2a := ⟨_, rfl⟩
  have hB2a : Below w2.heap.size w2 w2a := by rw [← hw2a]; exact (Below.refl _ _).alloc (Nat.le_refl _) _
  have F2 : Hid (Blk w2a w2.heap.size 28 [.int .i64 0, .int .i64 0]) := by rw [← hw2a]; exact Blk.newA w2 #[.int .i64 0, .int .i64 0] 28
  have hBWb := below_to HB2.out hB2a
  have HDR2 := hide_ (HDR1.out.later hBWb)
  have K4b := hide_ (K4a.out.later hBWb)
  have F1b := hide_ (F1.out.later hBWb)
  have HBW2 := hide_ (below_to HBW1.out hBWb)
  have HO1b := hide_ (ownS_upd HO1a.out (Upd.of_below (S := fun _ => False) hBWb) (fun _ _ h => h))
  have HO2b := hide_ (ownS_upd HO2.out (Upd.of_below (S := fun _ => False) hB2a) (fun _ _ h => h))
  rw [hw2a]
  clear hw2a hB2a hBWb HB2 HO2 HO1a HDR1 K4a HBW1 F1 c0 HC2
  have c0 := K4b.out.cell 0
  simp at c0
  have HC3 : Hid (Calls Try.prog 10 #[.agg #[.slice (some ⟨w.heap.size + 1 + 1 + 1, 0, none⟩) 3 3], .string ⟨#[98]⟩] w2a fun e w' => e = .returned (.tuple #[.int .i64 1, .int .i64 0]) ∧ Below w2a.heap.size w2a w') := hide_ (find_any (some ⟨w.heap.size + 1 + 1 + 1, 0, none⟩) 3 D3 ⟨#[98]⟩ w2a (by decide) HDR2)
  go_upto_region 5 with (go_at_call 10; refine HC3.out.mono ?_; rintro e w3 ⟨rfl, hB3⟩)
  have HDR3 := hide_ (HDR2.out.later hB3)
  have K4c := hide_ (K4b.out.later hB3)
  have F1c := hide_ (F1b.out.later hB3)
  have F2c := hide_ (F2.out.later hB3)
  have HBW3 := hide_ (below_to HBW2.out hB3)
  have HO1c := hide_ (ownS_upd HO1b.out (Upd.of_below (S := fun _ => False) hB3) (fun _ _ h => h))
  have HO2c := hide_ (ownS_upd HO2b.out (Upd.of_below (S := fun _ => False) hB3) (fun _ _ h => h))
  clear hB3 HO2b HO1b HDR2 K4b HBW2 F1b F2 c0 HC3
  have c0 := K4c.out.cell 0
  simp at c0
  have HC4 : Hid (Calls Try.prog 5 #[.agg #[.slice (some ⟨w.heap.size + 1 + 1 + 1, 0, none⟩) 3 3]] w3 fun e w' => e = .returned (.agg #[.int .i64 0, .int .i64 0]) ∧ Hid (Below w3.heap.size w3 w')) := hide_ (nCheck_any H3.out _ 3 w3 HW3 HDR3)
  obtain rfl := nil_of HO1c.out
  obtain rfl := nil_of HO2c.out
  have HSt : Hid (∀ w4, Below w3.heap.size w3 w4 → Blk w4 w1.heap.size 28 [.int .i64 0, .int .i64 0] ∧ Blk w4 w2.heap.size 28 [.int .i64 0, .int .i64 0] ∧ Row .i64 w4 x1 [2, 0, 1] ∧ Row .i64 w4 x2 [1, 2, 1]) := hide_ (fun w4 hB => by
    obtain ⟨a1, c1, e1, r1, _⟩ := own_open (k := .i64) (l := [2, 0, 1]) HO1c.out rfl
    obtain ⟨a2, c2, e2, r2, _⟩ := own_open (k := .i64) (l := [1, 2, 1]) HO2c.out rfl
    injection e1 with e1 _ _
    injection e2 with e2 _ _
    subst e1 e2
    exact ⟨F1c.out.later hB, F2c.out.later hB, r1.later hB, r2.later hB⟩)
  have HI : Hid (∀ (w4 : World) (y : Nat) (x : Option Addr) (p : Nat) (a b c : Int), Row .i64 w4 x [a, b, c] → Blk w4 y 3 [.int .i64 a, .int .i64 b, .int .i64 c] → Calls Try.prog 9 #[.slice x 3 p, .slice (some ⟨y, 0, none⟩) 3 3] w4 fun e w' => e = .returned (.bool true) ∧ Below w4.heap.size w4 w') := hide_ (fun w4 y x p a b c hr hb => by
    have h := ints_any x (some ⟨y, 0, none⟩) p 3 [a, b, c] [a, b, c] w4 (by simp) (by simp) (hide_ hr) (hide_ (Blk.row (k := .i64) (l := [a, b, c]) hb))
    rw [decide_eq_true rfl] at h
    exact h)
  clear HO1c HO2c F1c F2c HDR3
  go_upto_region 6 with (first
    | (go_at_call 5; refine HC4.out.mono ?_; rintro e w4 ⟨rfl, HB4⟩; obtain ⟨s1, s2, s3, s4⟩ := HSt.out w4 HB4.out; (have S3 := hide_ s3); (have S4 := hide_ s4); (have y0 := s1.cell 0); (have y1 := s1.cell 1); (have z0 := s2.cell 0); (have z1 := s2.cell 1); simp at y0 y1 z0 z1; clear s1 s2 s3 s4 c0)
    | fail)
  have hBa : Below w4.heap.size w4 (w4.alloc (.cells #[.int .i64 2, .int .i64 0, .int .i64 1] 3)) := (Below.refl _ _).alloc (Nat.le_refl _) _
  refine (HI.out _ w4.heap.size x1 p1 2 0 1 (S3.out.later hBa) (Blk.newA w4 #[.int .i64 2, .int .i64 0, .int .i64 1] 3)).mono ?_
  rintro e w5 ⟨rfl, hB5⟩
  have hB45 := below_to hBa hB5
  have HB35 := hide_ (below_to HB4.out hB45)
  have S4b := hide_ (S4.out.later hB45)
  clear hBa hB5 hB45 HB4 S3 S4 y0 y1 z0 z1 HC4 HSt
  go_upto_region 7 with fail
  have hBb : Below w5.heap.size w5 (w5.alloc (.cells #[.int .i64 1, .int .i64 2, .int .i64 1] 3)) := (Below.refl _ _).alloc (Nat.le_refl _) _
  refine (HI.out _ w5.heap.size x2 p2 1 2 1 (S4b.out.later hBb) (Blk.newA w5 #[.int .i64 1, .int .i64 2, .int .i64 1] 3)).mono ?_
  rintro e w6 ⟨rfl, hB6⟩
  have HB6 := hide_ (below_to HBW3.out (below_to HB35.out (below_to hBb hB6)))
  clear hBb hB6 HB35 S4b HI K4c HBW3
  have HC5 : Hid (∀ w7, DRow w7 (some ⟨w6.heap.size + 1, 0, none⟩) D1 → Calls Try.prog 5 #[.agg #[.slice (some ⟨w6.heap.size + 1, 0, none⟩) 1 1]] w7 fun e w' => e = .returned (.agg #[.int .i64 82, .int .i64 7]) ∧ Hid (Below w7.heap.size w7 w')) := hide_ (fun w7 h => nCheck_any look1 _ 1 w7 wt1 h)
  have HD1 : Hid (DRow ((w6.alloc (.cells #[.int .i64 9, .int .i64 0, .string ⟨#[97]⟩, .string ⟨#[]⟩, .int .i64 0, .int .i64 0, .int .i64 0] 38)).alloc (.cells #[.string ⟨#[97]⟩, .int .i64 7, .slice (some ⟨w6.heap.size, 0, none⟩) 1 1] 41)) (some ⟨w6.heap.size + 1, 0, none⟩) D1) := hide_ (by
    have k0 := (Blk.newA w6 #[.int .i64 9, .int .i64 0, .string ⟨#[97]⟩, .string ⟨#[]⟩, .int .i64 0, .int .i64 0, .int .i64 0] 38).alloc (.cells #[.string ⟨#[97]⟩, .int .i64 7, .slice (some ⟨w6.heap.size, 0, none⟩) 1 1] 41)
    have k1 := Blk.newA (w6.alloc (.cells #[.int .i64 9, .int .i64 0, .string ⟨#[97]⟩, .string ⟨#[]⟩, .int .i64 0, .int .i64 0, .int .i64 0] 38)) #[.string ⟨#[97]⟩, .int .i64 7, .slice (some ⟨w6.heap.size, 0, none⟩) 1 1] 41
    rw [World.size_alloc] at k1
    exact drow_blk (D := D1) (vs := [.slice (some ⟨w6.heap.size, 0, none⟩) 1 1]) k1 rfl (fun i d v hd hv => by
      match i with
      | 0 => simp [D1] at hd hv; subst hd hv; exact ⟨_, _, rfl, by decide, fun h => (by cases h), nrow_blk (N := [nx 9 0 ⟨#[97]⟩ 0 0]) k0⟩
      | i + 1 => simp [D1] at hd))
  have HBz := hide_ ((HB6.out.alloc HB6.out.size (.cells #[.int .i64 9, .int .i64 0, .string ⟨#[97]⟩, .string ⟨#[]⟩, .int .i64 0, .int .i64 0, .int .i64 0] 38)).alloc (by have := HB6.out.size; simp; omega) (.cells #[.string ⟨#[97]⟩, .int .i64 7, .slice (some ⟨w6.heap.size, 0, none⟩) 1 1] 41))
  go_wp2_with (go_at_call 5; refine (HC5.out _ HD1.out).mono ?_; rintro e w8 ⟨rfl, HB8⟩)
  go_ret
  exact ⟨rfl, below_to HBz.out HB8.out⟩
end Go.Proofs.Ytjeafblkmipdmaa
