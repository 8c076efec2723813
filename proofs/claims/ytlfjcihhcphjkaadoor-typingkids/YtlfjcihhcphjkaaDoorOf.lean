/- typing.pushKids: its memory; unions; elements. -/
import Derived.Test.YtlfjcihhcphjkaaDoorOc
import Derived.Test.YtlfjcihhcphjkaaDoorPush
import Derived.Test.YtlfjcihhcphjkaaDoorShelf
import Derived.Test.YtlfjcihhcphjkaaDoorIo
namespace Go.Proofs.YtlfjcihhcphjkaaDoor
open Go.RowKit
set_option linter.unusedVariables false

/-- pushKids' memory: the boxes of the list and of the type, the list. -/
structure PkS (w0 w : World) (q B : Nat) (v : Value) (TC : List Value) (L : List Int) (v' : Value) : Prop where
  box : Blk w q 26 [v']
  ty : Blk w (q + 1) 64 TC
  own : IOwn w B v' L
  upd : Upd (fun k => v.ownBlock = some k) w0 w
  lies : ∀ k, v'.ownBlock = some k → v.ownBlock = some k ∨ w0.heap.size ≤ k
theorem PkS.later {w0 w w' : World} {q B : Nat} {v : Value} {TC : List Value} {L : List Int} {v' : Value} (h : PkS w0 w q B v TC L v') (hB : Below w.heap.size w w') : PkS w0 w' q B v TC L v' :=
  ⟨h.box.later hB, h.ty.later hB, h.own.later hB, h.upd.then hB, h.lies⟩
theorem PkS.push {w0 w : World} {q B : Nat} {v : Value} {TC : List Value} {L : List Int} {v' : Value} (h : PkS w0 w q B v TC L v') (x : Int) (hl : L.length ≤ 1000000000) (hB : B ≤ w0.heap.size) (hq : w0.heap.size ≤ q) :
    ∃ g cap w', (Builtin.append_ #[26, 26] 26 #[v', .slice (some ⟨w.heap.size, 0, none⟩) 1 1]).run Tryd.prog (w.alloc (.cells #[.int .i64 x] 3)) = .ok (.slice (some ⟨g, 0, none⟩) (L.length + 1) cap) w' ∧
      Blk w' q 26 [v'] ∧ PkS w0 (w'.setCell ⟨q, 0, none⟩ (.slice (some ⟨g, 0, none⟩) (L.length + 1) cap)) q B v TC (L ++ [x]) (.slice (some ⟨g, 0, none⟩) (L.length + 1) cap) ∧ Upd (fun k => k = q ∨ v'.ownBlock = some k) w (w'.setCell ⟨q, 0, none⟩ (.slice (some ⟨g, 0, none⟩) (L.length + 1) cap)) ∧ (∃ ys, Blk w' g 3 ys) := by
  obtain ⟨g, cap, w', h1, h2, h3, h4⟩ := h.own.push x (by omega) (Nat.le_trans hB h.upd.size)
  have nb : ∀ k t ys, Blk w k t ys → t ≠ 3 → ¬ v'.ownBlock = some k := fun k t ys hb ht e => by
    obtain ⟨zs, hz⟩ := ownS_type h.own e
    exact ht (blk_type hb hz)
  have hbox := h.box.upd h3 (nb _ _ _ h.box (by decide))
  have hty := h.ty.upd h3 (nb _ _ _ h.ty (by decide))
  obtain ⟨ys, hgy⟩ := ownS_type h2 (k := g) rfl
  have hgq : g ≠ q := fun e => absurd (blk_type hgy (e ▸ hbox)) (by decide)
  have hu : Upd (fun k => k = q ∨ v'.ownBlock = some k) w (w'.setCell ⟨q, 0, none⟩ (.slice (some ⟨g, 0, none⟩) (L.length + 1) cap)) := (h3.mono (T := fun k => k = q ∨ v'.ownBlock = some k) (fun k _ hk => .inr hk)).set _ _ (.inl (.inl rfl))
  refine ⟨g, cap, w', h1, hbox, ⟨?_, ?_, ?_, ?_, ?_⟩, hu, ys, hgy⟩
  · have h := hbox.set 0 (.slice (some ⟨g, 0, none⟩) (L.length + 1) cap)
    simpa using h
  · exact hty.other _ _ (by show q + 1 ≠ q; omega)
  · exact h2.upd ((Upd.refl (fun k => k = q) w').set _ _ (.inl rfl)) (fun k hk e => by have := own_is hk; omega)
  · refine (h.upd.trans h3 (fun k hk e => ?_)).set _ _ (.inr hq)
    rcases h.lies k e with h | h
    · exact h
    · omega
  · intro k hk
    obtain rfl := own_is hk
    rcases h4 with h4 | h4
    · exact h.lies _ h4
    · exact .inr (Nat.le_trans h.upd.size h4)
/-- What pushKids answers. -/
def PsTo (w : World) (B : Nat) (v : Value) (L' : List Int) (w' : World) (v' : Value) : Prop :=
  IOwn w' B v' L' ∧ Upd (fun k => v.ownBlock = some k) w w' ∧ ∀ k, v'.ownBlock = some k → v.ownBlock = some k ∨ w.heap.size ≤ k
theorem PkS.to {w0 w : World} {q B : Nat} {v : Value} {TC : List Value} {L : List Int} {v' : Value} (h : PkS w0 w q B v TC L v') : PsTo w0 B v L w v' := ⟨h.own, h.upd, h.lies⟩
theorem pks_start {w : World} {B : Nat} {v : Value} {L : List Int} (h : IOwn w B v L) (k n el : Int) (u : Value) (xk xn xd : Int) {w1 w2 w3 : World} (h1 : w1 = w.alloc (.cells #[v] 26)) (h2 : w2 = w1.alloc (.cells #[.int .i64 k, .int .i64 n, .int .i64 el, u] 64)) (h3 : w3 = w2.alloc (.cells #[.int .i64 xk, .int .u64 xn, .int .i64 xd] 49)) :
    PkS w w3 w.heap.size B v [.int .i64 k, .int .i64 n, .int .i64 el, u] L v ∧ Blk w3 (w.heap.size + 2) 49 [.int .i64 xk, .int .u64 xn, .int .i64 xd] ∧ Below w.heap.size w w3 ∧ w3.heap.size = w.heap.size + 3 := by
  have b1 : Below w.heap.size w w1 := by rw [h1]; exact below1 _ _
  have b2 : Below w1.heap.size w1 w2 := by rw [h2]; exact below1 _ _
  have b3 : Below w2.heap.size w2 w3 := by rw [h3]; exact below1 _ _
  have s1 : w1.heap.size = w.heap.size + 1 := by rw [h1]; simp
  have s2 : w2.heap.size = w.heap.size + 2 := by rw [h2]; simp [s1]
  have s3 : w3.heap.size = w.heap.size + 3 := by rw [h3]; simp [s2]
  have k1 : Blk w1 w.heap.size 26 [v] := by rw [h1]; exact Blk.newA w _ _
  have k2 : Blk w2 w1.heap.size 64 [.int .i64 k, .int .i64 n, .int .i64 el, u] := by rw [h2]; exact Blk.newA w1 _ _
  have k3 : Blk w3 w2.heap.size 49 [.int .i64 xk, .int .u64 xn, .int .i64 xd] := by rw [h3]; exact Blk.newA w2 _ _
  rw [s1] at k2
  rw [s2] at k3
  have hB := below_to (below_to b1 b2) b3
  exact ⟨⟨(k1.later b2).later b3, k2.later b3, h.later hB, Upd.of_below hB, fun k hk => .inl hk⟩, k3, hB, s3⟩
theorem repl_succ {α : Type} (j : Nat) (x : α) : List.replicate (j + 1) x = List.replicate j x ++ [x] := by rw [List.replicate_succ']
set_option maxRecDepth 100000 in
set_option maxHeartbeats 4000000 in
theorem pushE_any (v : Value) (L : List Int) (B : Nat) (k n el : Int) (ps : List Pt) (va : Option Addr) (vc : Nat) (xk xn : Int) (c : Nat) (w : World) (hk7 : (k == 7) = false) (hk8 : (k == 8) = false) (hc : c ≤ 1048576) (hL : L.length ≤ 10000000) (hB : B ≤ w.heap.size) (ho : Hid (IOwn w B v L)) :
    Calls Tryd.prog 32 #[v, .agg #[.int .i64 k, .int .i64 n, .int .i64 el, .slice va ps.length vc], .agg #[.int .i64 xk, .int .u64 xn, .int .i64 (c : Int)]] w fun e w' => ∃ v', e = .returned v' ∧ Hid (PsTo w B v (L ++ List.replicate c el) w' v') := by
  obtain ⟨a0, c0, rfl⟩ := ho.out.slice
  obtain ⟨w1, hw1⟩ : ∃ wx, wx = w.alloc (.cells #[.slice a0 L.length c0] 26) := ⟨_, rfl⟩
  obtain ⟨w2, hw2⟩ : ∃ wx, wx = w1.alloc (.cells #[.int .i64 k, .int .i64 n, .int .i64 el, .slice va ps.length vc] 64) := ⟨_, rfl⟩
  obtain ⟨w3, hw3⟩ : ∃ wx, wx = w2.alloc (.cells #[.int .i64 xk, .int .u64 xn, .int .i64 (c : Int)] 49) := ⟨_, rfl⟩
  obtain ⟨hP, hN, -, -⟩ := pks_start ho.out k n el (.slice va ps.length vc) xk xn c hw1 hw2 hw3
  have HP := hide_ hP
  have HN := hide_ hN
  have i0 := hP.ty.cell 0
  have j2 := hN.cell 2
  simp at i0 j2
  clear hP hN
  go_enter Tryd.func32, Tryd.ntmps32
  go_upto_region 1 with fail
  rw [← hw1, ← hw2, ← hw3]
  clear hw1 hw2 hw3
  go_wp2_with fail
  go_loopw [40] (fun x40 wr => ∃ (j : Nat) (v' : Value) (M : List Int), j ≤ c ∧ x40 = .int .i64 (j : Int) ∧ Hid (L ++ List.replicate j el = M) ∧ Hid (PkS w wr w.heap.size B (.slice a0 L.length c0) [.int .i64 k, .int .i64 n, .int .i64 el, .slice va ps.length vc] M v')) (fun x40 _ => c - (intOf x40).toNat)
  case atStart => exact ⟨0, .slice a0 L.length c0, L, Nat.zero_le _, rfl, hide_ (by simp), HP⟩
  case round =>
    obtain ⟨j, v', M, hj, rfl, HM, HS⟩ := hrel
    generalize wr = wq at *
    by_cases hlt : j < c
    · have hlt' : (j : Int) < c := by omega
      obtain ⟨g, cap, w8, hrun, hbx, hS8, -, -⟩ := HS.out.push el (by rw [← HM.out]; simp; omega) hB (Nat.le_refl _)
      have HR := hide_ hrun
      obtain ⟨av, cv, hav⟩ := HS.out.own.slice
      have s0 := HS.out.box.cell 0
      have t2 := HS.out.ty.cell 2
      have s8 := hbx.cell 0
      have z8 := hbx.frozen 0
      simp at s0 t2 s8
      have HS8 := hide_ hS8
      clear hrun hbx hS8 i0 j2
      subst hav
      go_wp2_with (at_builtin; refine wpList_append_run rfl (.tmp 42) (.tmp 45) 26 26 rfl rfl rfl HR.out ?_)
      go_roundw
      case rel => exact ⟨j + 1, _, _, by omega, by go_num, hide_ (by rw [repl_succ, ← List.append_assoc, HM.out]), HS8⟩
      case measure => simp [intOf]; omega
    · obtain rfl : j = c := by omega
      have s0 := HS.out.box.cell 0
      simp at s0
      go_wp2
      go_ret
      exact ⟨v', rfl, hide_ (by rw [HM.out]; exact HS.out.to)⟩
end Go.Proofs.YtlfjcihhcphjkaaDoor
