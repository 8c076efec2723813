/- The law's alike, where it says yes. -/
import Derived.Test.YtnpkpmbpapekbaaEg
namespace Go.Proofs.Ytnpkpmbpapekbaa
open Go.RowKit
set_option linter.unusedVariables false

/-- Layouts that can be read. -/
def LRd (w : World) (a : Option Addr) (P : List (Ly × Value)) : Prop := GRow 2 lyc w a P ∧ ∀ p ∈ P, ∃ b c, p.2 = .slice b p.1.sl.length c ∧ GRow 3 slc w b p.1.sl
theorem LRd.later {w w' : World} {a : Option Addr} {P : List (Ly × Value)} (h : LRd w a P) (hB : Below w.heap.size w w') : LRd w' a P := ⟨h.1.later hB, fun p hp => by obtain ⟨b, c, e, g⟩ := h.2 p hp; exact ⟨b, c, e, g.later hB⟩⟩
theorem LOwn.rd {w : World} {B : Nat} {v : Value} {P : List (Ly × Value)} (h : LOwn w B v P) : ∃ a c, v = .slice a P.length c ∧ LRd w a P := by
  obtain ⟨a, c, e, -, g⟩ := h.slice
  exact ⟨a, c, e, g, fun p hp => by obtain ⟨b, d, e, -, -, g⟩ := (h.sl p hp).row; exact ⟨b, d, e, g⟩⟩
theorem bne_self3 (x : Int) : (x != x) = false := by simp
set_option maxRecDepth 100000 in
set_option maxHeartbeats 8000000 in
theorem alike_yes (a1 a2 : Option Addr) (c1 c2 n : Nat) (P1 P2 : List (Ly × Value)) (w : World) (hn : n ≤ 9000000000000) (hl1 : Hid (P1.length = n)) (hl2 : Hid (P2.length = n)) (hm : Hid (P1.map (·.1) = P2.map (·.1))) (hs : Hid (∀ p ∈ P1, p.1.sl.length ≤ 64)) (r1 : Hid (LRd w a1 P1)) (r2 : Hid (LRd w a2 P2)) :
    Calls Try.prog 17 #[.slice a1 n c1, .slice a2 n c2] w fun e w' => e = .returned (.bool true) ∧ Below w.heap.size w w' := by
  go_enter Try.func17, Try.ntmps17
  go_wp2_with fail
  go_loopw [5] (fun x5 wr => ∃ i : Nat, i ≤ n ∧ x5 = .int .i64 (i : Int) ∧ Hid (Below w.heap.size w wr)) (fun x5 _ => n - (intOf x5).toNat)
  case atStart => exact ⟨0, Nat.zero_le _, rfl, hide_ (Below.refl _ _)⟩
  case round =>
    obtain ⟨i, hi, rfl, HB⟩ := hrel
    generalize wr = wq at *
    by_cases hlt : i < n
    · have hlt' : (i : Int) < n := by omega
      have h1 : i < P1.length := by have := hl1.out; omega
      have h2 : i < P2.length := by have := hl2.out; omega
      have g1 : P1[i]? = some (P1[i]'h1) := List.getElem?_eq_getElem h1
      have g2 : P2[i]? = some (P2[i]'h2) := List.getElem?_eq_getElem h2
      have hsl := hs.out _ (List.getElem_mem h1)
      have hy : (P1[i]'h1).1 = (P2[i]'h2).1 := by
        have h := congrArg (fun l => l[i]?) hm.out
        simp only [List.getElem?_map, g1, g2, Option.map_some] at h
        injection h
      have R1 := hide_ (r1.out.later HB.out)
      have R2 := hide_ (r2.out.later HB.out)
      obtain ⟨b1, o1, e1, -, k1⟩ := R1.out.1.open (by omega)
      obtain ⟨b2, o2, e2, -, k2⟩ := R2.out.1.open (by omega)
      subst e1 e2
      have q1 := k1 i _ g1
      have q2 := k2 i _ g2
      obtain ⟨as1, cs1, f1, s1⟩ := R1.out.2 _ (List.getElem_mem h1)
      obtain ⟨as2, cs2, f2, s2⟩ := R2.out.2 _ (List.getElem_mem h2)
      generalize P1[i]'h1 = p1 at *
      generalize P2[i]'h2 = p2 at *
      obtain ⟨y1, v1⟩ := p1
      obtain ⟨y2, v2⟩ := p2
      simp only at hy hsl f1 f2 s1 s2
      subst hy f1 f2
      obtain ⟨yz, S⟩ := y1
      simp only at hsl s1 s2
      have x0 := q1 0 (by decide); have x1 := q1 1 (by decide)
      have z0 := q2 0 (by decide); have z1 := q2 1 (by decide)
      simp [lyc] at x0 x1 z0 z1
      have S1 := hide_ s1
      have S2 := hide_ s2
      have hne := bne_self3 yz
      have hne2 := bne_self3 (S.length : Int)
      clear k1 k2 q1 q2 g1 g2 h1 h2 s1 s2 R1 R2
      go_wp2_with fail
      go_quiet (fail)
      have HC : Hid (∀ w', Below wq.heap.size wq w' → w'.cell? ⟨b1, o1 + i * 2, none⟩ = some (.int .i64 yz) ∧ w'.cell? ⟨b1, o1 + i * 2 + 1, none⟩ = some (.slice as1 S.length cs1) ∧ w'.cell? ⟨b2, o2 + i * 2, none⟩ = some (.int .i64 yz) ∧ w'.cell? ⟨b2, o2 + i * 2 + 1, none⟩ = some (.slice as2 S.length cs2)) := hide_ (fun w' hb => ⟨(hb.cell (World.block_lt_of_cell? wq _ x0)).trans x0, (hb.cell (World.block_lt_of_cell? wq _ x1)).trans x1, (hb.cell (World.block_lt_of_cell? wq _ z0)).trans z0, (hb.cell (World.block_lt_of_cell? wq _ z1)).trans z1⟩)
      have HBq := hide_ (below_drewN (Below.refl wq.heap.size wq) nq)
      clear x0 x1 z0 z1
      obtain ⟨x0, x1, z0, z1⟩ := HC.out _ HBq.out
      go_wp2_with fail
      go_loopw [6] (fun x6 wr => ∃ k : Nat, k ≤ S.length ∧ x6 = .int .i64 (k : Int) ∧ Hid (Below wq.heap.size wq wr)) (fun x6 _ => S.length - (intOf x6).toNat)
      case atStart => exact ⟨0, Nat.zero_le _, rfl, HBq⟩
      case round =>
        obtain ⟨k, hk, rfl, HBk⟩ := hrel
        generalize wr = wk at *
        clear x0 x1 z0 z1 HBq
        obtain ⟨x0, x1, z0, z1⟩ := HC.out _ HBk.out
        by_cases hkl : k < S.length
        · have hkl' : (k : Int) < S.length := by omega
          have gs : S[k]? = some (S[k]'hkl) := List.getElem?_eq_getElem hkl
          obtain ⟨d1, t1, e1, -, k1⟩ := (S1.out.later HBk.out).open (by omega)
          obtain ⟨d2, t2, e2, -, k2⟩ := (S2.out.later HBk.out).open (by omega)
          subst e1 e2
          have q1 := k1 k _ gs
          have q2 := k2 k _ gs
          generalize S[k]'hkl = s at *
          obtain ⟨sa, sv, ss⟩ := s
          have m0 := q1 0 (by decide); have m1 := q1 1 (by decide); have m2 := q1 2 (by decide)
          have n0 := q2 0 (by decide); have n1 := q2 1 (by decide); have n2 := q2 2 (by decide)
          simp [slc] at m0 m1 m2 n0 n1 n2
          clear k1 k2 q1 q2 gs
          go_wp2_with fail
          go_quiet (fail)
          have HBz := hide_ (below_drewN HBk.out nq)
          go_wp2_with fail
          go_roundw
          case rel => exact ⟨k + 1, by omega, by go_num, HBz⟩
          case measure => simp [intOf]; omega
        · obtain rfl : k = S.length := by omega
          have HBz := hide_ (below_to HB.out HBk.out)
          go_wp2_with fail
          go_roundw
          case rel => exact ⟨i + 1, by omega, by go_num, HBz⟩
          case measure => simp [intOf]; omega
    · obtain rfl : i = n := by omega
      go_wp2
      go_ret
      exact ⟨rfl, HB.out⟩
end Go.Proofs.Ytnpkpmbpapekbaa
