/- size: row. -/
import Derived.Test.YtncndgfaalojpaaZk
import Derived.Test.YtncndgfaalojpaaZl
namespace Go.Proofs.Ytncndgfaalojpaa
open Go.RowKit
set_option linter.unusedVariables false

set_option maxRecDepth 100000 in
set_option maxHeartbeats 8000000 in
theorem row_any (a : Option Addr) (c : Nat) (l : List Ex) (w : World) (hl : l.length ≤ 9223372036854775806) (hr : Hid (XRow w a l)) :
    Calls Try.prog 49 #[.slice a l.length c] w fun e w' => e = .returned (.tuple #[.bool (rowX l).1, .int .i64 (rowX l).2.1, .int .i64 (rowX l).2.2]) ∧ Below w.heap.size w w' := by
  go_enter Try.func49, Try.ntmps49
  go_wp2_with fail
  go_loopw [2, 3, 4, 10] (fun x2 x3 x4 x10 wr => ∃ i : Nat, i ≤ l.length ∧ x10 = .int .i64 (i : Int) ∧ (∃ f d e, Hid ((f, d, e) = rowX (l.take i)) ∧ x2 = .bool f ∧ x3 = .int .i64 d ∧ x4 = .int .i64 e) ∧ Hid (Below w.heap.size w wr)) (fun _ _ _ x10 _ => l.length - (intOf x10).toNat)
  case atStart => exact ⟨0, Nat.zero_le _, rfl, ⟨true, 0, 0, hide_ rfl, rfl, rfl, rfl⟩, hide_ (Below.refl _ _)⟩
  case round =>
    obtain ⟨i, hi, rfl, ⟨f, d, e, HD, rfl, rfl, rfl⟩, HB⟩ := hrel
    generalize wr = wq at *
    by_cases hlt : i < l.length
    · have hlt' : (i : Int) < l.length := by omega
      obtain ⟨b, o, rfl, hb, hc⟩ := (hr.out.later HB.out).open (by omega)
      have hx : l[i]? = some (l[i]'hlt) := List.getElem?_eq_getElem hlt
      have hcx := hc i _ hx
      have HS := hide_ (rowX_succ hx)
      generalize l[i]'hlt = x at *
      have i0 := hcx 0 (by decide); have i1 := hcx 1 (by decide); have i2 := hcx 2 (by decide); have i3 := hcx 3 (by decide)
      simp [exc] at i0 i1 i2 i3
      rw [← HD.out] at HS
      simp only at HS
      have kx := Blk.newA wq #[.bool x.f, .int .i64 x.l, .int .i64 x.m, .int .i64 x.d] 63
      have hBx := below1 wq (.cells #[.bool x.f, .int .i64 x.l, .int .i64 x.m, .int .i64 x.d] 63)
      obtain ⟨wx, hwx⟩ : ∃ wx, wx = wq.alloc (.cells #[.bool x.f, .int .i64 x.l, .int .i64 x.m, .int .i64 x.d] 63) := ⟨_, rfl⟩
      rw [← hwx] at kx hBx
      have HBx := hide_ (below_to HB.out hBx)
      have HCon := hide_ (withOffset_any x wx)
      have j0 := kx.cell 0; have j1 := kx.cell 1; have j2 := kx.cell 2; have j3 := kx.cell 3
      simp at j0 j1 j2 j3
      clear hc hx hcx kx hBx hb
      go_upto_region 5 with fail
      rw [← hwx]
      clear hwx i0 i1 i2 i3
      generalize offX x = y at *
      obtain ⟨yf, yl, ym, yd⟩ := y
      simp only [exv] at HCon HS
      go_wp2_with fail
      refine HCon.out.mono ?_; rintro e1 w1 ⟨rfl, hB1⟩
      have ky := Blk.newA w1 #[.bool yf, .int .i64 yl, .int .i64 ym, .int .i64 yd] 63
      have hBy := below1 w1 (.cells #[.bool yf, .int .i64 yl, .int .i64 ym, .int .i64 yd] 63)
      obtain ⟨wy, hwy⟩ : ∃ wy, wy = w1.alloc (.cells #[.bool yf, .int .i64 yl, .int .i64 ym, .int .i64 yd] 63) := ⟨_, rfl⟩
      rw [← hwy] at ky hBy
      have HBy := hide_ (below_to (below_to HBx.out hB1) hBy)
      have k0 := ky.cell 0; have k1 := ky.cell 1; have k2 := ky.cell 2
      simp at k0 k1 k2
      have hsy : w1.heap.size < wy.heap.size := ky.lt
      clear ky hBy hB1 j0 j1 j2 j3 HCon
      go_upto_region 6 with fail
      rw [← hwy]
      clear hwy
      obtain ⟨pl, hpl⟩ : ∃ pl, plus2 d yl = pl := ⟨_, rfl⟩
      obtain ⟨pm, hpm⟩ : ∃ pm, plus2 e ym = pm := ⟨_, rfl⟩
      have HP1 : Hid (∀ (w : World) (g : Nat), Hid (Blk w g 3 [.int .i64 d, .int .i64 yl]) → Calls Try.prog 48 #[.slice (some ⟨g, 0, none⟩) 2 2] w fun e w' => e = .returned (.int .i64 pl) ∧ w = w') := hide_ (fun w g h => by have := plusB_any d yl w 3 g h; rwa [hpl] at this)
      have HP2 : Hid (∀ (w : World) (g : Nat), Hid (Blk w g 3 [.int .i64 e, .int .i64 ym]) → Calls Try.prog 48 #[.slice (some ⟨g, 0, none⟩) 2 2] w fun e w' => e = .returned (.int .i64 pm) ∧ w = w') := hide_ (fun w g h => by have := plusB_any e ym w 3 g h; rwa [hpm] at this)
      rw [hpl, hpm] at HS
      clear hpl hpm
      obtain ⟨fy, hfy⟩ : ∃ fy, (f && yf) = fy := ⟨_, rfl⟩
      rw [hfy] at HS
      have HFY := hide_ hfy
      clear hfy
      go_cut [2] from 15 to 20 (fun x2 wc => x2 = .bool fy ∧ wy = wc)
      case first =>
        cases f with
        | true =>
          obtain rfl : yf = fy := HFY.out
          go_wp2
          go_meet
          case rel => exact ⟨rfl, rfl⟩
        | false =>
          obtain rfl : false = fy := HFY.out
          go_wp2
          go_meet
          case rel => exact ⟨rfl, rfl⟩
      case rest =>
      obtain ⟨rfl, rfl⟩ := hcut
      have HL : Hid (∀ A B : Obj, Hid (Below w.heap.size w ((wy.alloc A).alloc B).drew)) := hide_ (fun A B => hide_ (Below.drew ((HBy.out.alloc HBy.out.size A).alloc (by have := HBy.out.size; simp; omega) B)))
      go_upto_region 7 with fail
      go_wp2_with fail
      go_region_with (first
        | (go_at_call 48; first
            | (refine (HP1.out _ _ (hide_ (by first | exact Blk.newA _ _ _ | exact (blk2 _ _ _ _ _).1 | exact (blk2 _ _ _ _ _).2))).mono ?_; rintro e w' ⟨rfl, rfl⟩)
            | (refine (HP2.out _ _ (hide_ (by first | exact Blk.newA _ _ _ | exact (blk2 _ _ _ _ _).1 | exact (blk2 _ _ _ _ _).2))).mono ?_; rintro e w' ⟨rfl, rfl⟩)))
      all_goals
        go_wp2_with fail
        go_roundw
        case rel => exact ⟨i + 1, by omega, by go_num, ⟨_, _, _, hide_ HS.out.symm, rfl, rfl, rfl⟩, HL.out _ _⟩
        case measure => simp [intOf]; omega
    · obtain rfl : i = l.length := by omega
      have HV : Hid (rowX l = (f, d, e)) := hide_ (by rw [HD.out, List.take_length])
      go_wp2
      go_ret3
      exact ⟨by rw [HV.out]; rfl, HB.out⟩
end Go.Proofs.Ytncndgfaalojpaa
