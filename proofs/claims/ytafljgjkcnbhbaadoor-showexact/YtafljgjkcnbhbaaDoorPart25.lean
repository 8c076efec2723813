import Derived.Test.YtafljgjkcnbhbaaDoorPart23
import Derived.Test.YtafljgjkcnbhbaaDoorPart21
import Derived.Test.YtafljgjkcnbhbaaDoorPart18

/- The mark that the law lays. -/
namespace Go.Proofs.YtafljgjkcnbhbaaDoor
open Go.RowKit
set_option linter.unusedVariables false

theorem cells3 : Tryd.prog.cellsOf 3 = 1 := by kernel_rfl
theorem cells9 : Tryd.prog.cellsOf 9 = 1 := by kernel_rfl
theorem len7x {α : Type} {cs : List α} (h : cs.length = 7) : ∃ c0 c1 c2 c3 c4 c5 c6, cs = [c0, c1, c2, c3, c4, c5, c6] := by
  match cs, h with
  | [a, b, c, d, e, f, g], _ => exact ⟨a, b, c, d, e, f, g, rfl⟩
theorem str_lit {s : ByteArray} {l : List UInt8} (h : s.data.toList = l) : s = ⟨l.toArray⟩ := by
  apply ByteArray.ext
  apply Array.toList_inj.1
  simpa using h
theorem mark_cells {W : World} {fuel : Nat} {cs : List Value} {p : List MemPlace} (h : DataW.trod (fun _ => ()) Tryd.prog W 0 (fun _ => true) false fuel 38 cs = some (Rows.laid_mortise_mortiselaw07_mark, p)) : cs = ndc mkX := by
  obtain ⟨xs, n, _, hx, hl, hlen, hf⟩ := DataW.trod_struct Tryd.underlying38 h
  rw [cellsEx] at hl
  obtain ⟨c0, c1, c2, c3, c4, c5, c6, rfl⟩ := len7 hl
  obtain ⟨x0, x1, x2, x3, x4, x5, x6, rfl⟩ := len7x (show xs.length = 7 from hlen)
  have hd := congrArg Prod.fst hx
  have hd2 : (Rows.laid_mortise_mortiselaw07_mark : DataW Unit) = .agg [x0.1, x1.1, x2.1, x3.1, x4.1, x5.1, x6.1] := hd
  unfold Rows.laid_mortise_mortiselaw07_mark at hd2
  injection hd2 with hd2
  injection hd2 with e0 hd2
  injection hd2 with e1 hd2
  injection hd2 with e2 hd2
  injection hd2 with e3 hd2
  injection hd2 with e4 hd2
  injection hd2 with e5 hd2
  injection hd2 with e6 hd2
  have t0 : DataW.trod (fun _ => ()) Tryd.prog W 0 (fun _ => true) false n 3 (([c0, c1, c2, c3, c4, c5, c6].drop 0).take (Tryd.prog.cellsOf 3)) = some x0 := hf 0 _ rfl
  have t1 : DataW.trod (fun _ => ()) Tryd.prog W 0 (fun _ => true) false n 3 (([c0, c1, c2, c3, c4, c5, c6].drop 1).take (Tryd.prog.cellsOf 3)) = some x1 := hf 1 _ rfl
  have t2 : DataW.trod (fun _ => ()) Tryd.prog W 0 (fun _ => true) false n 9 (([c0, c1, c2, c3, c4, c5, c6].drop 2).take (Tryd.prog.cellsOf 9)) = some x2 := hf 2 _ rfl
  have t3 : DataW.trod (fun _ => ()) Tryd.prog W 0 (fun _ => true) false n 9 (([c0, c1, c2, c3, c4, c5, c6].drop 3).take (Tryd.prog.cellsOf 9)) = some x3 := hf 3 _ rfl
  have t4 : DataW.trod (fun _ => ()) Tryd.prog W 0 (fun _ => true) false n 3 (([c0, c1, c2, c3, c4, c5, c6].drop 4).take (Tryd.prog.cellsOf 3)) = some x4 := hf 4 _ rfl
  have t5 : DataW.trod (fun _ => ()) Tryd.prog W 0 (fun _ => true) false n 3 (([c0, c1, c2, c3, c4, c5, c6].drop 5).take (Tryd.prog.cellsOf 3)) = some x5 := hf 5 _ rfl
  have t6 : DataW.trod (fun _ => ()) Tryd.prog W 0 (fun _ => true) false n 3 (([c0, c1, c2, c3, c4, c5, c6].drop 6).take (Tryd.prog.cellsOf 3)) = some x6 := hf 6 _ rfl
  rw [cells3] at t0 t1 t4 t5 t6
  rw [cells9] at t2 t3
  obtain ⟨a0, k0, y0, _⟩ := DataW.trod_int Tryd.underlying3 t0
  obtain ⟨a1, k1, y1, _⟩ := DataW.trod_int Tryd.underlying3 t1
  obtain ⟨a2, k2, y2, _⟩ := DataW.trod_string Tryd.underlying9 t2
  obtain ⟨a3, k3, y3, _⟩ := DataW.trod_string Tryd.underlying9 t3
  obtain ⟨a4, k4, y4, _⟩ := DataW.trod_int Tryd.underlying3 t4
  obtain ⟨a5, k5, y5, _⟩ := DataW.trod_int Tryd.underlying3 t5
  obtain ⟨a6, k6, y6, _⟩ := DataW.trod_int Tryd.underlying3 t6
  simp at k0 k1 k2 k3 k4 k5 k6
  subst y0 y1 y2 y3 y4 y5 y6
  simp at e0 e1 e2 e3 e4 e5 e6
  subst k0 k1 k2 k3 k4 k5 k6
  have s2 := str_lit (l := [109, 97, 114, 107]) e2.symm
  have s3 : a3 = ⟨#[]⟩ := by first | exact str_lit (l := []) e3 | exact str_lit (l := []) e3.symm | (apply ByteArray.ext; simpa using e3)
  subst s2 s3
  rw [← e0, ← e1, ← e4, ← e5, ← e6]
  rfl
theorem gMark : Tryd.prog.globalNamed "mortise/mortiselaw07.mark" = some 0 := by kernel_rfl
theorem gMarkT : (Tryd.prog.globals[0]?).map (·.type) = some 38 := by kernel_rfl
theorem mark_of {W : World} (h : laidMetH Tryd.prog Rows.showExactRow.laid W) : MkW W := by
  have h1 : laidMet Tryd.prog Rows.showExactRow.laid W := h
  have h2 : laidMet Tryd.prog [("mortise/mortiselaw07.mark", Rows.laid_mortise_mortiselaw07_mark)] W := laidMet.tail (laidMet.tail (laidMet.tail h1))
  obtain ⟨ps, ⟨g', t', cs, fuel, p, q, hg', ht', hvar, hd, _, hps⟩, _, hfz⟩ := h2
  obtain rfl := Option.some.inj (gMark.symm.trans hg')
  obtain rfl := Option.some.inj (gMarkT.symm.trans ht')
  have hc := mark_cells hd
  have hcell : ∀ j, W.cell? ⟨0, j, none⟩ = (ndc mkX)[j]? := fun j => by
    have h3 := World.var?_cell gMark hvar j
    rw [h3, ← hc]
    simp
  exact ⟨World.block_lt_of_cell? W _ (hcell 0), fun j _ => hcell j⟩
theorem tab_size4 {W : World} (h : laidMetH Tryd.prog Rows.showExactRow.laid W) : 2 ≤ W.heap.size ∧ Lib.TabIs Tryd.prog W "internal/strconv.uint64pow10" .u64 Lib.pow10Tab := by
  have h1 : laidMet Tryd.prog Rows.showExactRow.laid W := h
  have h2 : laidMet Tryd.prog [("internal/strconv.uint64pow10", Rows.laid_internal_strconv_uint64pow10), ("mortise/mortiselaw07.mark", Rows.laid_mortise_mortiselaw07_mark)] W := laidMet.tail (laidMet.tail h1)
  rw [laid_pow] at h2
  have h3 := Lib.tabIs_of_head (e := 104) gPow gPowT (by kernel_rfl) (by kernel_rfl) (by kernel_rfl) cellsPow h2
  exact ⟨World.block_lt_of_cell? W _ (h3.cell gPow 0 (by decide)), h3⟩
theorem tab_of4 {W : World} (h : laidMetH Tryd.prog Rows.showExactRow.laid W) : Tab W.heap.size W := by
  obtain ⟨h1, h2⟩ := tab_size4 h
  refine ⟨h2, fun g hg => ?_⟩
  obtain rfl := Option.some.inj (gPow.symm.trans hg)
  omega
/-- The settled world with the mark laid too (block 0). -/
def laidIn4 (w : World) : World :=
  { laidIn w with heap := (laidIn w).heap.modify 0 fun
      | .cells _ t frozen => .cells #[.int .i64 99, .int .i64 7, .string ⟨#[109, 97, 114, 107]⟩, .string ⟨#[]⟩, .int .i64 0, .int .i64 0, .int .i64 0] t frozen
      | o => o }
end Go.Proofs.YtafljgjkcnbhbaaDoor
