/- Parse. -/
import Derived.Test.YtlbgdgobhiokpaaDoorU
namespace Go.Proofs.YtlbgdgobhiokpaaDoor
open Go.RowKit
set_option linter.unusedVariables false

def st00 : PS := ⟨0, [], [], false⟩
def parseN (t : List Int) : List Nd := if okM t (readT t st00) = true then (readT t st00).N else []
def parseF (t : List Int) : Int × Int := if okM t (readT t st00) = true then (0, 0) else (41, (readT t st00).p)
theorem ret12 {R : Ending → World → Prop} {tmps : Array Value} {g : Nat} {x y : Value} {w : World} (hp : tmps.getD 3 undef = .pointer (some ⟨g, 0, none⟩)) (hK : Blk w g 29 [x, y]) (hR : R (.returned (.tuple #[tmps.getD 2 undef, .agg #[x, y]])) w) :
    bodyPost Tryd.prog Tryd.f12 R Exit.ret ⟨tmps, []⟩ w :=
  bodyPost_ret (results_tmp_cell_row rfl _ _ _ _ #[x, y] _ _ hp hK Tryd.underlying29 rfl (by show _ = some 2; kernel_rfl)) rfl hR
set_option maxRecDepth 100000 in
set_option maxHeartbeats 8000000 in
theorem parse_any (s : ByteArray) (w : World) (hs : s.size ≤ 1048576) :
    Calls Tryd.prog 12 #[.string s] w fun e w' => ∃ v, e = .returned (.tuple #[v, fltv (parseF (tx s))]) ∧ Hid (w'.ownsRow w.heap.size 37 3 v (parseN (tx s)).length (cellsN (parseN (tx s)))) ∧ Below w.heap.size w w' := by
  obtain ⟨wA, hwA⟩ : ∃ wA, wA = (w.alloc (.cells #[.int .i64 0, .int .i64 0] 29)).alloc (.cells #[.string s, .int .i64 0, .slice none 0 0, .slice none 0 0, .bool false] 92) := ⟨_, rfl⟩
  have K29 : Hid (Blk wA w.heap.size 29 [.int .i64 0, .int .i64 0]) := by rw [hwA]; exact (Blk.newA w _ 29).alloc _
  have K92 : Blk wA (w.heap.size + 1) 92 [.string s, .int .i64 0, .slice none 0 0, .slice none 0 0, .bool false] := by
    rw [hwA]
    have := Blk.newA (w.alloc (.cells #[.int .i64 0, .int .i64 0] 29)) #[.string s, .int .i64 0, .slice none 0 0, .slice none 0 0, .bool false] 92
    simpa using this
  have HBA : Hid (Below w.heap.size w wA) := by rw [hwA]; exact ((Below.refl _ _).alloc (Nat.le_refl _) _).alloc (by simp) _
  have HRA : Hid (RAt w.heap.size wA (w.heap.size + 1) s st00) := ⟨_, _, K92, by omega, World.ownsRow_nil _ _ _ _, World.ownsRow_nil _ _ _ _⟩
  clear K92
  have hl : ¬ ((1048576 : Int) < (s.size : Int)) := by omega
  go_enter Tryd.func12, Tryd.ntmps12
  go_upto_region 4 with fail
  rw [← hwA]
  clear hwA
  go_wp2_with fail
  refine (read_any w.heap.size (w.heap.size + 1) s st00 wA HRA hs (PSok.begin _)).mono ?_; rintro e w1 ⟨rfl, H1, HK1⟩
  have K1 : Hid (Blk w1 w.heap.size 29 [.int .i64 0, .int .i64 0]) := HK1.out.oth _ _ _ (by decide) (by decide) (by decide) K29.out
  have HB1 : Hid (Below w.heap.size w w1) := HBA.out.trans HK1.out.bel
  have e0 := K1.out.cell 0; have e1 := K1.out.cell 1
  have z0 := K1.out.frozen 0; have z1 := K1.out.frozen 1
  simp at e0 e1
  have HN : Hid (parseN (tx s) = if okM (tx s) (readT (tx s) st00) = true then (readT (tx s) st00).N else []) := rfl
  have HF : Hid (parseF (tx s) = if okM (tx s) (readT (tx s) st00) = true then (0, 0) else (41, ((readT (tx s) st00).p : Int))) := rfl
  clear K29 HBA HRA HK1
  generalize readT (tx s) st00 = st at *
  obtain ⟨p, N, O, en⟩ := st
  obtain ⟨vn, vo, hr⟩ := H1.out
  have HR : Hid (Rdr w.heap.size w1 (w.heap.size + 1) s p vn vo N O en) := hr
  have c1 := HR.out.c1; have c2 := HR.out.c2
  clear hr H1
  cases hok : okM (tx s) ⟨p, N, O, en⟩ with
  | true =>
    rw [hok, if_pos rfl] at HN HF
    go_wp2
    exact ret12 rfl ((K1.out.set 0 _).set 1 _) ⟨vn, by rw [HF.out]; rfl, by rw [HN.out]; exact own_far (own_far HR.out.nod K1.out (by decide)) (K1.out.set 0 _) (by decide), (HB1.out.setCell (Nat.le_refl _) _).setCell (Nat.le_refl _) _⟩
  | false =>
    rw [hok, if_neg (by simp)] at HN HF
    go_wp2_with fail
    go_region
    go_wp2
    exact ret12 rfl ((K1.out.set 0 _).set 1 _).drew ⟨_, by rw [HF.out]; rfl, by rw [HN.out]; exact World.ownsRow_nil _ _ _ _, ((HB1.out.setCell (Nat.le_refl _) _).setCell (Nat.le_refl _) _).drew⟩
end Go.Proofs.YtlbgdgobhiokpaaDoor
