/- size: the small functions: withOffset, deepest, choice, row. -/
import Derived.Test.YtncndgfaalojpaaZg
namespace Go.Proofs.Ytncndgfaalojpaa
open Go.RowKit
set_option linter.unusedVariables false

/-- What a part takes. -/
def plus2 (a b : Int) : Int := capH (tot [a, b])
def offX (x : Ex) : Ex := if x.f then x else ⟨x.f, plus2 4 x.l, plus2 4 x.m, x.d⟩
theorem plus2_bd (a b : Int) : 0 ≤ plus2 a b ∧ plus2 a b ≤ 4611686018427387904 := by
  have := tot_nonneg [a, b]
  unfold plus2 capH
  split <;> omega
theorem plusB_any (a b : Int) (w : World) (t : TypeId) (g : Nat) (hk : Hid (Blk w g t [.int .i64 a, .int .i64 b])) : Calls Try.prog 48 #[.slice (some ⟨g, 0, none⟩) 2 2] w fun e w' => e = .returned (.int .i64 (plus2 a b)) ∧ w = w' := by
  refine plus_any (some ⟨g, 0, none⟩) 2 2 [a, b] w (by unfold maxLen; omega) rfl (.inr ⟨g, 0, rfl, fun i hi => ?_⟩)
  rw [Nat.zero_add, hk.out.cell]
  match i, hi with
  | 0, _ => rfl
  | 1, _ => rfl
def deepX (l : List Ex) : Int := l.foldl (fun d x => max d x.d) 0
theorem deepX_succ {l : List Ex} {m : Nat} {x : Ex} (h : l[m]? = some x) : deepX (l.take (m + 1)) = max (deepX (l.take m)) x.d := by
  have hm := (List.getElem?_eq_some_iff.1 h).1
  rw [List.take_succ_eq_append_getElem hm, (List.getElem?_eq_some_iff.1 h).2]
  simp [deepX]
def chX (l : List Ex) : Int × Int := l.foldl (fun s x => (min s.1 x.l, max s.2 x.m)) (4611686018427387904, 0)
theorem chX_succ {l : List Ex} {m : Nat} {x : Ex} (h : l[m]? = some x) : chX (l.take (m + 1)) = (min (chX (l.take m)).1 x.l, max (chX (l.take m)).2 x.m) := by
  have hm := (List.getElem?_eq_some_iff.1 h).1
  rw [List.take_succ_eq_append_getElem hm, (List.getElem?_eq_some_iff.1 h).2]
  simp [chX]
def rowX (l : List Ex) : Bool × Int × Int := l.foldl (fun s x => (s.1 && (offX x).f, plus2 s.2.1 (offX x).l, plus2 s.2.2 (offX x).m)) (true, 0, 0)
theorem rowX_succ {l : List Ex} {m : Nat} {x : Ex} (h : l[m]? = some x) : rowX (l.take (m + 1)) = ((rowX (l.take m)).1 && (offX x).f, plus2 (rowX (l.take m)).2.1 (offX x).l, plus2 (rowX (l.take m)).2.2 (offX x).m) := by
  have hm := (List.getElem?_eq_some_iff.1 h).1
  rw [List.take_succ_eq_append_getElem hm, (List.getElem?_eq_some_iff.1 h).2]
  simp [rowX]
set_option maxRecDepth 100000 in
set_option maxHeartbeats 4000000 in
theorem deepest_any (a : Option Addr) (c : Nat) (l : List Ex) (w : World) (hl : l.length ≤ 9223372036854775806) (hr : Hid (XRow w a l)) :
    Calls Try.prog 44 #[.slice a l.length c] w fun e w' => e = .returned (.int .i64 (deepX l)) ∧ Below w.heap.size w w' := by
  go_enter Try.func44, Try.ntmps44
  go_wp2_with fail
  go_loopw [3, 8] (fun x3 x8 wr => ∃ i : Nat, i ≤ l.length ∧ x8 = .int .i64 (i : Int) ∧ (∃ d, d = deepX (l.take i) ∧ x3 = .int .i64 d) ∧ Hid (Below w.heap.size w wr)) (fun _ x8 _ => l.length - (intOf x8).toNat)
  case atStart => exact ⟨0, Nat.zero_le _, rfl, ⟨_, rfl, rfl⟩, hide_ (Below.refl _ _)⟩
  case round =>
    obtain ⟨i, hi, rfl, ⟨d, hd, rfl⟩, HB⟩ := hrel
    have HD := hide_ hd
    clear hd
    generalize wr = wq at *
    by_cases hlt : i < l.length
    · have hlt' : (i : Int) < l.length := by omega
      obtain ⟨b, o, rfl, hb, hc⟩ := (hr.out.later HB.out).open (by omega)
      have hx : l[i]? = some (l[i]'hlt) := List.getElem?_eq_getElem hlt
      have hcx := hc i _ hx
      have HS := hide_ (deepX_succ hx)
      generalize l[i]'hlt = x at *
      obtain ⟨xf, xl, xm, xd⟩ := x
      have i0 := hcx 0 (by decide); have i1 := hcx 1 (by decide); have i2 := hcx 2 (by decide); have i3 := hcx 3 (by decide)
      simp [exc] at i0 i1 i2 i3
      rw [← HD.out] at HS
      simp only at HS
      have HBx := hide_ (below_to HB.out (below1 wq (.cells #[.bool xf, .int .i64 xl, .int .i64 xm, .int .i64 xd] 63)))
      clear hc hx hcx
      go_wp2_with fail
      all_goals
        go_roundw
        case rel => exact ⟨i + 1, by omega, by go_num, ⟨_, by rw [HS.out]; omega, rfl⟩, HBx⟩
        case measure => simp [intOf]; omega
    · obtain rfl : i = l.length := by omega
      have HV : Hid (deepX l = d) := hide_ (by rw [HD.out, List.take_length])
      go_wp2
      go_ret
      exact ⟨by rw [HV.out]; rfl, HB.out⟩
end Go.Proofs.Ytncndgfaalojpaa
