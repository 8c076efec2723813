/- The closures that read an arm or a field; parts. -/
import Derived.Test.YtokepgimjdalaaaSe
namespace Go.Proofs.Ytokepgimjdalaaa
open Go.RowKit
set_option linter.unusedVariables false

theorem bld46 (a b : Int) (w : World) : (Instr.build 40 #[(4, .int .i64 a), (6, .int .i64 b)]).run Try.prog w = .ok (.agg #[.int .i64 0, .int .i64 0, .string ⟨#[]⟩, .string ⟨#[]⟩, .int .i64 a, .int .i64 0, .int .i64 b]) w := by kernel_rfl
theorem bld36 (a : ByteArray) (b : Int) (w : World) : (Instr.build 40 #[(3, .string a), (6, .int .i64 b)]).run Try.prog w = .ok (.agg #[.int .i64 0, .int .i64 0, .string ⟨#[]⟩, .string a, .int .i64 0, .int .i64 0, .int .i64 b]) w := by kernel_rfl
/-- What a closure has caught: the parser's pointer, the depth. -/
def Boxes (w : World) (bp bd g : Nat) (d : Int) : Prop := Blk w bp 71 [.pointer (some ⟨g, 0, none⟩)] ∧ Blk w bd 3 [.int .i64 d]
theorem Boxes.upd {w w' : World} {B g : Nat} {tv v : Value} {ts : List Tk} {L p : Nat} {N : List Nd} {bp bd : Nat} {d : Int} (h : Boxes w bp bd g d) (HP : Par w B g tv ts L p v N) (hu : Upd (fun k => k = g ∨ v.ownBlock = some k) w w') : Boxes w' bp bd g d := by
  refine ⟨h.1.upd hu ?_, h.2.upd hu ?_⟩
  · rintro (e | e)
    · subst e; exact absurd (blk_type HP.1 h.1) (by decide)
    · obtain ⟨ys, hy⟩ := ownS_type HP.2.2.1 e
      exact absurd (blk_type hy h.1) (by decide)
  · rintro (e | e)
    · subst e; exact absurd (blk_type HP.1 h.2) (by decide)
    · obtain ⟨ys, hy⟩ := ownS_type HP.2.2.1 e
      exact absurd (blk_type hy h.2) (by decide)
theorem Boxes.later {w w' : World} {g bp bd : Nat} {d : Int} (h : Boxes w bp bd g d) (hB : Below w.heap.size w w') : Boxes w' bp bd g d := ⟨h.1.later hB, h.2.later hB⟩
theorem arm_lt {qs : List Q} {sub : Nd → Nat → PR (List Nd × Nat)} {c i : Nat} {y : List Nd × Nat} (h : armP qs sub c i = .ok y) : c < 64 := by
  unfold armP at h
  obtain ⟨a, _, h2⟩ := bnd_is h
  unfold partP at h2
  by_cases hc : c < 64
  · exact hc
  · rw [decide_eq_false hc, if_neg (by decide)] at h2
    cases h2
theorem field_lt {qs : List Q} {sub : Nd → Nat → PR (List Nd × Nat)} {c i : Nat} {y : List Nd × Nat} (h : fieldP qs sub c i = .ok y) : c < 64 := by
  unfold fieldP at h
  obtain ⟨a, _, h2⟩ := bnd_is h
  unfold partP at h2
  by_cases hc : c < 64
  · exact hc
  · rw [decide_eq_false hc, if_neg (by decide)] at h2
    cases h2
set_option maxRecDepth 100000 in
set_option maxHeartbeats 4000000 in
theorem arm_any {f : Nat} (hN : Hid (NodeOk f)) {w : World} {B g : Nat} {tv v : Value} {ts : List Tk} {L p : Nat} {N : List Nd} (HP : Hid (Par w B g tv ts L p v N)) (hl : N.length ≤ p) {bp bd : Nat} {d : Nat} (hd : d + 1 + f = 17) (HX : Hid (Boxes w bp bd g d)) (c : Nat) (hc : c ≤ 64) :
    Calls Try.prog 55 #[.int .i64 c, .pointer (some ⟨bp, 0, none⟩), .pointer (some ⟨bd, 0, none⟩)] w fun e w' => NodeTo w B g tv ts L v N (armP (ts.map core) (nodeP (ts.map core) f) c p) e w' := by
  obtain ⟨r, hr⟩ : ∃ r, armP (ts.map core) (nodeP (ts.map core) f) c p = r := ⟨_, rfl⟩
  have HR := hide_ hr
  rw [hr]
  clear hr
  have HBc : Hid (decide ((c : Int) < 64) = decide (c < 64)) := by show _ = _; exact decide_eq_decide.2 (by omega)
  have hd17 : (d : Int) ≤ 16 := by omega
  have hbl := bld46
  have x0 := HX.out.1.cell 0
  have x1 := HX.out.2.cell 0
  simp at x0 x1
  go_enter Try.func55, Try.ntmps55
  go_wp2_with fail
  clear x0 x1
  refine (number_tok HP).mono ?_; rintro e w1 (⟨i1, hj, rfl, HP1, HU⟩ | ⟨y, hy, rfl, HU⟩)
  case inr =>
    have HJ := hide_ hy
    clear hy
    unfold Flt
    go_wp2
    exact ⟨rfl, .inr ⟨y, by rw [← HR.out]; unfold armP; rw [HJ.out, bnd_err], rfl, hide_ (Mv.of HU.out v).1⟩⟩
  have H1 := hide_ hj
  have hi1 := (tak_ok hj).1
  have HMv1 := hide_ (Mv.of HU.out v)
  have HX1 := hide_ (HX.out.upd HP.out HMv1.out.1)
  clear hj HU HX
  have HQ : Hid (tkAt ts L p = tkAt ts L p ∧ core (tkAt ts L p) = qAt (ts.map core) p) := ⟨rfl, (core_at ts L p).symm⟩
  obtain ⟨x, hx⟩ : ∃ x, tkAt ts L p = x := ⟨_, rfl⟩
  have HP0 : Hid ((x.a : Int) = plc ts L p) := by show _ = _; rw [← hx]; rfl
  rw [hx] at HQ ⊢
  clear hx
  have HBa := hide_ ((Below.refl w1.heap.size w1).alloc (Nat.le_refl _) (.cells #[.int .i64 x.k, .string x.t, .int .i64 x.n, .int .i64 x.a, .int .i64 x.e] 42))
  have KA := hide_ (Blk.newA w1 #[.int .i64 x.k, .string x.t, .int .i64 x.n, .int .i64 x.a, .int .i64 x.e] 42)
  have HPa := hide_ (HP1.out.later HBa.out)
  have HXa := hide_ (HX1.out.later HBa.out)
  have HMva := hide_ (HMv1.out.trans (Mv.of_below HBa.out g v))
  obtain ⟨wA, hwA⟩ : ∃ wA, wA = w1.alloc (.cells #[.int .i64 x.k, .string x.t, .int .i64 x.n, .int .i64 x.a, .int .i64 x.e] 42) := ⟨_, rfl⟩
  rw [← hwA] at KA HPa HXa HMva
  clear HBa HP1 HX1 HMv1
  have x0 := HXa.out.1.cell 0
  have x1 := HXa.out.2.cell 0
  have c1 := KA.out.cell 1; have c2 := KA.out.cell 2; have c3 := KA.out.cell 3
  simp at x0 x1 c1 c2 c3
  have HV : Hid (Value.agg #[.int .i64 0, .int .i64 0, .string ⟨#[]⟩, .string ⟨#[]⟩, .int .i64 x.n, .int .i64 0, .int .i64 x.a] = ndv (ndP ts L { nd0 with tag := (qAt (ts.map core) p).n, a := p })) := by
    show _ = _
    rw [HP0.out, ← HQ.out.2]
    rfl
  have HD : Hid ((d : Int) + 1 = ((d + 1 : Nat) : Int)) := by show _ = _; omega
  unfold tkv
  go_upto_region 1 with fail
  rw [← hwA]
  clear hwA
  go_wp2_with fail
  rw [HV.out, HBc.out, HD.out]
  have HPt := part_any hN HPa (by omega) (d + 1) hd { nd0 with tag := (qAt (ts.map core) p).n, a := p } (decide (c < 64)) (by rfl)
  refine HPt.mono ?_; clear HPt; rintro e w2 (⟨M, j, v', hj, rfl, HP3, HM3⟩ | ⟨y, hy, rfl, HU3⟩)
  · have HJ := hide_ hj
    clear hj
    go_wp2
    go_end0
    exact .inl ⟨M, j, v', by rw [← HR.out]; unfold armP; rw [H1.out, bnd_ok, HJ.out], rfl, HP3, hide_ (HMva.out.trans HM3.out)⟩
  · have HJ := hide_ hy
    clear hy
    unfold Flt
    go_wp2
    exact ⟨rfl, .inr ⟨y, by rw [← HR.out]; unfold armP; rw [H1.out, bnd_ok, HJ.out], rfl, hide_ (HMva.out.upd HU3.out)⟩⟩
set_option maxRecDepth 100000 in
set_option maxHeartbeats 4000000 in
theorem field_any {f : Nat} (hN : Hid (NodeOk f)) {w : World} {B g : Nat} {tv v : Value} {ts : List Tk} {L p : Nat} {N : List Nd} (HP : Hid (Par w B g tv ts L p v N)) (hl : N.length ≤ p) {bp bd : Nat} {d : Nat} (hd : d + 1 + f = 17) (HX : Hid (Boxes w bp bd g d)) (c : Nat) (hc : c ≤ 64) :
    Calls Try.prog 58 #[.int .i64 c, .pointer (some ⟨bp, 0, none⟩), .pointer (some ⟨bd, 0, none⟩)] w fun e w' => NodeTo w B g tv ts L v N (fieldP (ts.map core) (nodeP (ts.map core) f) c p) e w' := by
  obtain ⟨r, hr⟩ : ∃ r, fieldP (ts.map core) (nodeP (ts.map core) f) c p = r := ⟨_, rfl⟩
  have HR := hide_ hr
  rw [hr]
  clear hr
  have HBc : Hid (decide ((c : Int) < 64) = decide (c < 64)) := by show _ = _; exact decide_eq_decide.2 (by omega)
  have hd17 : (d : Int) ≤ 16 := by omega
  have hbl := bld36
  have x0 := HX.out.1.cell 0
  have x1 := HX.out.2.cell 0
  simp at x0 x1
  go_enter Try.func58, Try.ntmps58
  go_wp2_with fail
  clear x0 x1
  refine (name_tok HP).mono ?_; rintro e w1 (⟨i1, hj, rfl, HP1, HU⟩ | ⟨y, hy, rfl, HU⟩)
  case inr =>
    have HJ := hide_ hy
    clear hy
    unfold Flt
    go_wp2
    exact ⟨rfl, .inr ⟨y, by rw [← HR.out]; unfold fieldP; rw [HJ.out, bnd_err], rfl, hide_ (Mv.of HU.out v).1⟩⟩
  have H1 := hide_ hj
  have hi1 := (tak_ok hj).1
  have HMv1 := hide_ (Mv.of HU.out v)
  have HX1 := hide_ (HX.out.upd HP.out HMv1.out.1)
  clear hj HU HX
  have HQ : Hid (tkAt ts L p = tkAt ts L p ∧ core (tkAt ts L p) = qAt (ts.map core) p) := ⟨rfl, (core_at ts L p).symm⟩
  obtain ⟨x, hx⟩ : ∃ x, tkAt ts L p = x := ⟨_, rfl⟩
  have HP0 : Hid ((x.a : Int) = plc ts L p) := by show _ = _; rw [← hx]; rfl
  rw [hx] at HQ ⊢
  clear hx
  have HBa := hide_ ((Below.refl w1.heap.size w1).alloc (Nat.le_refl _) (.cells #[.int .i64 x.k, .string x.t, .int .i64 x.n, .int .i64 x.a, .int .i64 x.e] 42))
  have KA := hide_ (Blk.newA w1 #[.int .i64 x.k, .string x.t, .int .i64 x.n, .int .i64 x.a, .int .i64 x.e] 42)
  have HPa := hide_ (HP1.out.later HBa.out)
  have HXa := hide_ (HX1.out.later HBa.out)
  have HMva := hide_ (HMv1.out.trans (Mv.of_below HBa.out g v))
  obtain ⟨wA, hwA⟩ : ∃ wA, wA = w1.alloc (.cells #[.int .i64 x.k, .string x.t, .int .i64 x.n, .int .i64 x.a, .int .i64 x.e] 42) := ⟨_, rfl⟩
  rw [← hwA] at KA HPa HXa HMva
  clear HBa HP1 HX1 HMv1
  have x0 := HXa.out.1.cell 0
  have x1 := HXa.out.2.cell 0
  have c1 := KA.out.cell 1; have c2 := KA.out.cell 2; have c3 := KA.out.cell 3
  simp at x0 x1 c1 c2 c3
  have HV : Hid (Value.agg #[.int .i64 0, .int .i64 0, .string ⟨#[]⟩, .string x.t, .int .i64 0, .int .i64 0, .int .i64 x.a] = ndv (ndP ts L { nd0 with label := (qAt (ts.map core) p).t, a := p })) := by
    show _ = _
    rw [HP0.out, ← HQ.out.2]
    rfl
  have HD : Hid ((d : Int) + 1 = ((d + 1 : Nat) : Int)) := by show _ = _; omega
  unfold tkv
  go_upto_region 1 with fail
  rw [← hwA]
  clear hwA
  go_wp2_with fail
  rw [HV.out, HBc.out, HD.out]
  have HPt := part_any hN HPa (by omega) (d + 1) hd { nd0 with label := (qAt (ts.map core) p).t, a := p } (decide (c < 64)) (by rfl)
  refine HPt.mono ?_; clear HPt; rintro e w2 (⟨M, j, v', hj, rfl, HP3, HM3⟩ | ⟨y, hy, rfl, HU3⟩)
  · have HJ := hide_ hj
    clear hj
    go_wp2
    go_end0
    exact .inl ⟨M, j, v', by rw [← HR.out]; unfold fieldP; rw [H1.out, bnd_ok, HJ.out], rfl, HP3, hide_ (HMva.out.trans HM3.out)⟩
  · have HJ := hide_ hy
    clear hy
    unfold Flt
    go_wp2
    exact ⟨rfl, .inr ⟨y, by rw [← HR.out]; unfold fieldP; rw [H1.out, bnd_ok, HJ.out], rfl, hide_ (HMva.out.upd HU3.out)⟩⟩
end Go.Proofs.Ytokepgimjdalaaa
