/- parts. -/
import Derived.Test.YtokepgimjdalaaaSf
namespace Go.Proofs.Ytokepgimjdalaaa
open Go.RowKit
set_option linter.unusedVariables false

/-- Behind fields or arms. -/
def PartsTo (w : World) (B g : Nat) (tv : Value) (ts : List Tk) (L : Nat) (v : Value) (N : List Nd) (r : PR (List Nd × Nat × Nat)) (e : Ending) (w' : World) : Prop :=
  (∃ M c j v', r = .ok (M, c, j) ∧ e = .returned (.int .i64 (c : Int)) ∧ Hid (Par w' B g tv ts L j v' (N ++ M.map (ndP ts L)) ∧ (N ++ M.map (ndP ts L)).length ≤ j) ∧ Hid (Mv g v v' w w')) ∨
  (∃ y, r = .error y ∧ e = Flt y.1 (plc ts L y.2) ∧ Hid (Upd (fun k => k = g ∨ v.ownBlock = some k) w w'))
set_option maxRecDepth 100000 in
set_option maxHeartbeats 4000000 in
theorem parts_arm {f : Nat} (hN : Hid (NodeOk f)) {w : World} {B g : Nat} {tv v : Value} {ts : List Tk} {L p : Nat} {N : List Nd} (HP : Hid (Par w B g tv ts L p v N)) (hl : N.length ≤ p) {bp bd : Nat} {d : Nat} (hd : d + 1 + f = 17) (HX : Hid (Boxes w bp bd g d)) :
    Calls Try.prog 54 #[.pointer (some ⟨g, 0, none⟩), .func (.func 55) #[] #[.pointer (some ⟨bp, 0, none⟩), .pointer (some ⟨bd, 0, none⟩)]] w fun e w' => PartsTo w B g tv ts L v N (partsP (ts.map core) (armP (ts.map core) (nodeP (ts.map core) f)) p) e w' := by
  obtain ⟨r, hr⟩ : ∃ r, partsP (ts.map core) (armP (ts.map core) (nodeP (ts.map core) f)) p = r := ⟨_, rfl⟩
  have HR := hide_ hr
  rw [hr]
  clear hr
  have hf1 := fld1
  go_enter Try.func54, Try.ntmps54
  go_wp2_with fail
  refine (text_any HP ⟨#[123]⟩ (by decide)).mono ?_; rintro e w1 (⟨i1, hj, rfl, HP1, HU⟩ | ⟨y, hy, rfl, HU⟩)
  case inr =>
    have HJ := hide_ hy
    clear hy
    unfold Flt
    go_wp2
    exact ⟨rfl, .inr ⟨y, by rw [← HR.out]; unfold partsP; rw [HJ.out, bnd_err], rfl, hide_ (Mv.of HU.out v).1⟩⟩
  have H1 := hide_ hj
  have hi1 := (tak_ok (by simpa only [txt] using hj)).1
  have HMv1 := hide_ (Mv.of HU.out v)
  have HX1 := hide_ (HX.out.upd HP.out HMv1.out.1)
  clear hj HU HX HP
  unfold tkv
  go_wp2_with fail
  have HOne := arm_any hN HP1 (by omega) hd HX1 0 (by omega)
  refine HOne.mono ?_; clear HOne; rintro e w2 (⟨M, i2, v2, hj, rfl, HPx, HMx⟩ | ⟨y, hy, rfl, HU⟩)
  case inr =>
    have HJ := hide_ hy
    clear hy
    unfold Flt
    go_wp2
    exact ⟨rfl, .inr ⟨y, by rw [← HR.out]; unfold partsP; rw [H1.out, bnd_ok, HJ.out, bnd_err], rfl, hide_ (HMv1.out.upd HU.out)⟩⟩
  have HRel : Hid (moreP (ts.map core) (armP (ts.map core) (nodeP (ts.map core) f)) 64 1 M i2 = r) := by
    show _ = _
    rw [← HR.out]; unfold partsP; rw [H1.out, bnd_ok, hj, bnd_ok]
  have HX2 := hide_ (HX1.out.upd HP1.out HMx.out.1)
  have HMv2 := hide_ (HMv1.out.trans HMx.out)
  clear hj HR H1 HMv1 HMx HP1 HX1 hi1 i1
  go_wp2_with fail
  go_loopw [5] (fun x5 wr => ∃ (c : Nat) (M : List Nd) (q : Nat) (v' : Value), x5 = .int .i64 (c : Int) ∧ 1 ≤ c ∧ c ≤ 64 ∧ Hid (moreP (ts.map core) (armP (ts.map core) (nodeP (ts.map core) f)) (65 - c) c M q = r) ∧ Hid (Par wr B g tv ts L q v' (N ++ M.map (ndP ts L)) ∧ (N ++ M.map (ndP ts L)).length ≤ q) ∧ Hid (Boxes wr bp bd g d) ∧ Hid (Mv g v v' w wr)) (fun x5 _ => 65 - (intOf x5).toNat)
  case atStart => exact ⟨1, M, i2, v2, rfl, Nat.le_refl _, by omega, HRel, HPx, HX2, HMv2⟩
  case round =>
    clear HRel HPx HX2 HMv2
    obtain ⟨c, M', q, v', rfl, hc1, hc64, HRl, HPq, HXq, HMq⟩ := hrel
    generalize wr = wq at *
    obtain ⟨fu, hfu⟩ : ∃ fu, 65 - c = fu + 1 := ⟨64 - c, by omega⟩
    rw [hfu] at HRl
    have HPp := hide_ HPq.out.1
    have hlq := HPq.out.2
    clear HPq
    have HTk := hide_ (token_any HPp)
    have HQ : Hid (decide ((tkAt ts L q).t = ⟨#[44]⟩) = isT ⟨#[44]⟩ (qAt (ts.map core) q)) := by show _ = _; rw [core_at ts L q]; rfl
    obtain ⟨x, hx⟩ : ∃ x, tkAt ts L q = x := ⟨_, rfl⟩
    rw [hx] at HTk HQ
    clear hx
    by_cases hx : x.t = ⟨#[44]⟩
    · have HT : Hid (isT ⟨#[44]⟩ (qAt (ts.map core) q) = true) := by show _ = _; rw [← HQ.out]; exact decide_eq_true hx
      have hxl : (x.t.toList == [44]) = true := by rw [hx, Lib.toList_data]; decide
      have HS : Hid (bnd (armP (ts.map core) (nodeP (ts.map core) f) c (q + 1)) (fun r => moreP (ts.map core) (armP (ts.map core) (nodeP (ts.map core) f)) fu (c + 1) (M' ++ r.1) r.2) = r) := by
        show _ = _
        have := HRl.out
        unfold moreP at this
        rw [if_pos HT.out] at this
        exact this
      clear HRl HQ
      go_wp2_with fail
      refine HTk.out.mono ?_; rintro e w3 ⟨rfl, hB3⟩
      have HP3 := hide_ (HPp.out.later hB3)
      have HX3 := hide_ (HXq.out.later hB3)
      have HM3 := hide_ (HMq.out.trans (Mv.of_below hB3 g v'))
      clear hB3 HTk HPp HXq HMq
      unfold tkv
      go_wp2_with fail
      refine (text_any HP3 ⟨#[44]⟩ (by decide)).mono ?_; rintro e w4 (⟨i4, hj, rfl, HP4, HU⟩ | ⟨y, hy, rfl, HU⟩)
      case inr =>
        exfalso
        unfold txt tak at hy
        rw [if_pos HT.out] at hy
        cases hy
      have hi4 : i4 = q + 1 := (tak_ok (by simpa only [txt] using hj)).1
      subst hi4
      have HX4 := hide_ (HX3.out.upd HP3.out (Mv.of HU.out v').1)
      have HM4 := hide_ (HM3.out.then HU.out)
      clear hj HU HX3 HP3 HM3 hxl hx HT
      go_wp2_with fail
      have HOne := arm_any hN HP4 (by omega) hd HX4 c hc64
      refine HOne.mono ?_; clear HOne; rintro e w5 (⟨M5, i5, v5, hj, rfl, HP5, HM5⟩ | ⟨y, hy, rfl, HU⟩)
      case inr =>
        have HJ := hide_ hy
        clear hy
        unfold Flt
        go_wp2
        exact ⟨rfl, .inr ⟨y, by rw [← HS.out, HJ.out, bnd_err], rfl, hide_ (HM4.out.upd HU.out)⟩⟩
      have hclt := arm_lt hj
      have hf64 : fu = 65 - (c + 1) := by omega
      have HR5 : Hid (moreP (ts.map core) (armP (ts.map core) (nodeP (ts.map core) f)) (65 - (c + 1)) (c + 1) (M' ++ M5) i5 = r) := by
        show _ = _
        rw [← HS.out, hj, bnd_ok, hf64]
      have HX5 := hide_ (HX4.out.upd HP4.out HM5.out.1)
      have HM6 := hide_ (HM4.out.trans HM5.out)
      have HP6 : Hid (Par w5 B g tv ts L i5 v5 (N ++ (M' ++ M5).map (ndP ts L)) ∧ (N ++ (M' ++ M5).map (ndP ts L)).length ≤ i5) := by
        have := HP5.out
        rw [List.map_append, ← List.append_assoc]
        exact this
      clear hj HS HX4 HM4 HP4 HM5 HP5 hf64 hfu
      go_wp2
      go_roundw
      case rel => exact ⟨c + 1, M' ++ M5, i5, v5, by go_num, by omega, by omega, HR5, HP6, HX5, HM6⟩
      case measure => simp [intOf]; omega
    · have HT : Hid (isT ⟨#[44]⟩ (qAt (ts.map core) q) = false) := by show _ = _; rw [← HQ.out]; exact decide_eq_false hx
      have hxl : (x.t.toList == [44]) = false := str_ne x.t [44] hx
      have HS : Hid (bnd (txt (ts.map core) ⟨#[125]⟩ q) (fun j => .ok (M', c, j)) = r) := by
        show _ = _
        have := HRl.out
        unfold moreP at this
        rw [if_neg (by rw [HT.out]; decide)] at this
        exact this
      clear HRl HQ
      go_wp2_with fail
      refine HTk.out.mono ?_; rintro e w3 ⟨rfl, hB3⟩
      have HP3 := hide_ (HPp.out.later hB3)
      have HM3 := hide_ (HMq.out.trans (Mv.of_below hB3 g v'))
      clear hB3 HTk HPp HXq HMq
      unfold tkv
      go_wp2_with fail
      refine (text_any HP3 ⟨#[125]⟩ (by decide)).mono ?_; rintro e w4 (⟨i4, hj, rfl, HP4, HU⟩ | ⟨y, hy, rfl, HU⟩)
      case inr =>
        have HJ := hide_ hy
        clear hy
        unfold Flt
        go_wp2
        exact ⟨rfl, .inr ⟨y, by rw [← HS.out, HJ.out, bnd_err], rfl, hide_ (HM3.out.upd (Mv.of HU.out v').1)⟩⟩
      have hi4 : i4 = q + 1 := (tak_ok (by simpa only [txt] using hj)).1
      have HJ := hide_ hj
      clear hj
      go_wp2
      go_ret
      exact .inl ⟨M', c, i4, v', by rw [← HS.out, HJ.out, bnd_ok], rfl, hide_ ⟨HP4.out, by omega⟩, hide_ (HM3.out.then HU.out)⟩
set_option maxRecDepth 100000 in
set_option maxHeartbeats 4000000 in
theorem parts_field {f : Nat} (hN : Hid (NodeOk f)) {w : World} {B g : Nat} {tv v : Value} {ts : List Tk} {L p : Nat} {N : List Nd} (HP : Hid (Par w B g tv ts L p v N)) (hl : N.length ≤ p) {bp bd : Nat} {d : Nat} (hd : d + 1 + f = 17) (HX : Hid (Boxes w bp bd g d)) :
    Calls Try.prog 54 #[.pointer (some ⟨g, 0, none⟩), .func (.func 58) #[] #[.pointer (some ⟨bp, 0, none⟩), .pointer (some ⟨bd, 0, none⟩)]] w fun e w' => PartsTo w B g tv ts L v N (partsP (ts.map core) (fieldP (ts.map core) (nodeP (ts.map core) f)) p) e w' := by
  obtain ⟨r, hr⟩ : ∃ r, partsP (ts.map core) (fieldP (ts.map core) (nodeP (ts.map core) f)) p = r := ⟨_, rfl⟩
  have HR := hide_ hr
  rw [hr]
  clear hr
  have hf1 := fld1
  go_enter Try.func54, Try.ntmps54
  go_wp2_with fail
  refine (text_any HP ⟨#[123]⟩ (by decide)).mono ?_; rintro e w1 (⟨i1, hj, rfl, HP1, HU⟩ | ⟨y, hy, rfl, HU⟩)
  case inr =>
    have HJ := hide_ hy
    clear hy
    unfold Flt
    go_wp2
    exact ⟨rfl, .inr ⟨y, by rw [← HR.out]; unfold partsP; rw [HJ.out, bnd_err], rfl, hide_ (Mv.of HU.out v).1⟩⟩
  have H1 := hide_ hj
  have hi1 := (tak_ok (by simpa only [txt] using hj)).1
  have HMv1 := hide_ (Mv.of HU.out v)
  have HX1 := hide_ (HX.out.upd HP.out HMv1.out.1)
  clear hj HU HX HP
  unfold tkv
  go_wp2_with fail
  have HOne := field_any hN HP1 (by omega) hd HX1 0 (by omega)
  refine HOne.mono ?_; clear HOne; rintro e w2 (⟨M, i2, v2, hj, rfl, HPx, HMx⟩ | ⟨y, hy, rfl, HU⟩)
  case inr =>
    have HJ := hide_ hy
    clear hy
    unfold Flt
    go_wp2
    exact ⟨rfl, .inr ⟨y, by rw [← HR.out]; unfold partsP; rw [H1.out, bnd_ok, HJ.out, bnd_err], rfl, hide_ (HMv1.out.upd HU.out)⟩⟩
  have HRel : Hid (moreP (ts.map core) (fieldP (ts.map core) (nodeP (ts.map core) f)) 64 1 M i2 = r) := by
    show _ = _
    rw [← HR.out]; unfold partsP; rw [H1.out, bnd_ok, hj, bnd_ok]
  have HX2 := hide_ (HX1.out.upd HP1.out HMx.out.1)
  have HMv2 := hide_ (HMv1.out.trans HMx.out)
  clear hj HR H1 HMv1 HMx HP1 HX1 hi1 i1
  go_wp2_with fail
  go_loopw [5] (fun x5 wr => ∃ (c : Nat) (M : List Nd) (q : Nat) (v' : Value), x5 = .int .i64 (c : Int) ∧ 1 ≤ c ∧ c ≤ 64 ∧ Hid (moreP (ts.map core) (fieldP (ts.map core) (nodeP (ts.map core) f)) (65 - c) c M q = r) ∧ Hid (Par wr B g tv ts L q v' (N ++ M.map (ndP ts L)) ∧ (N ++ M.map (ndP ts L)).length ≤ q) ∧ Hid (Boxes wr bp bd g d) ∧ Hid (Mv g v v' w wr)) (fun x5 _ => 65 - (intOf x5).toNat)
  case atStart => exact ⟨1, M, i2, v2, rfl, Nat.le_refl _, by omega, HRel, HPx, HX2, HMv2⟩
  case round =>
    clear HRel HPx HX2 HMv2
    obtain ⟨c, M', q, v', rfl, hc1, hc64, HRl, HPq, HXq, HMq⟩ := hrel
    generalize wr = wq at *
    obtain ⟨fu, hfu⟩ : ∃ fu, 65 - c = fu + 1 := ⟨64 - c, by omega⟩
    rw [hfu] at HRl
    have HPp := hide_ HPq.out.1
    have hlq := HPq.out.2
    clear HPq
    have HTk := hide_ (token_any HPp)
    have HQ : Hid (decide ((tkAt ts L q).t = ⟨#[44]⟩) = isT ⟨#[44]⟩ (qAt (ts.map core) q)) := by show _ = _; rw [core_at ts L q]; rfl
    obtain ⟨x, hx⟩ : ∃ x, tkAt ts L q = x := ⟨_, rfl⟩
    rw [hx] at HTk HQ
    clear hx
    by_cases hx : x.t = ⟨#[44]⟩
    · have HT : Hid (isT ⟨#[44]⟩ (qAt (ts.map core) q) = true) := by show _ = _; rw [← HQ.out]; exact decide_eq_true hx
      have hxl : (x.t.toList == [44]) = true := by rw [hx, Lib.toList_data]; decide
      have HS : Hid (bnd (fieldP (ts.map core) (nodeP (ts.map core) f) c (q + 1)) (fun r => moreP (ts.map core) (fieldP (ts.map core) (nodeP (ts.map core) f)) fu (c + 1) (M' ++ r.1) r.2) = r) := by
        show _ = _
        have := HRl.out
        unfold moreP at this
        rw [if_pos HT.out] at this
        exact this
      clear HRl HQ
      go_wp2_with fail
      refine HTk.out.mono ?_; rintro e w3 ⟨rfl, hB3⟩
      have HP3 := hide_ (HPp.out.later hB3)
      have HX3 := hide_ (HXq.out.later hB3)
      have HM3 := hide_ (HMq.out.trans (Mv.of_below hB3 g v'))
      clear hB3 HTk HPp HXq HMq
      unfold tkv
      go_wp2_with fail
      refine (text_any HP3 ⟨#[44]⟩ (by decide)).mono ?_; rintro e w4 (⟨i4, hj, rfl, HP4, HU⟩ | ⟨y, hy, rfl, HU⟩)
      case inr =>
        exfalso
        unfold txt tak at hy
        rw [if_pos HT.out] at hy
        cases hy
      have hi4 : i4 = q + 1 := (tak_ok (by simpa only [txt] using hj)).1
      subst hi4
      have HX4 := hide_ (HX3.out.upd HP3.out (Mv.of HU.out v').1)
      have HM4 := hide_ (HM3.out.then HU.out)
      clear hj HU HX3 HP3 HM3 hxl hx HT
      go_wp2_with fail
      have HOne := field_any hN HP4 (by omega) hd HX4 c hc64
      refine HOne.mono ?_; clear HOne; rintro e w5 (⟨M5, i5, v5, hj, rfl, HP5, HM5⟩ | ⟨y, hy, rfl, HU⟩)
      case inr =>
        have HJ := hide_ hy
        clear hy
        unfold Flt
        go_wp2
        exact ⟨rfl, .inr ⟨y, by rw [← HS.out, HJ.out, bnd_err], rfl, hide_ (HM4.out.upd HU.out)⟩⟩
      have hclt := field_lt hj
      have hf64 : fu = 65 - (c + 1) := by omega
      have HR5 : Hid (moreP (ts.map core) (fieldP (ts.map core) (nodeP (ts.map core) f)) (65 - (c + 1)) (c + 1) (M' ++ M5) i5 = r) := by
        show _ = _
        rw [← HS.out, hj, bnd_ok, hf64]
      have HX5 := hide_ (HX4.out.upd HP4.out HM5.out.1)
      have HM6 := hide_ (HM4.out.trans HM5.out)
      have HP6 : Hid (Par w5 B g tv ts L i5 v5 (N ++ (M' ++ M5).map (ndP ts L)) ∧ (N ++ (M' ++ M5).map (ndP ts L)).length ≤ i5) := by
        have := HP5.out
        rw [List.map_append, ← List.append_assoc]
        exact this
      clear hj HS HX4 HM4 HP4 HM5 HP5 hf64 hfu
      go_wp2
      go_roundw
      case rel => exact ⟨c + 1, M' ++ M5, i5, v5, by go_num, by omega, by omega, HR5, HP6, HX5, HM6⟩
      case measure => simp [intOf]; omega
    · have HT : Hid (isT ⟨#[44]⟩ (qAt (ts.map core) q) = false) := by show _ = _; rw [← HQ.out]; exact decide_eq_false hx
      have hxl : (x.t.toList == [44]) = false := str_ne x.t [44] hx
      have HS : Hid (bnd (txt (ts.map core) ⟨#[125]⟩ q) (fun j => .ok (M', c, j)) = r) := by
        show _ = _
        have := HRl.out
        unfold moreP at this
        rw [if_neg (by rw [HT.out]; decide)] at this
        exact this
      clear HRl HQ
      go_wp2_with fail
      refine HTk.out.mono ?_; rintro e w3 ⟨rfl, hB3⟩
      have HP3 := hide_ (HPp.out.later hB3)
      have HM3 := hide_ (HMq.out.trans (Mv.of_below hB3 g v'))
      clear hB3 HTk HPp HXq HMq
      unfold tkv
      go_wp2_with fail
      refine (text_any HP3 ⟨#[125]⟩ (by decide)).mono ?_; rintro e w4 (⟨i4, hj, rfl, HP4, HU⟩ | ⟨y, hy, rfl, HU⟩)
      case inr =>
        have HJ := hide_ hy
        clear hy
        unfold Flt
        go_wp2
        exact ⟨rfl, .inr ⟨y, by rw [← HS.out, HJ.out, bnd_err], rfl, hide_ (HM3.out.upd (Mv.of HU.out v').1)⟩⟩
      have hi4 : i4 = q + 1 := (tak_ok (by simpa only [txt] using hj)).1
      have HJ := hide_ hj
      clear hj
      go_wp2
      go_ret
      exact .inl ⟨M', c, i4, v', by rw [← HS.out, HJ.out, bnd_ok], rfl, hide_ ⟨HP4.out, by omega⟩, hide_ (HM3.out.then HU.out)⟩
end Go.Proofs.Ytokepgimjdalaaa
