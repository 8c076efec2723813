/- expression, items, option, part: over node's contract one level below. -/
import Derived.Test.YtokepgimjdalaaaSd
namespace Go.Proofs.Ytokepgimjdalaaa
open Go.RowKit
set_option linter.unusedVariables false

theorem bld6 (a : Int) (w : World) : (Instr.build 40 #[(6, .int .i64 a)]).run Try.prog w = .ok (.agg #[.int .i64 0, .int .i64 0, .string ⟨#[]⟩, .string ⟨#[]⟩, .int .i64 0, .int .i64 0, .int .i64 a]) w := by kernel_rfl
set_option maxRecDepth 100000 in
set_option maxHeartbeats 4000000 in
theorem expr_any {f : Nat} (hN : Hid (NodeOk f)) {w : World} {B g : Nat} {tv v : Value} {ts : List Tk} {L p : Nat} {N : List Nd} (HP : Hid (Par w B g tv ts L p v N)) (hl : N.length ≤ p) (d : Nat) (hd : d + f = 17) :
    Calls Try.prog 41 #[.pointer (some ⟨g, 0, none⟩), .int .i64 (d : Int)] w fun e w' => NodeTo w B g tv ts L v N (nodeP (ts.map core) f { nd0 with a := p } p) e w' := by
  have HC := hide_ (token_any HP)
  have hf3 := fld3
  obtain ⟨r, hr⟩ : ∃ r, nodeP (ts.map core) f { nd0 with a := p } p = r := ⟨_, rfl⟩
  have HR := hide_ hr
  rw [hr]
  clear hr
  obtain ⟨x, hx⟩ : ∃ x, tkAt ts L p = x := ⟨_, rfl⟩
  have HX : Hid ((x.a : Int) = plc ts L p) := by show _ = _; rw [← hx]; rfl
  rw [hx] at HC
  clear hx
  go_enter Try.func41, Try.ntmps41
  go_wp2_with fail
  refine HC.out.mono ?_; rintro e w2 ⟨rfl, hB2⟩
  have HP2 := hide_ (HP.out.later hB2)
  have HM := hide_ (Mv.of_below hB2 g v)
  clear hB2 HC HP
  unfold tkv
  go_wp2_with fail
  have HNd := hN.out w2 B g tv v ts L p N { nd0 with a := p } d HP2 hl hd
  rw [HR.out] at HNd
  rw [HX.out]
  refine HNd.mono ?_
  clear HNd
  rintro e w3 (⟨M, j, v', hj, rfl, HP3, HM3⟩ | ⟨y, hy, rfl, HU3⟩)
  · have HJ := hide_ hj
    clear hj
    go_wp2
    go_end0
    exact .inl ⟨M, j, v', HJ.out, rfl, HP3, hide_ (HM.out.trans HM3.out)⟩
  · have HJ := hide_ hy
    clear hy
    unfold Flt
    go_wp2
    exact ⟨rfl, .inr ⟨y, HJ.out, rfl, hide_ (HM.out.upd HU3.out)⟩⟩
set_option maxRecDepth 100000 in
set_option maxHeartbeats 4000000 in
theorem option_any {f : Nat} (hN : Hid (NodeOk f)) {w : World} {B g : Nat} {tv v : Value} {ts : List Tk} {L p : Nat} {N : List Nd} (HP : Hid (Par w B g tv ts L p v N)) (hl : N.length ≤ p) (d : Nat) (hd : d + f = 17) :
    Calls Try.prog 53 #[.pointer (some ⟨g, 0, none⟩), .int .i64 (d : Int)] w fun e w' => NodeTo w B g tv ts L v N (optionP (ts.map core) (nodeP (ts.map core) f) p) e w' := by
  obtain ⟨r, hr⟩ : ∃ r, optionP (ts.map core) (nodeP (ts.map core) f) p = r := ⟨_, rfl⟩
  have HR := hide_ hr
  rw [hr]
  clear hr
  go_enter Try.func53, Try.ntmps53
  go_wp2_with fail
  refine (text_any HP ⟨#[60]⟩ (by decide)).mono ?_; rintro e w1 (⟨i1, hj, rfl, HP1, HU⟩ | ⟨y, hy, rfl, HU⟩)
  case inr =>
    have HJ := hide_ hy
    clear hy
    unfold Flt
    go_wp2
    exact ⟨rfl, .inr ⟨y, by rw [← HR.out]; unfold optionP; rw [HJ.out, bnd_err], rfl, hide_ ((Mv.of HU.out v).1)⟩⟩
  have H1 := hide_ hj
  have hi1 := (tak_ok (by simpa only [txt] using hj)).1
  have HMv1 := hide_ (Mv.of HU.out v)
  clear hj HU
  go_wp2_with fail
  refine (expr_any hN HP1 (by omega) d hd).mono ?_; rintro e w2 (⟨M, i2, v', hj, rfl, HPx, HMx⟩ | ⟨y, hy, rfl, HU⟩)
  case inr =>
    have HJ := hide_ hy
    clear hy
    unfold Flt
    go_wp2
    exact ⟨rfl, .inr ⟨y, by rw [← HR.out]; unfold optionP; rw [H1.out, bnd_ok, HJ.out, bnd_err], rfl, hide_ (HMv1.out.upd HU.out)⟩⟩
  have H2 := hide_ hj
  have HP2 := hide_ HPx.out.1
  have hlx := HPx.out.2
  have HMv2 := hide_ (HMv1.out.trans HMx.out)
  clear hj HPx HMx
  go_wp2_with fail
  refine (text_any HP2 ⟨#[62]⟩ (by decide)).mono ?_; rintro e w3 (⟨i3, hj, rfl, HP3, HU⟩ | ⟨y, hy, rfl, HU⟩)
  case inr =>
    have HJ := hide_ hy
    clear hy
    unfold Flt
    go_wp2
    exact ⟨rfl, .inr ⟨y, by rw [← HR.out]; unfold optionP; rw [H1.out, bnd_ok, H2.out, bnd_ok, HJ.out, bnd_err], rfl, hide_ (HMv2.out.upd (Mv.of HU.out v').1)⟩⟩
  have H3 := hide_ hj
  have hi3 := (tak_ok (by simpa only [txt] using hj)).1
  have HMv3 := hide_ (HMv2.out.then HU.out)
  clear hj HU
  go_wp2
  go_end0
  exact .inl ⟨M, i3, v', by rw [← HR.out]; unfold optionP; rw [H1.out, bnd_ok, H2.out, bnd_ok, H3.out]; rfl, rfl, hide_ ⟨HP3.out, by omega⟩, HMv3⟩
/-- Behind a vector's or a list's item and number. -/
def ItemsTo (w : World) (B g : Nat) (tv : Value) (ts : List Tk) (L : Nat) (v : Value) (N : List Nd) (r : PR (List Nd × Int × Nat)) (e : Ending) (w' : World) : Prop :=
  (∃ M n j v', r = .ok (M, n, j) ∧ e = .returned (.int .i64 n) ∧ Hid (Par w' B g tv ts L j v' (N ++ M.map (ndP ts L)) ∧ (N ++ M.map (ndP ts L)).length ≤ j) ∧ Hid (Mv g v v' w w')) ∨
  (∃ y, r = .error y ∧ e = Flt y.1 (plc ts L y.2) ∧ Hid (Upd (fun k => k = g ∨ v.ownBlock = some k) w w'))
set_option maxRecDepth 100000 in
set_option maxHeartbeats 4000000 in
theorem items_any {f : Nat} (hN : Hid (NodeOk f)) {w : World} {B g : Nat} {tv v : Value} {ts : List Tk} {L p : Nat} {N : List Nd} (HP : Hid (Par w B g tv ts L p v N)) (hl : N.length ≤ p) (d : Nat) (hd : d + f = 17) :
    Calls Try.prog 52 #[.pointer (some ⟨g, 0, none⟩), .int .i64 (d : Int)] w fun e w' => ItemsTo w B g tv ts L v N (itemsP (ts.map core) (nodeP (ts.map core) f) p) e w' := by
  obtain ⟨r, hr⟩ : ∃ r, itemsP (ts.map core) (nodeP (ts.map core) f) p = r := ⟨_, rfl⟩
  have HR := hide_ hr
  rw [hr]
  clear hr
  have hf2 := fld2
  go_enter Try.func52, Try.ntmps52
  go_wp2_with fail
  refine (text_any HP ⟨#[60]⟩ (by decide)).mono ?_; rintro e w1 (⟨i1, hj, rfl, HP1, HU⟩ | ⟨y, hy, rfl, HU⟩)
  case inr =>
    have HJ := hide_ hy
    clear hy
    unfold Flt
    go_wp2
    exact ⟨rfl, .inr ⟨y, by rw [← HR.out]; unfold itemsP; rw [HJ.out, bnd_err], rfl, hide_ ((Mv.of HU.out v).1)⟩⟩
  have H1 := hide_ hj
  have hi1 := (tak_ok (by simpa only [txt] using hj)).1
  have HMv1 := hide_ (Mv.of HU.out v)
  clear hj HU
  go_wp2_with fail
  refine (expr_any hN HP1 (by omega) d hd).mono ?_; rintro e w2 (⟨M, i2, v', hj, rfl, HPx, HMx⟩ | ⟨y, hy, rfl, HU⟩)
  case inr =>
    have HJ := hide_ hy
    clear hy
    unfold Flt
    go_wp2
    exact ⟨rfl, .inr ⟨y, by rw [← HR.out]; unfold itemsP; rw [H1.out, bnd_ok, HJ.out, bnd_err], rfl, hide_ (HMv1.out.upd HU.out)⟩⟩
  have H2 := hide_ hj
  have HP2 := hide_ HPx.out.1
  have hlx := HPx.out.2
  have HMv2 := hide_ (HMv1.out.trans HMx.out)
  clear hj HPx HMx
  go_wp2_with fail
  refine (text_any HP2 ⟨#[44]⟩ (by decide)).mono ?_; rintro e w3 (⟨i3, hj, rfl, HP3, HU⟩ | ⟨y, hy, rfl, HU⟩)
  case inr =>
    have HJ := hide_ hy
    clear hy
    unfold Flt
    go_wp2
    exact ⟨rfl, .inr ⟨y, by rw [← HR.out]; unfold itemsP; rw [H1.out, bnd_ok, H2.out, bnd_ok, HJ.out, bnd_err], rfl, hide_ (HMv2.out.upd (Mv.of HU.out v').1)⟩⟩
  have H3 := hide_ hj
  have hi3 := (tak_ok (by simpa only [txt] using hj)).1
  have HMv3 := hide_ (HMv2.out.then HU.out)
  clear hj HU
  go_wp2_with fail
  refine (number_tok HP3).mono ?_; rintro e w4 (⟨i4, hj, rfl, HP4, HU⟩ | ⟨y, hy, rfl, HU⟩)
  case inr =>
    have HJ := hide_ hy
    clear hy
    unfold Flt
    go_wp2
    exact ⟨rfl, .inr ⟨y, by rw [← HR.out]; unfold itemsP; rw [H1.out, bnd_ok, H2.out, bnd_ok, H3.out, bnd_ok, HJ.out, bnd_err], rfl, hide_ (HMv3.out.upd (Mv.of HU.out v').1)⟩⟩
  have H4 := hide_ hj
  have hi4 := (tak_ok (by simpa only [txt] using hj)).1
  have HMv4 := hide_ (HMv3.out.then HU.out)
  clear hj HU
  have HQ : Hid ((tkAt ts L i3).n = (qAt (ts.map core) i3).n) := by show _ = _; rw [core_at ts L i3]; rfl
  obtain ⟨x, hx⟩ : ∃ x, tkAt ts L i3 = x := ⟨_, rfl⟩
  rw [hx] at HQ ⊢
  clear hx
  unfold tkv
  go_wp2_with fail
  refine (text_any HP4 ⟨#[62]⟩ (by decide)).mono ?_; rintro e w5 (⟨i5, hj, rfl, HP5, HU⟩ | ⟨y, hy, rfl, HU⟩)
  case inr =>
    have HJ := hide_ hy
    clear hy
    unfold Flt
    go_wp2
    exact ⟨rfl, .inr ⟨y, by rw [← HR.out]; unfold itemsP; rw [H1.out, bnd_ok, H2.out, bnd_ok, H3.out, bnd_ok, H4.out, bnd_ok, HJ.out, bnd_err], rfl, hide_ (HMv4.out.upd (Mv.of HU.out v').1)⟩⟩
  have H5 := hide_ hj
  have hi5 := (tak_ok (by simpa only [txt] using hj)).1
  have HMv5 := hide_ (HMv4.out.then HU.out)
  clear hj HU
  go_wp2
  go_ret
  exact .inl ⟨M, _, i5, v', by rw [← HR.out]; unfold itemsP; rw [H1.out, bnd_ok, H2.out, bnd_ok, H3.out, bnd_ok, H4.out, bnd_ok, H5.out, bnd_ok], by rw [← HQ.out]; rfl, hide_ ⟨HP5.out, by omega⟩, HMv5⟩
set_option maxRecDepth 100000 in
set_option maxHeartbeats 4000000 in
theorem part_any {f : Nat} (hN : Hid (NodeOk f)) {w : World} {B g : Nat} {tv v : Value} {ts : List Tk} {L p : Nat} {N : List Nd} (HP : Hid (Par w B g tv ts L p v N)) (hl : N.length ≤ p) (d : Nat) (hd : d + f = 17) (x : Nd) (room : Bool) (hx : x.a = x.a.toNat) :
    Calls Try.prog 57 #[.pointer (some ⟨g, 0, none⟩), ndv (ndP ts L x), .bool room, .int .i64 (d : Int)] w fun e w' => NodeTo w B g tv ts L v N (partP (ts.map core) (nodeP (ts.map core) f) x room p) e w' := by
  obtain ⟨r, hr⟩ : ∃ r, partP (ts.map core) (nodeP (ts.map core) f) x room p = r := ⟨_, rfl⟩
  have HR := hide_ hr
  rw [hr]
  clear hr
  have HBa := hide_ ((Below.refl w.heap.size w).alloc (Nat.le_refl _) (.cells #[.int .i64 x.k, .int .i64 x.n, .string x.name, .string x.label, .int .i64 x.tag, .int .i64 x.kids, .int .i64 (plc ts L x.a.toNat : Int)] 40))
  have KA := hide_ (Blk.newA w #[.int .i64 x.k, .int .i64 x.n, .string x.name, .string x.label, .int .i64 x.tag, .int .i64 x.kids, .int .i64 (plc ts L x.a.toNat : Int)] 40)
  have HPa := hide_ (HP.out.later HBa.out)
  unfold ndv
  have e0 : (ndP ts L x).k = x.k := rfl
  have e1 : (ndP ts L x).n = x.n := rfl
  have e2 : (ndP ts L x).name = x.name := rfl
  have e3 : (ndP ts L x).label = x.label := rfl
  have e4 : (ndP ts L x).tag = x.tag := rfl
  have e5 : (ndP ts L x).kids = x.kids := rfl
  have e6 : (ndP ts L x).a = (plc ts L x.a.toNat : Int) := rfl
  rw [e0, e1, e2, e3, e4, e5, e6]
  clear e0 e1 e2 e3 e4 e5 e6
  have hgw := HP.out.1.lt
  cases room with
  | false =>
    have HG := hide_ (fun w => giveUp_any 5 (plc ts L x.a.toNat) w)
    have HE : Hid (r = .error (5, x.a.toNat)) := by show _ = _; rw [← HR.out]; unfold partP; rw [if_neg (by decide)]
    generalize hq : plc ts L x.a.toNat = q at *
    have HQ := hide_ hq
    clear hq
    go_enter Try.func57, Try.ntmps57
    go_wp2_with fail
    refine (HG.out _).mono ?_; rintro e w3 ⟨rfl, rfl⟩
    unfold Flt
    go_wp2
    exact ⟨rfl, .inr ⟨(5, x.a.toNat), HE.out, by rw [HQ.out]; rfl, hide_ (Upd.of_below HBa.out)⟩⟩
  | true =>
    generalize hq : plc ts L x.a.toNat = q at *
    have HQ := hide_ hq
    clear hq
    obtain ⟨wA, hwA⟩ : ∃ wA, wA = w.alloc (.cells #[.int .i64 x.k, .int .i64 x.n, .string x.name, .string x.label, .int .i64 x.tag, .int .i64 x.kids, .int .i64 (q : Int)] 40) := ⟨_, rfl⟩
    rw [← hwA] at HBa KA HPa
    go_enter Try.func57, Try.ntmps57
    go_wp2_with fail
    rw [← hwA]
    clear hwA
    refine (text_any HPa ⟨#[58]⟩ (by decide)).mono ?_; rintro e w1 (⟨i1, hj, rfl, HP1, HU⟩ | ⟨y, hy, rfl, HU⟩)
    case inr =>
      have HJ := hide_ hy
      clear hy
      unfold Flt
      go_wp2
      exact ⟨rfl, .inr ⟨y, by rw [← HR.out]; unfold partP; rw [if_pos rfl, HJ.out]; rfl, rfl, hide_ ((Mv.of_below HBa.out g v).upd (Mv.of HU.out v).1)⟩⟩
    have H1 := hide_ hj
    have hi1 := (tak_ok (by simpa only [txt] using hj)).1
    have HMv1 := hide_ ((Mv.of_below HBa.out g v).then HU.out)
    have K1 := hide_ (KA.out.upd HU.out (by show ¬ w.heap.size = g; omega))
    clear hj HU KA
    have c0 := K1.out.cell 0; have c1 := K1.out.cell 1; have c2 := K1.out.cell 2; have c3 := K1.out.cell 3; have c4 := K1.out.cell 4; have c5 := K1.out.cell 5; have c6 := K1.out.cell 6
    simp at c0 c1 c2 c3 c4 c5 c6
    have HV : Hid (Value.agg #[.int .i64 x.k, .int .i64 x.n, .string x.name, .string x.label, .int .i64 x.tag, .int .i64 x.kids, .int .i64 (q : Int)] = ndv (ndP ts L x)) := by show _ = _; rw [← HQ.out]; rfl
    go_wp2_with fail
    rw [HV.out]
    refine (hN.out w1 B g tv v ts L i1 N x d HP1 (by omega) hd).mono ?_; rintro e w2 (⟨M, j, v', hj, rfl, HP3, HM3⟩ | ⟨y, hy, rfl, HU3⟩)
    · have HJ := hide_ hj
      clear hj
      go_wp2
      go_end0
      exact .inl ⟨M, j, v', by rw [← HR.out]; unfold partP; rw [if_pos rfl, H1.out, bnd_ok, HJ.out], rfl, HP3, hide_ (HMv1.out.trans HM3.out)⟩
    · have HJ := hide_ hy
      clear hy
      unfold Flt
      go_wp2
      exact ⟨rfl, .inr ⟨y, by rw [← HR.out]; unfold partP; rw [if_pos rfl, H1.out, bnd_ok, HJ.out], rfl, hide_ (HMv1.out.upd HU3.out)⟩⟩
end Go.Proofs.Ytokepgimjdalaaa
