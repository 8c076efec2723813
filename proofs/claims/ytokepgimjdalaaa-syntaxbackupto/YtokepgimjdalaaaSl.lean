/- definition. -/
import Derived.Test.YtokepgimjdalaaaSk
namespace Go.Proofs.Ytokepgimjdalaaa
open Go.RowKit
set_option linter.unusedVariables false

def dfc (d : Df) (v : Value) : List Value := [.string d.name, .int .i64 d.a, v]
def dfv (d : Df) (v : Value) : Value := .agg #[.string d.name, .int .i64 d.a, v]
theorem Par.nilN {w : World} {B g : Nat} {tv v : Value} {ts : List Tk} {L p : Nat} {N : List Nd} (h : Par w B g tv ts L p v N) : Par (w.setCell ⟨g, 3, none⟩ (.slice none 0 0)) B g tv ts L p (.slice none 0 0) [] := by
  have hU : Upd (fun k => k = g) w (w.setCell ⟨g, 3, none⟩ (.slice none 0 0)) := (Upd.refl _ w).set _ _ (.inl rfl)
  exact ⟨by have := h.1.set 3 (.slice none 0 0); simpa using this, ownS_upd h.2.1 hU (fun k hk => h.ne1 hk), World.ownsRow_nil _ _ _ _, h.2.2.2⟩
/-- Behind a definition. -/
def DefTo (w : World) (B g : Nat) (tv : Value) (ts : List Tk) (L : Nat) (r : PR (Df × Nat)) (e : Ending) (w' : World) : Prop :=
  (∃ D j v', r = .ok (D, j) ∧ e = .returned (dfv (dfP ts L D) v') ∧ Hid (Par w' B g tv ts L j v' (D.ty.map (ndP ts L))) ∧ Hid (Upd (fun k => k = g) w w') ∧ Hid (∀ k, v'.ownBlock = some k → w.heap.size ≤ k)) ∨
  (∃ y, r = .error y ∧ e = Flt y.1 (plc ts L y.2) ∧ Hid (Upd (fun k => k = g) w w'))
theorem wr3 {w : World} {g : Nat} {t : TypeId} {x0 x1 x2 : Value} (h : Blk w g t [x0, x1, x2]) (y0 y1 y2 : Value) :
    Blk (((w.setCell ⟨g, 0, none⟩ y0).setCell ⟨g, 1, none⟩ y1).setCell ⟨g, 2, none⟩ y2) g t [y0, y1, y2] := by
  have := ((h.set 0 y0).set 1 y1).set 2 y2
  simpa using this
theorem retD {fn : Func} {p : Tmp} (h : fn.results = #[.cell p 38]) {R : Ending → World → Prop} {tmps : Array Value} {g : Nat} {w : World} {d : Df} {v : Value} (hp : tmps.getD p undef = .pointer (some ⟨g, 0, none⟩)) (hK : Blk w g 38 (dfc d v)) (hR : R (.returned (dfv d v)) w) :
    bodyPost Try.prog fn R Exit.ret ⟨tmps, []⟩ w :=
  bodyPost_ret (results_cell_row h _ _ _ _ (dfc d v).toArray _ _ hp hK Try.underlying38 rfl (by show _ = some 3; kernel_rfl)) rfl hR
set_option maxRecDepth 100000 in
set_option maxHeartbeats 8000000 in
theorem def_any {w : World} {B g : Nat} {tv v : Value} {ts : List Tk} {L p : Nat} {N : List Nd} (HP : Hid (Par w B g tv ts L p v N)) :
    Calls Try.prog 28 #[.pointer (some ⟨g, 0, none⟩)] w fun e w' => DefTo w B g tv ts L (defP (ts.map core) p) e w' := by
  obtain ⟨r, hr⟩ : ∃ r, defP (ts.map core) p = r := ⟨_, rfl⟩
  have HR := hide_ hr
  rw [hr]
  clear hr
  have hgw := HP.out.1.lt
  have HBa := hide_ ((Below.refl w.heap.size w).alloc (Nat.le_refl _) (.cells #[.string ⟨#[]⟩, .int .i64 0, .slice none 0 0] 38))
  have KD := hide_ (Blk.newA w #[.string ⟨#[]⟩, .int .i64 0, .slice none 0 0] 38)
  have HPa := hide_ (HP.out.later HBa.out)
  obtain ⟨wa, hwa⟩ : ∃ wa, wa = w.alloc (.cells #[.string ⟨#[]⟩, .int .i64 0, .slice none 0 0] 38) := ⟨_, rfl⟩
  rw [← hwa] at HBa KD HPa
  go_enter Try.func28, Try.ntmps28
  go_wp2_with fail
  rw [← hwa]
  clear hwa
  refine (name_tok HPa).mono ?_; rintro e w1 (⟨i1, hj, rfl, HP1, HU⟩ | ⟨y, hy, rfl, HU⟩)
  case inr =>
    have HJ := hide_ hy
    clear hy
    unfold Flt
    go_wp2
    exact ⟨rfl, .inr ⟨y, by rw [← HR.out]; unfold defP; rw [HJ.out, bnd_err], rfl, hide_ ((Upd.of_below HBa.out).trans HU.out (fun _ _ h => h))⟩⟩
  have H1 := hide_ hj
  have hi1 := (tak_ok hj).1
  have HU1 := hide_ (Upd.trans (Upd.of_below (S := fun k => k = g) HBa.out) HU.out (fun _ _ h => h))
  have KD1 := hide_ (KD.out.upd HU.out (by show ¬ w.heap.size = g; omega))
  clear hj HU HPa KD HBa
  have HQ : Hid (core (tkAt ts L p) = qAt (ts.map core) p ∧ plc ts L p = (tkAt ts L p).a) := ⟨(core_at ts L p).symm, rfl⟩
  obtain ⟨x, hx⟩ : ∃ x, tkAt ts L p = x := ⟨_, rfl⟩
  rw [hx] at HQ ⊢
  clear hx
  have HBb := hide_ ((Below.refl w1.heap.size w1).alloc (Nat.le_refl _) (.cells #[.int .i64 x.k, .string x.t, .int .i64 x.n, .int .i64 x.a, .int .i64 x.e] 42))
  have KT := hide_ (Blk.newA w1 #[.int .i64 x.k, .string x.t, .int .i64 x.n, .int .i64 x.a, .int .i64 x.e] 42)
  have HPb := hide_ (HP1.out.later HBb.out)
  have HUb := hide_ (HU1.out.then HBb.out)
  have KDb := hide_ (KD1.out.later HBb.out)
  have hs1 := HU1.out.size
  obtain ⟨wb, hwb⟩ : ∃ wb, wb = w1.alloc (.cells #[.int .i64 x.k, .string x.t, .int .i64 x.n, .int .i64 x.a, .int .i64 x.e] 42) := ⟨_, rfl⟩
  rw [← hwb] at HBb KT HPb HUb KDb
  clear HP1 HU1 KD1
  unfold tkv
  go_wp2_with fail
  rw [← hwb]
  clear hwb
  refine (text_any HPb ⟨#[61]⟩ (by decide)).mono ?_; rintro e w2 (⟨i2, hj, rfl, HP2, HU⟩ | ⟨y, hy, rfl, HU⟩)
  case inr =>
    have HJ := hide_ hy
    clear hy
    unfold Flt
    go_wp2
    exact ⟨rfl, .inr ⟨y, by rw [← HR.out]; unfold defP; rw [H1.out, bnd_ok, HJ.out, bnd_err], rfl, hide_ (HUb.out.to HU.out)⟩⟩
  have H2 := hide_ hj
  have hg1 : g < w1.heap.size := by omega
  have HU2 := hide_ (HUb.out.to HU.out)
  have KT2 := hide_ (KT.out.upd HU.out (by show ¬ w1.heap.size = g; omega))
  have KD2 := hide_ (KDb.out.upd HU.out (by show ¬ w.heap.size = g; omega))
  have g3 := HP2.out.1.cell 3
  have z3 := HP2.out.1.frozen 3
  simp at g3
  have HP3 := hide_ HP2.out.nilN
  have HU3 := hide_ (HU2.out.set ⟨g, 3, none⟩ (.slice none 0 0) (.inl rfl))
  have KT3 := hide_ (KT2.out.other ⟨g, 3, none⟩ (.slice none 0 0) (by show w1.heap.size ≠ g; omega))
  have KD3 := hide_ (KD2.out.other ⟨g, 3, none⟩ (.slice none 0 0) (by show w.heap.size ≠ g; omega))
  obtain ⟨w3, hw3⟩ : ∃ w3, w3 = w2.setCell ⟨g, 3, none⟩ (.slice none 0 0) := ⟨_, rfl⟩
  rw [← hw3] at HP3 HU3 KT3 KD3
  clear hj HU HPb HUb KDb KT HBb HP2 HU2 KT2 KD2
  go_wp2_with fail
  rw [← hw3]
  clear hw3 g3 z3
  have HEx := expr_any (hide_ (node_any 17)) HP3 (Nat.zero_le _) 0 (by omega)
  refine HEx.mono ?_; clear HEx; rintro e w4 (⟨M, i4, v4, hj, rfl, HPx, HMx⟩ | ⟨y, hy, rfl, HU⟩)
  case inr =>
    have HJ := hide_ hy
    clear hy
    unfold Flt
    go_wp2
    exact ⟨rfl, .inr ⟨y, by rw [← HR.out]; unfold defP; rw [H1.out, bnd_ok, H2.out, bnd_ok, HJ.out, bnd_err], rfl, hide_ (HU3.out.to (HU.out.mono (fun k _ h => by rcases h with h | h; exact h; cases h)))⟩⟩
  have H4 := hide_ hj
  have HUx := hide_ (HMx.out.1.mono (T := fun k => k = g) (fun k _ h => by rcases h with h | h; exact h; cases h))
  have HNw := hide_ (fun k (hk : v4.ownBlock = some k) => Nat.le_trans HU3.out.size ((HMx.out.2 k hk).resolve_left (fun h => by cases h)))
  have HP4 := hide_ HPx.out.1
  have HU4 := hide_ (HU3.out.to HUx.out)
  have KT4 := hide_ (KT3.out.upd HUx.out (by show ¬ w1.heap.size = g; omega))
  have KD4 := hide_ (KD3.out.upd HUx.out (by show ¬ w.heap.size = g; omega))
  clear hj HPx HMx HUx HP3 HU3 KT3 KD3
  go_wp2_with fail
  refine (text_any HP4 ⟨#[59]⟩ (by decide)).mono ?_; rintro e w5 (⟨i5, hj, rfl, HP5, HU⟩ | ⟨y, hy, rfl, HU⟩)
  case inr =>
    have HJ := hide_ hy
    clear hy
    unfold Flt
    go_wp2
    exact ⟨rfl, .inr ⟨y, by rw [← HR.out]; unfold defP; rw [H1.out, bnd_ok, H2.out, bnd_ok, H4.out, bnd_ok, HJ.out, bnd_err], rfl, hide_ (HU4.out.to HU.out)⟩⟩
  have H5 := hide_ hj
  have HU5 := hide_ (HU4.out.to HU.out)
  have KT5 := hide_ (KT4.out.upd HU.out (by show ¬ w1.heap.size = g; omega))
  have KD5 := hide_ (KD4.out.upd HU.out (by show ¬ w.heap.size = g; omega))
  clear hj HU HP4 HU4 KT4 KD4
  obtain ⟨va, vc, hva⟩ := own_slice HP5.out.2.2.1
  rw [show (([] : List Nd) ++ M.map (ndP ts L)).length = M.length by simp] at hva
  rw [List.nil_append] at HP5
  subst hva
  have g3 := HP5.out.1.cell 3
  have t1 := KT5.out.cell 1; have t3 := KT5.out.cell 3
  have d0 := KD5.out.cell 0; have d1 := KD5.out.cell 1; have d2 := KD5.out.cell 2
  have f0 := KD5.out.frozen 0; have f1 := KD5.out.frozen 1; have f2 := KD5.out.frozen 2
  simp at g3 t1 t3 d0 d1 d2
  go_wp2_with fail
  go_region
  go_wp2
  have hU6 : Upd (fun k => k = w.heap.size) w5 (((w5.setCell ⟨w.heap.size, 0, none⟩ (.string x.t)).setCell ⟨w.heap.size, 1, none⟩ (.int .i64 (x.a : Int))).setCell ⟨w.heap.size, 2, none⟩ (.slice va M.length vc)).drew := ((((Upd.refl (fun k => k = w.heap.size) w5).set ⟨w.heap.size, 0, none⟩ _ (.inl rfl)).set ⟨w.heap.size, 1, none⟩ _ (.inl rfl)).set ⟨w.heap.size, 2, none⟩ _ (.inl rfl)).drew
  have hl1 : ∀ k, tv.ownBlock = some k → ¬ k = w.heap.size := fun k hk => Nat.ne_of_lt (own_lt HP.out.2.1 hk)
  have hl2 : ∀ k, (Value.slice va M.length vc).ownBlock = some k → ¬ k = w.heap.size := fun k hk e => by
    obtain ⟨ys, hy⟩ := ownS_type HP5.out.2.2.1 hk
    subst e
    exact absurd (blk_type hy KD5.out) (by decide)
  refine retD (d := ⟨x.t, (x.a : Int), M.map (ndP ts L)⟩) (v := .slice va M.length vc) rfl rfl ((wr3 KD5.out (.string x.t) (.int .i64 (x.a : Int)) (.slice va M.length vc)).drew) (.inl ⟨⟨x.t, p, M⟩, i5, .slice va M.length vc, ?_, ?_, hide_ (HP5.out.upd hU6 (by omega) hl1 hl2), hide_ (HU5.out.trans hU6 (fun k h1 h2 => by omega)), HNw⟩)
  · rw [← HR.out]; unfold defP; rw [H1.out, bnd_ok, H2.out, bnd_ok, H4.out, bnd_ok, H5.out, bnd_ok, ← HQ.out.1]; rfl
  · show Ending.returned _ = Ending.returned _
    unfold dfv dfP
    rw [show plc ts L (p : Int).toNat = plc ts L p from rfl, HQ.out.2]
end Go.Proofs.Ytokepgimjdalaaa
