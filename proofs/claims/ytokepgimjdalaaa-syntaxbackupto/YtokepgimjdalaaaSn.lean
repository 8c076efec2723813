/- source. -/
import Derived.Test.YtokepgimjdalaaaSm
namespace Go.Proofs.Ytokepgimjdalaaa
open Go.RowKit
set_option linter.unusedVariables false

/-- Behind the definitions. -/
def SrcTo (w : World) (B g : Nat) (ts : List Tk) (L : Nat) (r : PR (List Df)) (e : Ending) (w' : World) : Prop :=
  (∃ D vd vs, r = .ok D ∧ e = .returned (.agg #[vd]) ∧ Hid (Src w' B vd (D.map (dfP ts L)) vs ∧ D.length ≤ 256) ∧ Hid (Upd (fun k => k = g) w w')) ∨
  (∃ y, r = .error y ∧ e = Flt y.1 (plc ts L y.2) ∧ Hid (Upd (fun k => k = g) w w'))
theorem def_ok {w : World} {B g : Nat} {tv v : Value} {ts : List Tk} {L p : Nat} {N : List Nd} (HP : Hid (Par w B g tv ts L p v N)) {D : Df} {j : Nat} (hr : defP (ts.map core) p = .ok (D, j)) :
    Calls Try.prog 28 #[.pointer (some ⟨g, 0, none⟩)] w fun e w' => ∃ v', e = .returned (dfv (dfP ts L D) v') ∧ Hid (Par w' B g tv ts L j v' (D.ty.map (ndP ts L))) ∧ Hid (Upd (fun k => k = g) w w') ∧ Hid (∀ k, v'.ownBlock = some k → w.heap.size ≤ k) := by
  refine (def_any HP).mono ?_
  rintro e w' (⟨D', j', v', h, rfl, h1, h2, h3⟩ | ⟨y, h, _⟩)
  · rw [hr] at h
    injection h with h
    injection h with ha hb
    subst ha hb
    exact ⟨v', rfl, h1, h2, h3⟩
  · rw [hr] at h; cases h
theorem def_err {w : World} {B g : Nat} {tv v : Value} {ts : List Tk} {L p : Nat} {N : List Nd} (HP : Hid (Par w B g tv ts L p v N)) {y : Nat × Nat} (hr : defP (ts.map core) p = .error y) :
    Calls Try.prog 28 #[.pointer (some ⟨g, 0, none⟩)] w fun e w' => e = Flt y.1 (plc ts L y.2) ∧ Hid (Upd (fun k => k = g) w w') := by
  refine (def_any HP).mono ?_
  rintro e w' (⟨D', j', v', h, rfl, h1, h2, h3⟩ | ⟨z, h, rfl, h2⟩)
  · rw [hr] at h; cases h
  · rw [hr] at h
    injection h with h
    subst h
    exact ⟨rfl, h2⟩
theorem retS {fn : Func} {p : Tmp} (h : fn.results = #[.cell p 25]) {R : Ending → World → Prop} {tmps : Array Value} {g : Nat} {w : World} {v : Value} (hp : tmps.getD p undef = .pointer (some ⟨g, 0, none⟩)) (hK : Blk w g 25 [v]) (hR : R (.returned (.agg #[v])) w) :
    bodyPost Try.prog fn R Exit.ret ⟨tmps, []⟩ w :=
  bodyPost_ret (results_cell_row h _ _ _ _ #[v] _ _ hp hK Try.underlying25 rfl (by show _ = some 1; kernel_rfl)) rfl hR
theorem src_next {wb w7 : World} {B g : Nat} {tv v v7 : Value} {ts : List Tk} {L p p7 : Nat} {N N7 : List Nd} {vd : Value} {D : List Df} {vs : List Value} (HS : Src wb B vd D vs) (HP : Par wb B g tv ts L p v N) (HP7 : Par w7 B g tv ts L p7 v7 N7) (HU : Upd (fun k => k = g) wb.drew w7) (HN : ∀ k, v7.ownBlock = some k → wb.drew.heap.size ≤ k) {d : Df} (hd : d.ty = N7) (hl : D.length ≤ 256) :
    ∃ gn cap w', (Builtin.append_ #[23, 23] 23 #[vd, .slice (some ⟨w7.heap.size, 0, none⟩) 1 1]).run Try.prog (w7.alloc (.cells #[.string d.name, .int .i64 d.a, v7] 38)) = .ok (.slice (some ⟨gn, 0, none⟩) (D.length + 1) cap) w' ∧
      Src w' B (.slice (some ⟨gn, 0, none⟩) (D.length + 1) cap) (D ++ [d]) (vs ++ [v7]) ∧ Upd (fun k => vd.ownBlock = some k) w7 w' ∧ (vd.ownBlock = some gn ∨ w7.heap.size ≤ gn) := by
  have hu : Upd (fun k => k = g) wb w7 := (Upd.refl (fun k => k = g) wb).drew.to HU
  have hs7 := HS.other hu HP.1 (by decide) (by decide)
  obtain ⟨a, c, hv⟩ := own_slice HP7.2.2.1
  refine hs7.push d v7 (by rw [hd]; exact HP7.2.2.1) (fun i u k hu hk e => ?_) (by omega) (Nat.le_trans HP7.2.2.2.1 (Nat.le_of_lt HP7.1.lt)) (by rw [hv]; rfl)
  obtain ⟨d', hd'⟩ := HS.d hu
  have h1 := own_lt (HS.2.2.1 i d' u hd' hu) hk
  have h2 : wb.heap.size ≤ k := HN k e
  omega
theorem src_round {w wb w7 w8 : World} {B g br bs j7 : Nat} {tv v v7 vd nv u : Value} {ts : List Tk} {L p : Nat} {N N7 : List Nd} {D D8 : List Df} {vs vs8 : List Value} {gn n cap : Nat} (HK1 : Blk wb br 25 [u]) (HK2 : Blk wb bs 25 [vd]) (hne : br ≠ bs) (hbs : w.heap.size ≤ bs) (HS : Src wb B vd D vs) (HP : Par wb B g tv ts L p v N) (HP7 : Par w7 B g tv ts L j7 v7 N7) (HU7 : Upd (fun k => k = g) wb.drew w7) (hnv : nv = .slice (some ⟨gn, 0, none⟩) n cap) (HS8 : Src w8 B nv D8 vs8) (HU8 : Upd (fun k => vd.ownBlock = some k) w7 w8) (HC8 : vd.ownBlock = some gn ∨ w7.heap.size ≤ gn) (HU : Upd (fun k => k = g) w wb) (hvd : ∀ k, vd.ownBlock = some k → w.heap.size ≤ k) :
    Hid (Par (w8.setCell ⟨bs, 0, none⟩ nv) B g tv ts L j7 v7 N7) ∧ Hid (Src (w8.setCell ⟨bs, 0, none⟩ nv) B nv D8 vs8) ∧ Hid (Blk (w8.setCell ⟨bs, 0, none⟩ nv) br 25 [u]) ∧ Hid (Blk (w8.setCell ⟨bs, 0, none⟩ nv) bs 25 [nv]) ∧ Hid (Upd (fun k => k = g) w (w8.setCell ⟨bs, 0, none⟩ nv)) ∧ Hid (∀ k, nv.ownBlock = some k → w.heap.size ≤ k) := by
  have hu7 : Upd (fun k => k = g) wb w7 := (Upd.refl (fun k => k = g) wb).drew.to HU7
  have hgt : ∀ (b : Nat) (x : Value), Blk wb b 25 [x] → b ≠ g := fun b x hb e => by subst e; exact absurd (blk_type hb HP.1) (by decide)
  have hvt : ∀ (b : Nat) (x : Value), Blk wb b 25 [x] → vd.ownBlock ≠ some b := fun b x hb e => by
    obtain ⟨zs, hz⟩ := ownS_type HS.2.1 e
    exact absurd (blk_type hb hz) (by decide)
  have k1 := (HK1.upd hu7 (hgt _ _ HK1)).upd HU8 (hvt _ _ HK1)
  have k2 := (HK2.upd hu7 (hgt _ _ HK2)).upd HU8 (hvt _ _ HK2)
  have hs7 := HS.other hu7 HP.1 (by decide) (by decide)
  have hP8 : Par w8 B g tv ts L j7 v7 N7 := HP7.upd HU8 (fun e => by
      obtain ⟨zs, hz⟩ := ownS_type hs7.2.1 e
      exact absurd (blk_type HP7.1 hz) (by decide)) (fun k hk e => by
      obtain ⟨zs, hz⟩ := ownS_type hs7.2.1 e
      obtain ⟨ys, hy⟩ := ownS_type HP7.2.1 hk
      exact absurd (blk_type hy hz) (by decide)) (fun k hk e => by
      obtain ⟨zs, hz⟩ := ownS_type hs7.2.1 e
      obtain ⟨ys, hy⟩ := ownS_type HP7.2.2.1 hk
      exact absurd (blk_type hy hz) (by decide))
  have hU9 : Upd (fun k => k = bs) w8 (w8.setCell ⟨bs, 0, none⟩ nv) := (Upd.refl _ w8).set _ _ (.inl rfl)
  refine ⟨hP8.upd hU9 (fun e => ?_) (fun k hk e => ?_) (fun k hk e => ?_), HS8.other hU9 k2 (by decide) (by decide), k1.other _ _ hne, hide_ (by have := k2.set 0 nv; simpa using this), ?_, ?_⟩
  · subst e; exact absurd (blk_type hP8.1 k2) (by decide)
  · subst e
    obtain ⟨ys, hy⟩ := ownS_type hP8.2.1 hk
    exact absurd (blk_type hy k2) (by decide)
  · subst e
    obtain ⟨ys, hy⟩ := ownS_type hP8.2.2.1 hk
    exact absurd (blk_type hy k2) (by decide)
  · exact ((HU.to hu7).trans HU8 (fun k h1 h2 => by have := hvd k h2; omega)).set _ _ (.inr hbs)
  · intro k hk
    rw [hnv] at hk
    have e := own_is hk
    subst e
    rcases HC8 with h | h
    · exact hvd _ h
    · exact Nat.le_trans (HU.to hu7).size h
set_option maxRecDepth 100000 in
set_option maxHeartbeats 8000000 in
theorem source_any {w : World} {B g : Nat} {tv v : Value} {ts : List Tk} {L : Nat} {N : List Nd} (HP : Hid (Par w B g tv ts L 0 v N)) :
    Calls Try.prog 20 #[.pointer (some ⟨g, 0, none⟩)] w fun e w' => SrcTo w B g ts L (srcP (ts.map core) 257 [] 0) e w' := by
  obtain ⟨r, hr⟩ : ∃ r, srcP (ts.map core) 257 [] 0 = r := ⟨_, rfl⟩
  have HR := hide_ hr
  rw [hr]
  clear hr
  have hgw := HP.out.1.lt
  obtain ⟨k1, k2⟩ := blk2 w #[.slice none 0 0] #[.slice none 0 0] 25
  have HK1 := hide_ k1
  have HK2 := hide_ k2
  have HB0 := hide_ (below2 w (.cells #[.slice none 0 0] 25) (.cells #[.slice none 0 0] 25))
  have HPa := hide_ (HP.out.later HB0.out)
  clear k1 k2 HP
  go_enter Try.func20, Try.ntmps20
  go_wp2_with fail
  go_loopw [] (fun wr => ∃ (q : Nat) (v : Value) (N : List Nd) (D : List Df) (vd : Value) (vs : List Value), D.length ≤ 256 ∧ Hid (srcP (ts.map core) (257 - D.length) D q = r) ∧ Hid (Par wr B g tv ts L q v N) ∧ Hid (Src wr B vd (D.map (dfP ts L)) vs) ∧ Hid (Blk wr w.heap.size 25 [.slice none 0 0]) ∧ Hid (Blk wr (w.heap.size + 1) 25 [vd]) ∧ Hid (Upd (fun k => k = g) w wr) ∧ Hid (∀ k, vd.ownBlock = some k → w.heap.size ≤ k)) (fun wr => match wr.cell? ⟨w.heap.size + 1, 0, none⟩ with | some (.slice _ n _) => 257 - n | _ => 0)
  case atStart => exact ⟨0, v, N, [], .slice none 0 0, [], Nat.zero_le _, HR, HPa, Src.nil _ _, HK1, HK2, Upd.of_below HB0.out, fun k hk => by cases hk⟩
  case round =>
    clear HR HPa HK1 HK2 HB0
    obtain ⟨q, v, N, D, vd, vs, hD, HRl, HPq, HS, HK1, HK2, HU, HVd⟩ := hrel
    generalize wr = wq at *
    obtain ⟨fu, hfu⟩ : ∃ fu, 257 - D.length = fu + 1 := ⟨256 - D.length, by omega⟩
    rw [hfu] at HRl
    obtain ⟨ta, tc, htv⟩ := own_slice HPq.out.2.1
    obtain ⟨da, dc, hdv⟩ := own_slice HS.out.2.1
    rw [List.length_map] at hdv
    have hq := HPq.out.2.2.2.2.1
    have c0 := HPq.out.1.cell 0; have c1 := HPq.out.1.cell 1
    simp at c0 c1
    rw [htv] at c0
    by_cases hlt : q < (ts.map core).length
    · have HSr : Hid (bnd (txt (ts.map core) ⟨#[116, 121, 112, 101]⟩ q) (fun i1 => if fu = 0 then .error (5, q) else bnd (defP (ts.map core) i1) fun r => srcP (ts.map core) fu (D ++ [r.1]) r.2) = r) := by
        show _ = _
        have := HRl.out
        unfold srcP at this
        rw [if_pos hlt] at this
        exact this
      rw [List.length_map] at hlt
      have hlt' : (q : Int) < ts.length := by omega
      clear HRl
      go_wp2_with fail
      go_quiet (fail)
      go_wp2_with fail
      have hBd := below_drewN (Below.refl wq.heap.size wq) nq
      have HPd := hide_ (HPq.out.later hBd)
      have HSd := hide_ (HS.out.later hBd)
      have HK1d := hide_ (HK1.out.later hBd)
      have HK2d := hide_ (HK2.out.later hBd)
      have HUd := hide_ (HU.out.then hBd)
      clear hBd
      refine (text_any HPd ⟨#[116, 121, 112, 101]⟩ (by decide)).mono ?_; rintro e w1 (⟨i1, hj, rfl, HP1, HUt⟩ | ⟨y, hy, rfl, HUt⟩)
      case inr =>
        have HJ := hide_ hy
        clear hy
        unfold Flt
        go_wp2
        exact ⟨rfl, .inr ⟨y, by rw [← HSr.out, HJ.out, bnd_err], rfl, hide_ (HUd.out.to HUt.out)⟩⟩
      have HJ1 := hide_ hj
      have HS1 := hide_ (HSd.out.other HUt.out HPd.out.1 (by decide) (by decide))
      have hgl := HPd.out.1.lt
      have hu := HU.out.size
      have HK11 := hide_ (HK1d.out.upd HUt.out (by show ¬ w.heap.size = g; omega))
      have HK21 := hide_ (HK2d.out.upd HUt.out (by show ¬ w.heap.size + 1 = g; omega))
      have HU1 := hide_ (HUd.out.to HUt.out)
      clear hj HPd HSd HK1d HK2d HUd HUt HPq HS HU c0 c1
      have HQ : Hid (plc ts L q = (tkAt ts L q).a) := rfl
      obtain ⟨x, hx⟩ : ∃ x, tkAt ts L q = x := ⟨_, rfl⟩
      rw [hx] at HQ ⊢
      clear hx
      have hBb := (Below.refl w1.heap.size w1).alloc (Nat.le_refl _) (.cells #[.int .i64 x.k, .string x.t, .int .i64 x.n, .int .i64 x.a, .int .i64 x.e] 42)
      have KT := hide_ (Blk.newA w1 #[.int .i64 x.k, .string x.t, .int .i64 x.n, .int .i64 x.a, .int .i64 x.e] 42)
      have HP2 := hide_ (HP1.out.later hBb)
      have HS2 := hide_ (HS1.out.later hBb)
      have HK12 := hide_ (HK11.out.later hBb)
      have HK22 := hide_ (HK21.out.later hBb)
      have HU2 := hide_ (HU1.out.then hBb)
      obtain ⟨wb, hwb⟩ : ∃ wb, wb = w1.alloc (.cells #[.int .i64 x.k, .string x.t, .int .i64 x.n, .int .i64 x.a, .int .i64 x.e] 42) := ⟨_, rfl⟩
      rw [← hwb] at KT HP2 HS2 HK12 HK22 HU2
      clear hBb HP1 HS1 HK11 HK21 HU1 HK1
      have s0 := HK22.out.cell 0
      simp at s0
      rw [hdv] at s0
      have t3 := KT.out.cell 3
      simp at t3
      unfold tkv
      go_upto_region 4 with fail
      rw [← hwb]
      clear hwb
      by_cases h256 : D.length = 256
      · have HE : Hid (r = .error (5, q)) := by
          show _ = _
          rw [← HSr.out, HJ1.out, bnd_ok, if_pos (by omega)]
        have hb : ((D.length : Int) == 256) = true := by simp [h256]
        have HG := hide_ (fun W => giveUp_any 5 x.a W)
        go_wp2_with fail
        refine (HG.out _).mono ?_; rintro e w6 ⟨rfl, rfl⟩
        unfold Flt
        go_wp2
        exact ⟨rfl, .inr ⟨(5, q), HE.out, by rw [HQ.out]; rfl, HU2⟩⟩
      have hb : ((D.length : Int) == 256) = false := by simp; omega
      have HPd := hide_ (HP2.out.later ((Below.refl _ wb).drew))
      have HDf := hide_ (def_any HPd)
      go_wp2_with fail
      go_region_law (first
        | (go_simp; go_at_call 28; refine HDf.out.mono ?_; rintro e w7 (⟨Dd, j7, v7, hj7, rfl, HP7, HU7, HN7⟩ | ⟨y, hy, rfl, HU7⟩); rotate_left;
           (unfold Flt; exact ⟨rfl, .inr ⟨y, by rw [← HSr.out, HJ1.out, bnd_ok, if_neg (by omega), hy, bnd_err], rfl, hide_ (HU2.out.drew.to HU7.out)⟩⟩);
           (have HJ7 := hide_ hj7);
           (clear hj7);
           (obtain ⟨d', hd'⟩ : ∃ d', dfP ts L Dd = d' := ⟨_, rfl⟩);
           (have HDd := hide_ hd');
           (rw [hd']);
           (clear hd');
           (obtain ⟨va7, vc7, hv7⟩ := own_slice HP7.out.2.2.1);
           (subst hv7);
           (obtain ⟨gn, cap, w8, R8, S8, U8, C8⟩ := src_next HS2.out HP2.out HP7.out HU7.out HN7.out (d := d') (by rw [← HDd.out]; rfl) (by rw [List.length_map]; exact hD));
           (have HR8 := hide_ R8);
           (rw [hdv, List.length_map] at HR8);
           (have HS8 := hide_ S8);
           (have HU8 := hide_ U8);
           (have HC8 := hide_ C8);
           (clear R8 S8 U8 C8);
           (have K7 := hide_ (HK22.out.upd ((Upd.refl (fun k => k = g) wb).drew.to HU7.out) (by show ¬ w.heap.size + 1 = g; omega)));
           (have s7 := K7.out.cell 0);
           (simp at s7);
           (rw [hdv] at s7);
           (have s7a : ∀ ob, (w7.alloc ob).cell? ⟨w.heap.size + 1, 0, none⟩ = some (.slice da D.length dc) := fun ob => (cell_al w7 ob _ _ K7.out.lt).trans s7);
           (have K8 := hide_ (K7.out.upd HU8.out (fun e => by obtain ⟨zs, hz⟩ := ownS_type HS2.out.2.1 e; exact absurd (blk_type HK22.out hz) (by decide))));
           (have s8 := K8.out.cell 0);
           (have z8 := K8.out.frozen 0);
           (simp at s8);
           (unfold dfv))
        | (refine step_append_run rfl (.tmp 25) (.tmp 28) 23 23 rfl rfl rfl HR8.out ?_))
      all_goals
        obtain ⟨p9, s9, k19, k29, u9, v9⟩ := src_round HK12.out HK22.out (by omega) (by omega) HS2.out HP2.out HP7.out HU7.out rfl HS8.out HU8.out HC8.out HU2.out HVd.out
        have hf9 : fu = 257 - (D ++ [Dd]).length := by simp; omega
        have HR9 : Hid (srcP (ts.map core) (257 - (D ++ [Dd]).length) (D ++ [Dd]) j7 = r) := by
          show _ = _
          rw [← HSr.out, HJ1.out, bnd_ok, if_neg (by omega), HJ7.out, bnd_ok, hf9]
        have HS9 : Hid (Src (w8.setCell ⟨w.heap.size + 1, 0, none⟩ (.slice (some ⟨gn, 0, none⟩) (D.length + 1) cap)) B (.slice (some ⟨gn, 0, none⟩) (D.length + 1) cap) ((D ++ [Dd]).map (dfP ts L)) (vs ++ [.slice va7 Dd.ty.length vc7])) := by
          have h := s9.out
          rw [List.length_map] at h
          rw [List.map_append, List.map_cons, List.map_nil, HDd.out]
          exact hide_ (by simpa using h)
        rw [List.length_map] at p9 k19 k29 u9 v9
        have c9 := k29.out.cell 0
        have HM : Hid ((wq.cell? ⟨w.heap.size + 1, 0, none⟩) = some (.slice da D.length dc)) := by
          have h := HK2.out.cell 0
          rw [hdv] at h
          exact h
        simp at c9
        go_wp2
        go_roundw
        case rel => exact ⟨j7, _, _, D ++ [Dd], _, _, by simp; omega, HR9, p9, HS9, k19, k29, u9, v9⟩
        case measure => rw [HM.out, c9]; simp; omega
    · have HE : Hid (r = .ok D) := by
        show _ = _
        have := HRl.out
        unfold srcP at this
        rw [if_neg hlt] at this
        exact this.symm
      rw [List.length_map] at hlt
      have hq2 : (ts.length : Int) ≤ q := by omega
      have hq3 : ¬ (q : Int) < ts.length := by omega
      clear HRl
      have s0 := HK2.out.cell 0
      have r0 := HK1.out.cell 0
      have z0 := HK1.out.frozen 0
      simp at s0 r0
      go_wp2_with fail
      go_quiet (fail)
      go_wp2
      have hBd := below_drewN (Below.refl wq.heap.size wq) nq
      have k1 := HK1.out.later hBd
      have hS := HS.out.later hBd
      have hU9 : Upd (fun k => k = w.heap.size) (wq.drewN nq) ((wq.drewN nq).setCell ⟨w.heap.size, 0, none⟩ (.slice da D.length dc)) := (Upd.refl _ _).set _ _ (.inl rfl)
      have hS9 := hS.other hU9 k1 (by decide) (by decide)
      rw [hdv] at hS9
      exact retS rfl rfl (by have h := k1.set 0 (.slice da D.length dc); simpa using h) (.inl ⟨D, _, vs, HE.out, rfl, hide_ ⟨hS9, hD⟩, hide_ ((HU.out.then hBd).trans hU9 (fun k h1 h2 => by omega))⟩)
end Go.Proofs.Ytokepgimjdalaaa
