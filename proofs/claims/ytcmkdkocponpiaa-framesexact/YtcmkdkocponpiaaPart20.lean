import Derived.Test.YtcmkdkocponpiaaPart19
import Derived.Test.YtcmkdkocponpiaaPart12
import Derived.Test.YtcmkdkocponpiaaPart15
import Derived.Test.YtcmkdkocponpiaaPart16

/- Frames: the reader's frame. -/
namespace Go.Proofs.Ytcmkdkocponpiaa
open Go.RowKit
set_option linter.unusedVariables false

/-- What the reader's frame answers. -/
def FrmTo (w : World) (g : Nat) (a : Option Addr) (c : Nat) (b : List Int) (R : Except (Int × Int) (Fr × Nat)) (e : Ending) (w' : World) : Prop :=
  (∃ f q a' c', R = .ok (f, q) ∧ e = .returned (.agg #[.int .i64 f.r, .int .i64 f.a, .int .i64 f.b, .int .i64 f.e, .int .i64 f.n, .int .i64 f.x, .slice a' f.T.length c']) ∧ Hid (RdM w' g a c b q) ∧ Hid (IOwn w' w.heap.size (.slice a' f.T.length c') f.T) ∧ Hid (Upd (fun k => k = g) w w')) ∨
  (∃ er at_, R = .error (er, at_) ∧ e = Flt er at_ ∧ Hid (Upd (fun k => k = g) w w'))
theorem tab_next {b : List Int} {n q q' : Nat} {x : Int} {β : Type} (F : List Int × Nat → Except (Int × Int) β) (hx : posP b q = .ok (x, q')) : bnd (tabP b (n + 1) q) F = bnd (tabP b n q') fun y => F (x :: y.1, y.2) := by
  rw [tabP, hx, bnd_ok]
  dsimp only
  cases tabP b n q' with
  | error e => rfl
  | ok y => rfl
theorem tab_err {b : List Int} {n q : Nat} {e : Int × Int} {β : Type} (F : List Int × Nat → Except (Int × Int) β) (hx : posP b q = .error e) : bnd (tabP b (n + 1) q) F = .error e := by
  rw [tabP, hx, bnd_err, bnd_err]
set_option maxRecDepth 100000 in
set_option maxHeartbeats 16000000 in
theorem frame_any (w : World) (g : Nat) (a : Option Addr) (c : Nat) (b : List Int) (p : Nat) (hR : Hid (RdM w g a c b p)) (hne : 0 < b.length) :
    Calls Try.prog 50 #[.pointer (some ⟨g, 0, none⟩)] w fun e w' => FrmTo w g a c b (frP b p) e w' := by
  obtain ⟨R, hRd⟩ : ∃ R, frP b p = R := ⟨_, rfl⟩
  rw [hRd]
  unfold frP at hRd
  have HZ := hide_ hRd
  have HPos : Hid (∀ (w' : World) (q : Nat), Hid (RdM w' g a c b q) → Calls Try.prog 71 #[.pointer (some ⟨g, 0, none⟩)] w' fun e w'' => NumTo w' g a c b (posP b q) e w'') := hide_ (fun w' q h => position_any w' g a c b q h hne)
  have HPon : Hid (∀ (w' : World) (q : Nat), Hid (RdM w' g a c b q) → Calls Try.prog 72 #[.pointer (some ⟨g, 0, none⟩)] w' fun e w'' => NumTo w' g a c b (ponP b q) e w'') := hide_ (fun w' q h => positionOr_any w' g a c b q h hne)
  have HNum : Hid (∀ (w' : World) (q : Nat), Hid (RdM w' g a c b q) → Calls Try.prog 49 #[.pointer (some ⟨g, 0, none⟩), .int .i64 0, .int .i64 1048576] w' fun e w'' => NumTo w' g a c b (numP b 0 1048576 q) e w'') := hide_ (fun w' q h => number_any w' g a c b q 0 1048576 h hne (by decide) (by decide) (by decide) (by decide))
  have hgw : g < w.heap.size := hR.out.box.lt
  have HA : Hid (∀ x, a = some x → x.block < w.heap.size) := hide_ (fun x hx => by
    obtain ⟨gb, off, e, hgb, -⟩ := hR.out.row.open hne
    rw [e] at hx
    injection hx with hx
    subst hx
    exact hgb)
  obtain ⟨w0, hw0⟩ : ∃ wx, wx = w.alloc (.cells #[.int .i64 0, .int .i64 0, .int .i64 0, .int .i64 0, .int .i64 0, .int .i64 0, .slice none 0 0] 39) := ⟨_, rfl⟩
  have hB0 : Below w.heap.size w w0 := by rw [hw0]; exact below1 _ _
  have HK0 : Hid (Blk w0 w.heap.size 39 (frc frz)) := hide_ (by rw [hw0]; exact Blk.newA w _ _)
  have HR0 := hide_ (hR.out.later hB0)
  have HU0 : Hid (Upd (fun k => k = g) w w0) := hide_ (Upd.of_below hB0)
  clear hRd hB0 hR
  go_enter Try.func50, Try.ntmps50
  go_upto_region 1 with fail
  rw [← hw0]
  clear hw0
  go_wp2_with fail
  refine (HPos.out w0 p HR0).mono ?_
  rintro e w1 (⟨x1, q1, hx, rfl, HR1, HV1⟩ | ⟨er, at_, hx, rfl, HV1⟩)
  case inr =>
    have h := HZ.out
    rw [hx, bnd_err] at h
    have HE := hide_ h
    clear h hx
    unfold Flt
    go_wp2
    exact ⟨rfl, .inr ⟨er, at_, HE.out.symm, rfl, hide_ (HU0.out.to HV1.out)⟩⟩
  have h := HZ.out
  rw [hx, bnd_ok] at h
  dsimp only at h
  clear HZ
  have HZ := hide_ h
  have HU1 := hide_ (HU0.out.to HV1.out)
  have HK1 := hide_ (HK0.out.upd HV1.out (show ¬ w.heap.size = g by omega))
  clear h hx HR0 HU0 HK0 HV1
  go_wp2_with fail
  refine (HPos.out w1 q1 HR1).mono ?_
  rintro e w2 (⟨x2, q2, hx, rfl, HR2, HV2⟩ | ⟨er, at_, hx, rfl, HV2⟩)
  case inr =>
    have h := HZ.out
    rw [hx, bnd_err] at h
    have HE := hide_ h
    clear h hx
    unfold Flt
    go_wp2
    exact ⟨rfl, .inr ⟨er, at_, HE.out.symm, rfl, hide_ (HU1.out.to HV2.out)⟩⟩
  have h := HZ.out
  rw [hx, bnd_ok] at h
  dsimp only at h
  clear HZ
  have HZ := hide_ h
  have HU2 := hide_ (HU1.out.to HV2.out)
  have HK2 := hide_ (HK1.out.upd HV2.out (show ¬ w.heap.size = g by omega))
  clear h hx HR1 HU1 HK1 HV2
  go_wp2_with fail
  refine (HPos.out w2 q2 HR2).mono ?_
  rintro e w3 (⟨x3, q3, hx, rfl, HR3, HV3⟩ | ⟨er, at_, hx, rfl, HV3⟩)
  case inr =>
    have h := HZ.out
    rw [hx, bnd_err] at h
    have HE := hide_ h
    clear h hx
    unfold Flt
    go_wp2
    exact ⟨rfl, .inr ⟨er, at_, HE.out.symm, rfl, hide_ (HU2.out.to HV3.out)⟩⟩
  have h := HZ.out
  rw [hx, bnd_ok] at h
  dsimp only at h
  clear HZ
  have HZ := hide_ h
  have HU3 := hide_ (HU2.out.to HV3.out)
  have HK3 := hide_ (HK2.out.upd HV3.out (show ¬ w.heap.size = g by omega))
  clear h hx HR2 HU2 HK2 HV3
  go_wp2_with fail
  refine (HPon.out w3 q3 HR3).mono ?_
  rintro e w4 (⟨x4, q4, hx, rfl, HR4, HV4⟩ | ⟨er, at_, hx, rfl, HV4⟩)
  case inr =>
    have h := HZ.out
    rw [hx, bnd_err] at h
    have HE := hide_ h
    clear h hx
    unfold Flt
    go_wp2
    exact ⟨rfl, .inr ⟨er, at_, HE.out.symm, rfl, hide_ (HU3.out.to HV4.out)⟩⟩
  have h := HZ.out
  rw [hx, bnd_ok] at h
  dsimp only at h
  clear HZ
  have HZ := hide_ h
  have HU4 := hide_ (HU3.out.to HV4.out)
  have HK4 := hide_ (HK3.out.upd HV4.out (show ¬ w.heap.size = g by omega))
  clear h hx HR3 HU3 HK3 HV4
  go_wp2_with fail
  refine (HPon.out w4 q4 HR4).mono ?_
  rintro e w5 (⟨x5, q5, hx, rfl, HR5, HV5⟩ | ⟨er, at_, hx, rfl, HV5⟩)
  case inr =>
    have h := HZ.out
    rw [hx, bnd_err] at h
    have HE := hide_ h
    clear h hx
    unfold Flt
    go_wp2
    exact ⟨rfl, .inr ⟨er, at_, HE.out.symm, rfl, hide_ (HU4.out.to HV5.out)⟩⟩
  have h := HZ.out
  rw [hx, bnd_ok] at h
  dsimp only at h
  clear HZ
  have HZ := hide_ h
  have HU5 := hide_ (HU4.out.to HV5.out)
  have HK5 := hide_ (HK4.out.upd HV5.out (show ¬ w.heap.size = g by omega))
  clear h hx HR4 HU4 HK4 HV5
  go_wp2_with fail
  refine (HPos.out w5 q5 HR5).mono ?_
  rintro e w6 (⟨x6, q6, hx, rfl, HR6, HV6⟩ | ⟨er, at_, hx, rfl, HV6⟩)
  case inr =>
    have h := HZ.out
    rw [hx, bnd_err] at h
    have HE := hide_ h
    clear h hx
    unfold Flt
    go_wp2
    exact ⟨rfl, .inr ⟨er, at_, HE.out.symm, rfl, hide_ (HU5.out.to HV6.out)⟩⟩
  have h := HZ.out
  rw [hx, bnd_ok] at h
  dsimp only at h
  clear HZ
  have HZ := hide_ h
  have HU6 := hide_ (HU5.out.to HV6.out)
  have HK6 := hide_ (HK5.out.upd HV6.out (show ¬ w.heap.size = g by omega))
  clear h hx HR5 HU5 HK5 HV6
  obtain ⟨w7, hw7⟩ : ∃ wx, wx = w6.alloc (.cells #[.int .i64 x1, .int .i64 x2, .int .i64 x3, .int .i64 x4, .int .i64 x5, .int .i64 x6, .slice none 0 0] 39) := ⟨_, rfl⟩
  have hB7 : Below w6.heap.size w6 w7 := by rw [hw7]; exact below1 _ _
  obtain ⟨gf, hgf⟩ : ∃ gf, gf = w6.heap.size := ⟨_, rfl⟩
  have HF7 : Hid (Blk w7 gf 39 (frc (⟨x1, x2, x3, x4, x5, x6, []⟩, .slice none 0 0))) := hide_ (by rw [hw7, hgf]; exact Blk.newA w6 _ _)
  have HR7 := hide_ (HR6.out.later hB7)
  have HU7 := hide_ (HU6.out.then hB7)
  have HK7 := hide_ (HK6.out.later hB7)
  have hgfw : w.heap.size < gf := by rw [hgf]; exact HK6.out.lt
  clear hB7 HR6 HU6 HK6
  go_upto_region 2 with fail
  rw [← hw7]
  clear hw7
  rw [← hgf]
  clear hgf
  go_wp2_with fail
  refine (HNum.out w7 q6 HR7).mono ?_
  rintro e w8 (⟨x7, q7, hx, rfl, HR8, HV8⟩ | ⟨er, at_, hx, rfl, HV8⟩)
  case inr =>
    have h := HZ.out
    rw [hx, bnd_err] at h
    have HE := hide_ h
    clear h hx
    unfold Flt
    go_wp2
    exact ⟨rfl, .inr ⟨er, at_, HE.out.symm, rfl, hide_ (HU7.out.to HV8.out)⟩⟩
  have h := HZ.out
  rw [hx, bnd_ok] at h
  dsimp only at h
  have hx7 := numB HR7.out.bys HR7.out.at_ hx
  obtain ⟨K, rfl⟩ := Int.eq_ofNat_of_zero_le hx7.2.2.1
  rw [Int.toNat_natCast] at h
  have hK : K ≤ 1048576 := by omega
  clear HZ
  have HZ := hide_ h
  have HU8 := hide_ (HU7.out.to HV8.out)
  have HK8 := hide_ (HK7.out.upd HV8.out (show ¬ w.heap.size = g by omega))
  have HF8 := hide_ (HF7.out.upd HV8.out (show ¬ gf = g by omega))
  clear h hx hx7 HR7 HU7 HK7 HF7 HV8 HNum HPon
  go_wp2_with fail
  go_loopw [19] (fun x19 wr => ∃ (i : Nat) (q : Nat) (T : List Int) (v : Value), i ≤ K ∧ x19 = .int .i64 (i : Int) ∧ Hid (T.length = i) ∧ Hid (bnd (tabP b (K - i) q) (fun t => Except.ok (⟨x1, x2, x3, x4, x5, x6, T ++ t.1⟩, t.2)) = R) ∧ Hid (RdM wr g a c b q) ∧ Hid (Blk wr gf 39 (frc (⟨x1, x2, x3, x4, x5, x6, []⟩, v))) ∧ Hid (IOwn wr w.heap.size v T) ∧ Hid (Blk wr w.heap.size 39 (frc frz)) ∧ Hid (Upd (fun k => k = g) w wr)) (fun x19 _ => K - (intOf x19).toNat)
  case atStart => exact ⟨0, q7, [], .slice none 0 0, Nat.zero_le _, rfl, hide_ rfl, HZ, HR8, HF8, hide_ (IOwn.nil _ _), HK8, HU8⟩
  case round =>
    clear HZ HR8 HF8 HK8 HU8
    obtain ⟨i, q, T, v, hi, rfl, HTl, HZ, HRq, HF, HI, HK, HU⟩ := hrel
    generalize wr = wq at *
    obtain ⟨av, cv, rfl⟩ := HI.out.slice
    have hTl := HTl.out
    by_cases hlt : i < K
    · have hlt' : (i : Int) < K := by omega
      obtain ⟨n, hn⟩ : ∃ n, K - i = n + 1 := ⟨K - i - 1, by omega⟩
      have hn' : K - (i + 1) = n := by omega
      have HN := hide_ hn'
      rw [hn] at HZ
      have HP := hide_ (HPos.out wq.drew q (hide_ (HRq.out.later ((Below.refl wq.heap.size wq).drew))))
      have HS1 : Hid ((fun w' => w'.cell? ⟨gf, 6, none⟩ = some (.slice av T.length cv)) wq.drew) := hide_ (by have := HF.out.drew.cell 6; exact this)
      have l6 := HF.out.cell 6
      simp [frc] at l6
      have hIl : ∀ k, (Value.slice av T.length cv).ownBlock = some k → ¬ k = g := fun k hk e => by
        subst e
        exact absurd hk (HI.out.notF HRq.out.box (by decide))
      have hIf : ∀ k, (Value.slice av T.length cv).ownBlock = some k → ¬ k = gf := fun k hk e => by
        subst e
        exact absurd hk (HI.out.notF HF.out (by decide))
      have HIl := hide_ hIl
      have HIf := hide_ hIf
      clear hn hn' hIl hIf hTl
      go_wp2_with fail
      refine wp_region_last 7 (fun w' => w'.cell? ⟨gf, 6, none⟩ = some (.slice av T.length cv)) (by kernel_rfl) (HS1.out) (fun hHeld => ?_)
      refine wpAnyF_take [7] (by kernel_rfl) (i := 0) (v := ?vf1) rfl (by kernel_rfl) (by kernel_rfl) (by kernel_rfl) (fun _ _ _ h => h) (Or.inl ⟨by kernel_rfl, ?hyf1⟩) hHeld ?restf1
      case hyf1 => intro w' hSw; (try dsimp only at hSw); go_simp; try with_reducible rfl
      simp only [Act.put]
      try dsimp only
      refine wpAnyF_take [7] (by kernel_rfl) (i := 1) (v := ?vf2) rfl (by kernel_rfl) (by kernel_rfl) (by kernel_rfl) (fun _ _ _ h => h) (Or.inl ⟨by kernel_rfl, ?hyf2⟩) hHeld ?restf2
      case hyf2 => intro w' hSw; (try dsimp only at hSw); go_simp; try with_reducible rfl
      simp only [Act.put]
      try dsimp only
      refine wpAnyF_take [7] (by kernel_rfl) (i := 2) (v := ?vf3) rfl (by kernel_rfl) (by kernel_rfl) (by kernel_rfl) (fun _ _ _ h => h) (Or.inl ⟨by kernel_rfl, ?hyf3⟩) hHeld ?restf3
      case hyf3 => intro w' hSw; (try dsimp only at hSw); go_simp; try with_reducible rfl
      simp only [Act.put]
      try dsimp only
      refine wpAnyF_ready (rs := [3]) (by kernel_rfl) (by simp) ?_
      refine AllReadyF.cons rfl (fun K hK => ?_) AllReadyF.nil
      go_simp
      refine HP.out.mono ?_
      rintro e w4 hto
      rcases hto with ⟨x, q', hx, rfl, HR4, HU4⟩ | ⟨er, at_, hx, rfl, HU4⟩
      rotate_left
      · unfold Flt
        dsimp only
        have h := HZ.out
        rw [tab_err _ hx] at h
        have HE := hide_ h
        have HUe := hide_ (HU.out.to (((Upd.refl (fun k => k = g) wq).drew).to HU4.out))
        clear h hx
        exact ⟨rfl, .inr ⟨er, at_, HE.out.symm, rfl, HUe⟩⟩
      have h := HZ.out
      rw [tab_next _ hx] at h
      dsimp only at h
      rw [← HN.out] at h
      have HZ4 := hide_ h
      have hu4 : Upd (fun k => k = g) wq w4 := ((Upd.refl (fun k => k = g) wq).drew).to HU4.out
      have HF4 := hide_ (HF.out.upd hu4 (show ¬ gf = g by omega))
      have HK4 := hide_ (HK.out.upd hu4 (show ¬ w.heap.size = g by omega))
      have HI4 := hide_ (HI.out.upd hu4 HIl.out)
      have HUa := hide_ (HU.out.to hu4)
      have hs4 : w.heap.size ≤ w4.heap.size := HUa.out.size
      obtain ⟨gT, capT, w5', hr, ho, hu, hgT⟩ := HI4.out.push x (by have := HTl.out; omega) hs4
      have HAp := hide_ hr
      have HI5 := hide_ ho
      have HU5 := hide_ hu
      have hvl : ∀ k, (Value.slice av T.length cv).ownBlock = some k → w.heap.size ≤ k := fun k hk => (HI4.out.lies hk).1
      have HF5 := hide_ (HF4.out.upd hu (fun e => HIf.out _ e rfl))
      have HK5 := hide_ (HK4.out.upd hu (fun e => HI4.out.notF HK4.out (by decide) e))
      have HR5 := hide_ (HR4.out.upd hu (fun e => HIl.out _ e rfl) (fun _ y hy e => by
        have h1 := hvl _ e
        have h2 := HA.out y hy
        omega))
      have HUb := hide_ (HUa.out.trans hu (fun k hk e => by have := hvl k e; omega))
      have HS3 : Hid ((fun w' => w'.cell? ⟨gf, 6, none⟩ = some (.slice av T.length cv)) w4) := hide_ (HF4.out.cell 6)
      have HS4 : Hid ((fun w' => w'.cell? ⟨gf, 6, none⟩ = some (.slice av T.length cv)) (w4.alloc (.cells #[.int .i64 x] 3))) := hide_ ((HF4.out.alloc _).cell 6)
      have HS5 : Hid ((fun w' => w'.cell? ⟨gf, 6, none⟩ = some (.slice av T.length cv)) w5') := hide_ (HF5.out.cell 6)
      clear h hx hr ho hu hgT hu4 hs4 hvl
      dsimp only
      refine hK.out _ _ (HS3.out) (fun hHeld => ?_)
      clear hK K
      refine wpAnyF_ready (rs := [4]) (by kernel_rfl) (by simp) ?_
      refine AllReadyF.cons rfl (fun K hK => ?_) AllReadyF.nil
      go_simp
      refine hK.out _ _ (HS4.out) (fun hHeld => ?_)
      clear hK K
      refine wpAnyF_ready (rs := [5]) (by kernel_rfl) (by simp) ?_
      refine AllReadyF.cons rfl (fun K hK => ?_) AllReadyF.nil
      refine step_append_run rfl (.tmp 22) (.tmp 25) 37 37 rfl (v := .slice av T.length cv) (u := .slice (some ⟨w4.heap.size, 0, none⟩) 1 1) (by kernel_rfl) (by kernel_rfl) HAp.out ?_
      simp only [Act.put]
      refine hK.out _ _ (HS5.out) (fun hHeld => ?_)
      clear hK K
      refine wpAnyF_take [7] (by kernel_rfl) (i := 6) (v := ?vf4) rfl (by kernel_rfl) (by kernel_rfl) (by kernel_rfl) (fun _ _ _ h => h) (Or.inl ⟨by kernel_rfl, ?hyf4⟩) hHeld ?restf4
      case hyf4 => intro w' hSw; (try dsimp only at hSw); go_simp; try with_reducible rfl
      simp only [Act.put]
      try dsimp only
      refine wpAnyF_ready (rs := [7]) (by kernel_rfl) (by simp) ?_
      refine AllReadyF.last rfl (fun K hK => ?_)
      have l6 := HF5.out.cell 6; have z6 := HF5.out.frozen 6
      simp [frc] at l6
      go_simp
      refine hK.out _ _ ?_
      clear hK K
      refine wpAnyF_done (by kernel_rfl) ?_ _
      go_wp2_with fail
      have hset := (Upd.refl (fun k => k = gf) w5').set ⟨gf, 6, none⟩ (.slice (some ⟨gT, 0, none⟩) (T.length + 1) capT) (.inl rfl)
      have hr6 := HR5.out.upd hset (show ¬ g = gf by omega) (fun _ y hy e => by have := HA.out y hy; omega)
      have hk6 := HK5.out.upd hset (show ¬ w.heap.size = gf by omega)
      have hi6 := HI5.out.upd hset (fun k hk e => by subst e; exact absurd hk (HI5.out.notF HF5.out (by decide)))
      have hf6 := HF5.out.set 6 (.slice (some ⟨gT, 0, none⟩) (T.length + 1) capT)
      have hu6 := HUb.out.trans hset (fun k hk e => by omega)
      have HR6 := hide_ hr6
      have HK6 := hide_ hk6
      have HI6 := hide_ hi6
      have HF6 := hide_ hf6
      have HU6 := hide_ hu6
      clear hset hr6 hk6 hi6 hf6 hu6
      go_roundw
      case rel => exact ⟨i + 1, q', T ++ [x], .slice (some ⟨gT, 0, none⟩) (T.length + 1) capT, by omega, by go_num, hide_ (by have := HTl.out; simp; exact this), hide_ (by simp only [List.append_assoc, List.singleton_append]; exact HZ4.out), HR6, HF6, HI6, HK6, HU6⟩
      case measure => simp [intOf]; omega
    · obtain rfl : i = K := by omega
      rw [Nat.sub_self] at HZ
      have hz : R = .ok (⟨x1, x2, x3, x4, x5, x6, T⟩, q) := by
        have h := HZ.out
        rw [tabP, bnd_ok] at h
        dsimp only at h
        rw [List.append_nil] at h
        exact h.symm
      have HZe := hide_ hz
      have hkf := HF.out
      have l0 := hkf.cell 0; have l1 := hkf.cell 1; have l2 := hkf.cell 2; have l3 := hkf.cell 3; have l4 := hkf.cell 4; have l5 := hkf.cell 5; have l6 := hkf.cell 6
      have hkz := HK.out
      have m0 := hkz.cell 0; have m1 := hkz.cell 1; have m2 := hkz.cell 2; have m3 := hkz.cell 3; have m4 := hkz.cell 4; have m5 := hkz.cell 5; have m6 := hkz.cell 6
      have y0 := hkz.frozen 0; have y1 := hkz.frozen 1; have y2 := hkz.frozen 2; have y3 := hkz.frozen 3; have y4 := hkz.frozen 4; have y5 := hkz.frozen 5; have y6 := hkz.frozen 6
      simp [frc, frz, fr0] at l0 l1 l2 l3 l4 l5 l6 m0 m1 m2 m3 m4 m5 m6
      clear hz hkf hkz hTl
      go_wp2_with fail
      have hk7 := HK.out.set7 ⟨x1, x2, x3, x4, x5, x6, T⟩ (.slice av T.length cv)
      have hu7 := upd7 wq w.heap.size 0 ⟨x1, x2, x3, x4, x5, x6, T⟩ (.slice av T.length cv)
      have hs : w.heap.size < wq.heap.size := HK.out.lt
      refine retF rfl ⟨x1, x2, x3, x4, x5, x6, T⟩ _ rfl hk7 ?_
      have hi7 := HI.out.upd hu7 (fun k hk e => by subst e; exact absurd hk (HI.out.notF HK.out (by decide)))
      have hr7 := HRq.out.upd hu7 (show ¬ g = w.heap.size by omega) (fun _ x hx e => by have := HA.out x hx; omega)
      exact .inl ⟨⟨x1, x2, x3, x4, x5, x6, T⟩, q, av, cv, HZe.out, rfl, hide_ hr7, hide_ hi7, hide_ (HU.out.trans hu7 (fun k hk e => by omega))⟩
end Go.Proofs.Ytcmkdkocponpiaa

/- Frames: the reader's mark and stack. -/
namespace Go.Proofs.Ytcmkdkocponpiaa
open Go.RowKit
set_option linter.unusedVariables false

/-- What the reader's mark answers. -/
def MkRTo (w : World) (g : Nat) (a : Option Addr) (c : Nat) (b : List Int) (e : Ending) (w' : World) : Prop :=
  (b = [] ∧ e = Flt 20 0 ∧ Hid (Upd (fun k => k = g) w w')) ∨
  (b ≠ [] ∧ b.getD 0 0 ≠ 102 ∧ e = Flt 221 0 ∧ Hid (Upd (fun k => k = g) w w')) ∨
  (b ≠ [] ∧ b.getD 0 0 = 102 ∧ e = .returned (.tuple #[]) ∧ Hid (RdM w' g a c b 1) ∧ Hid (Upd (fun k => k = g) w w'))
set_option maxRecDepth 100000 in
set_option maxHeartbeats 8000000 in
theorem rmark_any (w : World) (g : Nat) (a : Option Addr) (c : Nat) (b : List Int) (hR : Hid (RdM w g a c b 0)) :
    Calls Try.prog 48 #[.pointer (some ⟨g, 0, none⟩)] w fun e w' => MkRTo w g a c b e w' := by
  have q0 := hR.out.box.cell 0; have q1 := hR.out.box.cell 1; have z1 := hR.out.box.frozen 1
  simp at q0 q1
  have HU := hide_ (Upd.refl (fun k => k = g) w)
  by_cases hb : b = []
  · have HG := hide_ (giveUp_any 20 0 w)
    have HB := hide_ hb
    rw [hb] at q0
    clear hb
    go_enter Try.func48, Try.ntmps48
    go_wp2_with fail
    refine HG.out.mono ?_
    rintro e w' ⟨rfl, rfl⟩
    unfold Flt
    go_wp2
    exact ⟨rfl, .inl ⟨HB.out, rfl, HU⟩⟩
  · have hl : 0 < b.length := by cases b with | nil => exact absurd rfl hb | cons x l => simp
    have hl0 : ((b.length : Int) == 0) = false := by simp; omega
    obtain ⟨gb, off, rfl, hgb, hcb⟩ := hR.out.row.open hl
    have hc0 := hcb 0 hl
    have hcm := hR.out.max
    have hbc := hR.out.cap
    obtain ⟨x, hx⟩ : ∃ x, b.getD 0 0 = x := ⟨_, rfl⟩
    rw [hx, Nat.add_zero] at hc0
    have HX := hide_ hx
    have HB := hide_ hb
    clear hb hcb hx hgb
    by_cases h102 : x = 102
    · have hx' : (x != 102) = false := by rw [h102]; rfl
      have HX2 := hide_ h102
      have HRs := hide_ (hR.out.step 1 (by omega))
      have HU2 := hide_ ((Upd.refl (fun k => k = g) w).set ⟨g, 1, none⟩ (.int .i64 1) (.inl rfl))
      clear h102
      go_enter Try.func48, Try.ntmps48
      go_wp2_with fail
      exact bodyPost_end (results_none rfl _ _ _) rfl (.inr (.inr ⟨HB.out, by rw [HX.out, HX2.out], rfl, HRs, HU2⟩))
    · have hx' : (x != 102) = true := by simpa using h102
      have HX2 := hide_ h102
      have HG := hide_ (giveUp_any 221 0 w)
      clear h102
      go_enter Try.func48, Try.ntmps48
      go_wp2_with fail
      refine HG.out.mono ?_
      rintro e w' ⟨rfl, rfl⟩
      unfold Flt
      go_wp2
      exact ⟨rfl, .inr (.inl ⟨HB.out, by rw [HX.out]; exact HX2.out, rfl, HU⟩)⟩
theorem frs_next {b : List Int} {n q q' : Nat} {x : Fr} {β : Type} (F : List Fr × Nat → Except (Int × Int) β) (hx : frP b q = .ok (x, q')) : bnd (frsP b (n + 1) q) F = bnd (frsP b n q') fun y => F (x :: y.1, y.2) := by
  rw [frsP, hx, bnd_ok]
  dsimp only
  cases frsP b n q' with
  | error e => rfl
  | ok y => rfl
theorem frs_err {b : List Int} {n q : Nat} {e : Int × Int} {β : Type} (F : List Fr × Nat → Except (Int × Int) β) (hx : frP b q = .error e) : bnd (frsP b (n + 1) q) F = .error e := by
  rw [frsP, hx, bnd_err, bnd_err]
/-- What the reader's stack answers. -/
def StRTo (w : World) (g : Nat) (R : Except (Int × Int) (List Fr × Int × Int)) (e : Ending) (w' : World) : Prop :=
  (∃ fs m h F gs, R = .ok (fs, m, h) ∧ e = .returned (.pointer (some ⟨gs, 0, none⟩)) ∧ Hid (Stk w' w.heap.size F gs fs m h) ∧ Hid (Upd (fun k => k = g) w w')) ∨
  (∃ er at_, R = .error (er, at_) ∧ e = Flt er at_ ∧ Hid (Upd (fun k => k = g) w w'))
set_option maxRecDepth 100000 in
set_option maxHeartbeats 16000000 in
theorem rstack_any (w : World) (g : Nat) (a : Option Addr) (c : Nat) (b : List Int) (hR : Hid (RdM w g a c b 0)) :
    Calls Try.prog 32 #[.pointer (some ⟨g, 0, none⟩)] w fun e w' => StRTo w g (ldP b) e w' := by
  obtain ⟨R, hRd⟩ : ∃ R, ldP b = R := ⟨_, rfl⟩
  rw [hRd]
  unfold ldP at hRd
  have HZ := hide_ hRd
  have HMk := hide_ (rmark_any w g a c b hR)
  have hgw : g < w.heap.size := hR.out.box.lt
  have hbmax := hR.out.max
  have hbcap := hR.out.cap
  have HBy := hide_ hR.out.bys
  have HAl : Hid (0 < b.length → ∀ x, a = some x → x.block < w.heap.size) := hide_ (fun hne x hx => by
    obtain ⟨gb, off, e, hgb, -⟩ := hR.out.row.open hne
    rw [e] at hx
    injection hx with hx
    subst hx
    exact hgb)
  clear hRd hR
  go_enter Try.func32, Try.ntmps32
  go_wp2_with fail
  refine HMk.out.mono ?_
  rintro e w1 (⟨hb, rfl, HV1⟩ | ⟨hb, hx, rfl, HV1⟩ | ⟨hb, hx, rfl, HR1, HV1⟩)
  · have h := HZ.out
    rw [if_pos hb] at h
    have HE := hide_ h
    clear h hb
    unfold Flt
    go_wp2
    exact ⟨rfl, .inr ⟨20, 0, HE.out.symm, rfl, HV1⟩⟩
  · have h := HZ.out
    rw [if_neg hb, if_pos hx] at h
    have HE := hide_ h
    clear h hb hx
    unfold Flt
    go_wp2
    exact ⟨rfl, .inr ⟨221, 0, HE.out.symm, rfl, HV1⟩⟩
  have h := HZ.out
  rw [if_neg hb, if_neg (fun h => h hx)] at h
  clear HZ
  have HZ := hide_ h
  have hne : 0 < b.length := by cases b with | nil => exact absurd rfl hb | cons x l => simp
  have HA : Hid (∀ x, a = some x → x.block < w.heap.size) := hide_ (HAl.out hne)
  have HNum : Hid (∀ (w' : World) (q : Nat) (lo hi : Int), 0 ≤ lo → lo ≤ 4611686018427387905 → 0 ≤ hi → hi ≤ 4611686018427387905 → Hid (RdM w' g a c b q) → Calls Try.prog 49 #[.pointer (some ⟨g, 0, none⟩), .int .i64 lo, .int .i64 hi] w' fun e w'' => NumTo w' g a c b (numP b lo hi q) e w'') := hide_ (fun w' q lo hi h1 h2 h3 h4 h => number_any w' g a c b q lo hi h hne h1 h2 h3 h4)
  have HFrm : Hid (∀ (w' : World) (q : Nat), Hid (RdM w' g a c b q) → Calls Try.prog 50 #[.pointer (some ⟨g, 0, none⟩)] w' fun e w'' => FrmTo w' g a c b (frP b q) e w'') := hide_ (fun w' q h => frame_any w' g a c b q h hne)
  clear h hb hx HMk HAl
  go_wp2_with fail
  refine (HNum.out w1 1 1 1048576 (by decide) (by decide) (by decide) (by decide) HR1).mono ?_
  rintro e w2 (⟨m, q2, hx, rfl, HR2, HV2⟩ | ⟨er, at_, hx, rfl, HV2⟩)
  case inr =>
    have h := HZ.out
    rw [hx, bnd_err] at h
    have HE := hide_ h
    clear h hx
    unfold Flt
    go_wp2
    exact ⟨rfl, .inr ⟨er, at_, HE.out.symm, rfl, hide_ (HV1.out.to HV2.out)⟩⟩
  have h := HZ.out
  rw [hx, bnd_ok] at h
  dsimp only at h
  have hm := numB HR1.out.bys HR1.out.at_ hx
  obtain ⟨hm1, hm2, -⟩ := hm
  clear HZ
  have HZ := hide_ h
  have HU2 := hide_ (HV1.out.to HV2.out)
  obtain ⟨gs, hgs⟩ : ∃ gs, gs = w2.heap.size := ⟨_, rfl⟩
  obtain ⟨w3, hw3⟩ : ∃ wx, wx = w2.alloc (.cells #[.slice none 0 0, .int .i64 m, .int .i64 0] 71) := ⟨_, rfl⟩
  have hB3 : Below w2.heap.size w2 w3 := by rw [hw3]; exact below1 _ _
  have HS3 : Hid (Blk w3 gs 71 [.slice none 0 0, .int .i64 m, .int .i64 0]) := hide_ (by rw [hw3, hgs]; exact Blk.newA w2 _ _)
  have HR3 := hide_ (HR2.out.later hB3)
  have HU3 := hide_ (HU2.out.then hB3)
  have hgsw : w.heap.size ≤ gs := by rw [hgs]; exact HU2.out.size
  clear h hx HR1 HR2 HV1 HV2 HU2 hB3
  go_upto_region 3 with fail
  rw [← hw3]
  clear hw3
  rw [← hgs]
  clear hgs
  have s1 := HS3.out.cell 1
  simp at s1
  go_wp2_with fail
  refine (HNum.out w3 q2 0 m (by decide) (by decide) (by omega) (by omega) HR3).mono ?_
  rintro e w4 (⟨k, q4, hx, rfl, HR4, HV4⟩ | ⟨er, at_, hx, rfl, HV4⟩)
  case inr =>
    have h := HZ.out
    rw [hx, bnd_err] at h
    have HE := hide_ h
    clear h hx
    unfold Flt
    go_wp2
    exact ⟨rfl, .inr ⟨er, at_, HE.out.symm, rfl, hide_ (HU3.out.to HV4.out)⟩⟩
  have h := HZ.out
  rw [hx, bnd_ok] at h
  dsimp only at h
  have hk := numB HR3.out.bys HR3.out.at_ hx
  obtain ⟨hk1, hk2, -⟩ := hk
  obtain ⟨K, rfl⟩ := Int.eq_ofNat_of_zero_le hk1
  rw [Int.toNat_natCast] at h
  clear HZ
  have HZ := hide_ h
  have HU4 := hide_ (HU3.out.to HV4.out)
  have HS4 := hide_ (HS3.out.upd HV4.out (show ¬ gs = g by omega))
  clear h hx HR3 HS3 HU3 HV4 s1
  have s1 := HS4.out.cell 1
  simp at s1
  go_wp2_with fail
  refine (HNum.out w4 q4 (K : Int) m (by omega) (by omega) (by omega) (by omega) HR4).mono ?_
  rintro e w5 (⟨h', q5, hx, rfl, HR5, HV5⟩ | ⟨er, at_, hx, rfl, HV5⟩)
  case inr =>
    have h := HZ.out
    rw [hx, bnd_err] at h
    have HE := hide_ h
    clear h hx
    unfold Flt
    go_wp2
    exact ⟨rfl, .inr ⟨er, at_, HE.out.symm, rfl, hide_ (HU4.out.to HV5.out)⟩⟩
  have h := HZ.out
  rw [hx, bnd_ok] at h
  dsimp only at h
  have hh := numB HR4.out.bys HR4.out.at_ hx
  obtain ⟨hh1, hh2, -⟩ := hh
  clear HZ
  have HZ := hide_ h
  have HU5 := hide_ (HU4.out.to HV5.out)
  have HS5 := hide_ (HS4.out.upd HV5.out (show ¬ gs = g by omega))
  clear h hx HR4 HS4 HU4 HV5 s1
  have s2 := HS5.out.cell 2; have z2 := HS5.out.frozen 2
  simp at s2
  have hset := (Upd.refl (fun k => k = gs) w5).set ⟨gs, 2, none⟩ (.int .i64 h') (.inl rfl)
  have HS6 := hide_ (HS5.out.set 2 (.int .i64 h'))
  have HR6 := hide_ (HR5.out.upd hset (show ¬ g = gs by omega) (fun _ y hy e => by have := HA.out y hy; omega))
  have HU6 := hide_ (HU5.out.trans hset (fun k hk e => by omega))
  clear hset HS5 HR5 HU5
  go_wp2_with fail
  go_loopw [28] (fun x28 wr => ∃ (i : Nat) (q : Nat) (P : List (Fr × Value)) (v : Value), i ≤ K ∧ x28 = .int .i64 (i : Int) ∧ Hid (P.length = i) ∧ Hid (bnd (frsP b (K - i) q) (fun t => if t.2 < b.length then .error (124, (t.2 : Int)) else Except.ok (P.map (·.1) ++ t.1, m, h')) = R) ∧ Hid (RdM wr g a c b q) ∧ Hid (Blk wr gs 71 [v, .int .i64 m, .int .i64 h']) ∧ Hid (FOwn wr w.heap.size v P) ∧ Hid (∀ p ∈ P, frB p.1 = true) ∧ Hid (Upd (fun k => k = g) w wr)) (fun x28 _ => K - (intOf x28).toNat)
  case atStart => exact ⟨0, q5, [], .slice none 0 0, Nat.zero_le _, rfl, hide_ rfl, HZ, HR6, HS6, hide_ (FOwn.nil _ _), hide_ (fun p hp => (by cases hp)), HU6⟩
  case round =>
    clear HZ HR6 HS6 HU6 HNum
    obtain ⟨i, q, P, v, hi, rfl, HPl, HZ, HRq, HS, HO, HRt, HU⟩ := hrel
    generalize wr = wq at *
    obtain ⟨av, cv, rfl, -⟩ := HO.out.slice
    by_cases hlt : i < K
    · have hlt' : (i : Int) < K := by omega
      obtain ⟨n, hn⟩ : ∃ n, K - i = n + 1 := ⟨K - i - 1, by omega⟩
      have hn' : K - (i + 1) = n := by omega
      have HN := hide_ hn'
      rw [hn] at HZ
      have HP := hide_ (HFrm.out wq.drew q (hide_ (HRq.out.later ((Below.refl wq.heap.size wq).drew))))
      have HS1 : Hid ((fun w' => w'.cell? ⟨gs, 0, none⟩ = some (.slice av P.length cv)) wq.drew) := hide_ (by have := HS.out.drew.cell 0; exact this)
      have l0 := HS.out.cell 0
      simp at l0
      have hbs : w.heap.size ≤ wq.heap.size := HU.out.size
      have HVn : Hid (∀ k, (Value.slice av P.length cv).ownBlock = some k → ¬ k = g ∧ ¬ k = gs) := hide_ (fun k hk => ⟨fun e => by subst e; exact HO.out.rowNe HRq.out.box (by decide) hk, fun e => by subst e; exact HO.out.rowNe HS.out (by decide) hk⟩)
      have HTn : Hid (∀ p ∈ P, ∀ k, p.2.ownBlock = some k → ¬ k = g) := hide_ (fun p hp k hk e => by subst e; exact HO.out.tbNe HRq.out.box (by decide) p hp hk)
      have HTl : Hid (∀ p ∈ P, ∀ k, p.2.ownBlock = some k → k < wq.heap.size) := hide_ (fun p hp k hk => ((HO.out.tb p hp).lies hk).2)
      clear hn hn'
      go_wp2_with fail
      refine wp_region_last 11 (fun w' => w'.cell? ⟨gs, 0, none⟩ = some (.slice av P.length cv)) (by kernel_rfl) (HS1.out) (fun hHeld => ?_)
      refine wpAnyF_take [11] (by kernel_rfl) (i := 0) (v := ?vf1) rfl (by kernel_rfl) (by kernel_rfl) (by kernel_rfl) (fun _ _ _ h => h) (Or.inl ⟨by kernel_rfl, ?hyf1⟩) hHeld ?restf1
      case hyf1 => intro w' hSw; (try dsimp only at hSw); go_simp; try with_reducible rfl
      simp only [Act.put]
      try dsimp only
      refine wpAnyF_take [11] (by kernel_rfl) (i := 1) (v := ?vf2) rfl (by kernel_rfl) (by kernel_rfl) (by kernel_rfl) (fun _ _ _ h => h) (Or.inl ⟨by kernel_rfl, ?hyf2⟩) hHeld ?restf2
      case hyf2 => intro w' hSw; (try dsimp only at hSw); go_simp; try with_reducible rfl
      simp only [Act.put]
      try dsimp only
      refine wpAnyF_take [11] (by kernel_rfl) (i := 2) (v := ?vf3) rfl (by kernel_rfl) (by kernel_rfl) (by kernel_rfl) (fun _ _ _ h => h) (Or.inl ⟨by kernel_rfl, ?hyf3⟩) hHeld ?restf3
      case hyf3 => intro w' hSw; (try dsimp only at hSw); go_simp; try with_reducible rfl
      simp only [Act.put]
      try dsimp only
      refine wpAnyF_take [11] (by kernel_rfl) (i := 3) (v := ?vf4) rfl (by kernel_rfl) (by kernel_rfl) (by kernel_rfl) (fun _ _ _ h => h) (Or.inl ⟨by kernel_rfl, ?hyf4⟩) hHeld ?restf4
      case hyf4 => intro w' hSw; (try dsimp only at hSw); go_simp; try with_reducible rfl
      simp only [Act.put]
      try dsimp only
      refine wpAnyF_take [11] (by kernel_rfl) (i := 4) (v := ?vf5) rfl (by kernel_rfl) (by kernel_rfl) (by kernel_rfl) (fun _ _ _ h => h) (Or.inl ⟨by kernel_rfl, ?hyf5⟩) hHeld ?restf5
      case hyf5 => intro w' hSw; (try dsimp only at hSw); go_simp; try with_reducible rfl
      simp only [Act.put]
      try dsimp only
      refine wpAnyF_take [11] (by kernel_rfl) (i := 5) (v := ?vf6) rfl (by kernel_rfl) (by kernel_rfl) (by kernel_rfl) (fun _ _ _ h => h) (Or.inl ⟨by kernel_rfl, ?hyf6⟩) hHeld ?restf6
      case hyf6 => intro w' hSw; (try dsimp only at hSw); go_simp; try with_reducible rfl
      simp only [Act.put]
      try dsimp only
      refine wpAnyF_ready (rs := [6]) (by kernel_rfl) (by simp) ?_
      refine AllReadyF.cons rfl (fun K hK => ?_) AllReadyF.nil
      go_simp
      refine HP.out.mono ?_
      rintro e w4 hto
      rcases hto with ⟨f, q', a4, c4, hx, rfl, HR4, HI4, HU4⟩ | ⟨er, at_, hx, rfl, HU4⟩
      rotate_left
      · unfold Flt
        dsimp only
        have h := HZ.out
        rw [frs_err _ hx] at h
        have HE := hide_ h
        have HUe := hide_ (HU.out.to (((Upd.refl (fun k => k = g) wq).drew).to HU4.out))
        clear h hx
        exact ⟨rfl, .inr ⟨er, at_, HE.out.symm, rfl, HUe⟩⟩
      have h := HZ.out
      rw [frs_next _ hx] at h
      dsimp only at h
      rw [← HN.out] at h
      have HZ4 := hide_ h
      have HFr : Hid (frB f = true) := hide_ (frBk HBy.out HRq.out.at_ hx).1
      have hu4 : Upd (fun k => k = g) wq w4 := ((Upd.refl (fun k => k = g) wq).drew).to HU4.out
      have HS4 := hide_ (HS.out.upd hu4 (show ¬ gs = g by omega))
      have HO4 := hide_ (HO.out.upd hu4 (fun k hk => (HVn.out k hk).1) HTn.out)
      have HUa := hide_ (HU.out.to hu4)
      have hs4 : w.heap.size ≤ w4.heap.size := HUa.out.size
      obtain ⟨gF, capF, w5', hr, ho, hu, hgT⟩ := HO4.out.push f (own_base HI4.out (show w.heap.size ≤ wq.drew.heap.size from hbs)) (fun p hp k hk h2 => by
        have h3 := HTl.out p hp k hk
        have h4 : wq.heap.size ≤ k := (HI4.out.lies h2).1
        omega) (by have := HPl.out; omega) hs4
      have HAp := hide_ hr
      have HO5 := hide_ ho
      have HS5 := hide_ (HS4.out.upd hu (fun e => (HVn.out _ e).2 rfl))
      have hvl : ∀ k, (Value.slice av P.length cv).ownBlock = some k → w.heap.size ≤ k := fun k hk => (HO4.out.row.lt k hk).1
      have HR5 := hide_ (HR4.out.upd hu (fun e => (HVn.out _ e).1 rfl) (fun _ y hy e => by
        have h1 := hvl _ e
        have h2 := HA.out y hy
        omega))
      have HUb := hide_ (HUa.out.trans hu (fun k hk e => by have := hvl k e; omega))
      have HS3 : Hid ((fun w' => w'.cell? ⟨gs, 0, none⟩ = some (.slice av P.length cv)) w4) := hide_ (HS4.out.cell 0)
      have HS4' : Hid ((fun w' => w'.cell? ⟨gs, 0, none⟩ = some (.slice av P.length cv)) (w4.alloc (.cells #[.int .i64 f.r, .int .i64 f.a, .int .i64 f.b, .int .i64 f.e, .int .i64 f.n, .int .i64 f.x, .slice a4 f.T.length c4] 39))) := hide_ ((HS4.out.alloc _).cell 0)
      have HS5' : Hid ((fun w' => w'.cell? ⟨gs, 0, none⟩ = some (.slice av P.length cv)) w5') := hide_ (HS5.out.cell 0)
      clear h hx hr ho hu hgT hu4 hs4 hvl
      dsimp only
      refine hK.out _ _ (HS3.out) (fun hHeld => ?_)
      clear hK K
      refine wpAnyF_ready (rs := [7]) (by kernel_rfl) (by simp) ?_
      refine AllReadyF.cons rfl (fun K hK => ?_) AllReadyF.nil
      go_simp
      refine hK.out _ _ (HS4'.out) (fun hHeld => ?_)
      clear hK K
      refine wpAnyF_ready (rs := [8]) (by kernel_rfl) (by simp) ?_
      refine AllReadyF.cons rfl (fun K hK => ?_) AllReadyF.nil
      refine step_append_run rfl (.tmp 34) (.tmp 37) 22 22 rfl (v := .slice av P.length cv) (u := .slice (some ⟨w4.heap.size, 0, none⟩) 1 1) (by kernel_rfl) (by kernel_rfl) HAp.out ?_
      simp only [Act.put]
      refine hK.out _ _ (HS5'.out) (fun hHeld => ?_)
      clear hK K
      refine wpAnyF_take [11, 10] (by kernel_rfl) (i := 9) (v := ?vf7) rfl (by kernel_rfl) (by kernel_rfl) (by kernel_rfl) (fun _ _ _ h => h) (Or.inl ⟨by kernel_rfl, ?hyf7⟩) hHeld ?restf7
      case hyf7 => intro w' hSw; (try dsimp only at hSw); go_simp; try with_reducible rfl
      simp only [Act.put]
      try dsimp only
      refine wpAnyF_take [11] (by kernel_rfl) (i := 10) (v := ?vf8) rfl (by kernel_rfl) (by kernel_rfl) (by kernel_rfl) (fun _ _ _ h => h) (Or.inl ⟨by kernel_rfl, ?hyf8⟩) hHeld ?restf8
      case hyf8 => intro w' hSw; (try dsimp only at hSw); go_simp; try with_reducible rfl
      simp only [Act.put]
      try dsimp only
      refine wpAnyF_ready (rs := [11]) (by kernel_rfl) (by simp) ?_
      refine AllReadyF.last rfl (fun K hK => ?_)
      have l0' := HS5.out.cell 0; have z0' := HS5.out.frozen 0
      simp at l0'
      go_simp
      refine hK.out _ _ ?_
      clear hK K
      refine wpAnyF_done (by kernel_rfl) ?_ _
      go_wp2_with fail
      have hset := (Upd.refl (fun k => k = gs) w5').set ⟨gs, 0, none⟩ (.slice (some ⟨gF, 0, none⟩) (P.length + 1) capF) (.inl rfl)
      have hr6 := HR5.out.upd hset (show ¬ g = gs by omega) (fun _ y hy e => by have := HA.out y hy; omega)
      have ho6 := HO5.out.upd hset (fun k hk e => by subst e; exact HO5.out.rowNe HS5.out (by decide) hk) (fun p hp k hk e => by subst e; exact HO5.out.tbNe HS5.out (by decide) p hp hk)
      have hs6 := HS5.out.set 0 (.slice (some ⟨gF, 0, none⟩) (P.length + 1) capF)
      have hu6 := HUb.out.trans hset (fun k hk e => by omega)
      have HR6 := hide_ hr6
      have HO6 := hide_ ho6
      have HS6 := hide_ hs6
      have HU6 := hide_ hu6
      clear hset hr6 ho6 hs6 hu6
      go_roundw
      case rel => exact ⟨i + 1, q', P ++ [(f, .slice a4 f.T.length c4)], .slice (some ⟨gF, 0, none⟩) (P.length + 1) capF, by omega, by go_num, hide_ (by have := HPl.out; simp; exact this), hide_ (by simp only [List.map_append, List.map_cons, List.map_nil, List.append_assoc, List.singleton_append]; exact HZ4.out), HR6, HS6, HO6, hide_ (fun p hp => by
        rcases List.mem_append.1 hp with hp | hp
        · exact HRt.out p hp
        · simp only [List.mem_singleton] at hp
          subst hp
          exact HFr.out), HU6⟩
      case measure => simp [intOf]; omega
    · obtain rfl : i = K := by omega
      rw [Nat.sub_self] at HZ
      have hz : (if q < b.length then Except.error (124, (q : Int)) else Except.ok (P.map (·.1), m, h')) = R := by
        have h := HZ.out
        rw [frsP, bnd_ok] at h
        dsimp only at h
        rw [List.append_nil] at h
        exact h
      have r0 := HRq.out.box.cell 0; have r1 := HRq.out.box.cell 1
      simp at r0 r1
      have hUd : Hid (Upd (fun k => k = g) w wq.drew) := hide_ HU.out.drew
      by_cases hend : q < b.length
      · rw [if_pos hend] at hz
        have HE := hide_ hz
        have hend' : decide ((q : Int) < b.length) = true := decide_eq_true (by omega)
        have HG := hide_ (giveUp_any 124 (q : Int) wq.drew)
        clear hz
        go_wp2_with fail
        go_region
        go_wp2_with fail
        refine HG.out.mono ?_
        rintro e w' ⟨rfl, rfl⟩
        unfold Flt
        go_wp2
        exact ⟨rfl, .inr ⟨_, _, HE.out.symm, rfl, hUd⟩⟩
      · rw [if_neg hend] at hz
        have HE := hide_ hz
        have hend' : decide ((q : Int) < b.length) = false := decide_eq_false (by omega)
        clear hz
        go_wp2_with fail
        go_region
        go_wp2_with fail
        go_ret
        have hM : StM wq w.heap.size gs (.slice av P.length cv) P m h' := ⟨HS.out, HO.out, hgsw, ⟨hm1, hm2⟩, by have := HPl.out; omega, ⟨by have := HPl.out; omega, hh2⟩, HRt.out⟩
        exact .inl ⟨_, m, h', fun k => skB gs (.slice av P.length cv) P k, gs, HE.out.symm, rfl, hide_ ⟨_, P, hM.later ((Below.refl _ _).drew), rfl, fun k h => h, fun k h => hM.lies h⟩, hUd⟩
end Go.Proofs.Ytcmkdkocponpiaa

/- Frames: Load. -/
namespace Go.Proofs.Ytcmkdkocponpiaa
open Go.RowKit
set_option linter.unusedVariables false

theorem run_loadVar_ptr {P : Program} (w : World) (g : Nat) (ty e : TypeId) (v : Value) (hu : P.underlying ty = some (.pointer e)) (hc : w.cell? ⟨g, 0, none⟩ = some v) : (loadVar ty ⟨g, 0, none⟩).run P w = .ok v w := by
  have hagg : (isAgg ty).run P w = .ok false w := by
    unfold isAgg
    rw [Sem.run_bind, run_underlying hu w]
    rfl
  simp [loadVar, Sem.run_bind, hagg, hc]
theorem results_pc {P : Program} {fn : Func} {p q : Tmp} {t1 t2 e : TypeId} (h : fn.results = #[.cell p t1, .cell q t2]) (tmps : Array Value) (w : World) (g1 g2 : Nat) (v : Value) (c2 : Array Value) (f2 : Nat × Nat) (d2 : TypeDesc)
    (hp : tmps.getD p undef = .pointer (some ⟨g1, 0, none⟩)) (hq : tmps.getD q undef = .pointer (some ⟨g2, 0, none⟩)) (hg1 : w.cell? ⟨g1, 0, none⟩ = some v) (hg2 : w.heap[g2]? = some (.cells c2 t2 f2))
    (hu1 : P.underlying t1 = some (.pointer e))
    (hu2 : P.underlying t2 = some d2) (hd2 : (match d2 with | .struct _ | .array _ _ => true | _ => false) = true) (hi2 : (P.info? t2).map (·.size) = some c2.size) :
    (results fn tmps).run P w = .ok (.tuple #[v, .agg c2]) w := by
  have hp' : tmps[p]?.getD undef = .pointer (some ⟨g1, 0, none⟩) := by simpa using hp
  have hq' : tmps[q]?.getD undef = .pointer (some ⟨g2, 0, none⟩) := by simpa using hq
  simp only [results, h]
  simp [hp', hq', asAddr, Result.andThen, run_loadVar_ptr w g1 t1 e v hu1 hg1, run_loadVar_row w g2 t2 t2 c2 f2 d2 hg2 hu2 hd2 hi2]
set_option maxRecDepth 100000 in
set_option maxHeartbeats 4000000 in
theorem catch_idle (a b : Addr) (w : World) :
    CallsD Try.prog 31 #[.pointer (some a), .pointer (some b)] .returning w fun e u' w' => e = .returned (.tuple #[]) ∧ u' = .returning ∧ w' = w := by
  refine callsD_of_wpS Try.func31 rfl fun c₀ cs hu => ?_
  simp only [Try.ntmps31, List.size_toArray, List.length_cons, List.length_nil, Nat.reduceAdd, Nat.reduceSub, Array.replicate_succ, Array.replicate_zero, List.push_toArray, List.append_toArray, List.nil_append, List.cons_append]
  apply wpS_seq
  apply wpS_region
  simp [wpOpsS, go_sem, recoverD, hu, Exit.thenS]
  refine wpS_of_wp ?_
  have hnil : ∀ w : World, (binOp BinOp.neq 20 .nilIface .nilIface).run Try.prog w = .ok (.bool false) w := fun _ => by kernel_rfl
  go_wp2
  cases c₀
  simp_all [bodyPostS, results, Try.results31]
set_option maxRecDepth 100000 in
set_option maxHeartbeats 4000000 in
theorem catch_panic (bs bf : Nat) (c a : Int) (x y0 y1 : Value) (w : World) (hS : Blk w bs 25 [x]) (hF : Blk w bf 31 [y0, y1]) :
    CallsD Try.prog 31 #[.pointer (some ⟨bs, 0, none⟩), .pointer (some ⟨bf, 0, none⟩)] (.panicking [{ v := .iface 31 (.agg #[.int .i64 c, .int .i64 a]), recovered := false }]) w fun e u' w' => e = .returned (.tuple #[]) ∧ u' = .panicking [{ v := .iface 31 (.agg #[.int .i64 c, .int .i64 a]), recovered := true }] ∧ w' = (((w.setCell ⟨bs, 0, none⟩ (.pointer none)).setCell ⟨bf, 0, none⟩ (.int .i64 c)).setCell ⟨bf, 1, none⟩ (.int .i64 a)).drew := by
  refine callsD_of_wpS Try.func31 rfl fun c₀ cs hu => ?_
  simp only [Try.ntmps31, List.size_toArray, List.length_cons, List.length_nil, Nat.reduceAdd, Nat.reduceSub, Array.replicate_succ, Array.replicate_zero, List.push_toArray, List.append_toArray, List.nil_append, List.cons_append]
  apply wpS_seq
  apply wpS_region
  simp [wpOpsS, go_sem, recoverD, hu, Exit.thenS]
  refine wpS_of_wp ?_
  have hnil : ∀ w : World, (binOp BinOp.neq 20 (.iface 31 (.agg #[.int .i64 c, .int .i64 a])) .nilIface).run Try.prog w = .ok (.bool true) w := fun _ => by kernel_rfl
  have hta : ∀ w : World, (Instr.typeAssert (.iface 31 (.agg #[.int .i64 c, .int .i64 a])) 20 31 false).run Try.prog w = .ok (.agg #[.int .i64 c, .int .i64 a]) w := fun _ => by kernel_rfl
  have hne : ¬ bs = bf := fun e => by subst e; exact absurd (blk_type hS hF) (by decide)
  have hne' : ¬ bf = bs := fun e => hne e.symm
  have s0 := hS.cell 0
  have f0 := hF.cell 0; have f1 := hF.cell 1
  have z0 := hS.frozen 0; have z1 := hF.frozen 0; have z2 := hF.frozen 1
  simp at s0 f0 f1
  go_wp2
  go_region
  go_wp2
  simp [bodyPostS, results, Try.results31]
/-- What Load answers. -/
def LoadTo (b : List Int) (w : World) (e : Ending) (w' : World) : Prop :=
  (∃ fs m h F gs, ldP b = .ok (fs, m, h) ∧ e = .returned (.tuple #[.pointer (some ⟨gs, 0, none⟩), .agg #[.int .i64 0, .int .i64 0]]) ∧ Hid (Stk w' w.heap.size F gs fs m h) ∧ Hid (Below w.heap.size w w')) ∨
  (∃ er at_, ldP b = .error (er, at_) ∧ e = .returned (.tuple #[.pointer none, .agg #[.int .i64 er, .int .i64 at_]]) ∧ Hid (Below w.heap.size w w'))
theorem retL {R : Ending → World → Prop} {tmps : Array Value} {b1 b2 : Nat} {w : World} {v x y : Value} (hp : tmps.getD 2 undef = .pointer (some ⟨b1, 0, none⟩)) (hq : tmps.getD 3 undef = .pointer (some ⟨b2, 0, none⟩)) (h1 : Blk w b1 25 [v]) (h2 : Blk w b2 31 [x, y]) (hR : R (.returned (.tuple #[v, .agg #[x, y]])) w) :
    Leaves Try.prog Try.f9 tmps R [] .returning w :=
  ⟨_, results_pc rfl _ _ _ _ v #[x, y] _ _ hp hq (h1.cell 0) h2 Try.underlying25 Try.underlying31 rfl (by show _ = some 2; kernel_rfl), hR⟩
set_option maxRecDepth 100000 in
set_option maxHeartbeats 8000000 in
theorem load_any (a : Option Addr) (c : Nat) (b : List Int) (w : World) (hrow : Hid (Row .u8 w a b)) (hnil : a = none → c = 0) (hby : Hid (Bys b)) (hcap : b.length ≤ c) (hmax : c ≤ 9223372036854775807) :
    Calls Try.prog 9 #[.slice a b.length c] w fun e w' => LoadTo b w e w' := by
  have hmf : ∀ (fn : Fn) (first cap : Array Value) (w : World), (Instr.makeFunc fn first cap).run Try.prog w = .ok (.func fn first cap) w := fun _ _ _ _ => rfl
  obtain ⟨R, hRd⟩ : ∃ R, ldP b = R := ⟨_, rfl⟩
  have HRd := hide_ hRd
  obtain ⟨wa, hwa⟩ : ∃ wa, wa = (w.alloc (.cells #[.pointer none] 25)).alloc (.cells #[.int .i64 0, .int .i64 0] 31) := ⟨_, rfl⟩
  obtain ⟨k1, k2⟩ : Blk wa w.heap.size 25 [.pointer none] ∧ Blk wa (w.heap.size + 1) 31 [.int .i64 0, .int .i64 0] := by rw [hwa]; exact blk2 w _ _ _ _
  have hBa : Below w.heap.size w wa := by rw [hwa]; exact below2 _ _ _
  have hsz : wa.heap.size = w.heap.size + 2 := by rw [hwa]; simp
  obtain ⟨w1, hw1⟩ : ∃ w1, w1 = wa.alloc (.cells #[.slice a b.length c, .int .i64 0] 74) := ⟨_, rfl⟩
  have hB1 : Below wa.heap.size wa w1 := by rw [hw1]; exact below1 _ _
  have hk3 : Blk w1 (w.heap.size + 2) 74 [.slice a b.length c, .int .i64 0] := by rw [hw1, ← hsz]; exact Blk.newA wa _ _
  have hrd : RdM w1 (w.heap.size + 2) a c b 0 := ⟨hk3, (hrow.out.later hBa).later hB1, hnil, Nat.zero_le _, hby.out, hcap, hmax, fun h0 x hx e => by
    obtain ⟨gb, off, e2, hgb, -⟩ := hrow.out.open h0
    rw [e2] at hx
    injection hx with hx
    subst hx
    simp at e
    omega⟩
  have HSt := hide_ (rstack_any w1 (w.heap.size + 2) a c b (hide_ hrd))
  have HK1 := hide_ (k1.later hB1)
  have HK2 := hide_ (k2.later hB1)
  have HB1 := hide_ (below_to hBa hB1)
  have hs1 : w.heap.size + 2 < w1.heap.size := hk3.lt
  rw [hRd] at HSt
  clear k1 k2 hBa hB1 hk3 hrd hRd hrow hsz
  go_enter_defers Try.func9, Try.ntmps9
  go_upto_region 3 with fail
  rw [hwa] at hw1
  rw [← hw1]
  clear hw1 hwa
  go_wp2_with fail
  have n1 : ¬ w.heap.size = w.heap.size + 1 := by omega
  have n2 : ¬ w.heap.size + 1 = w.heap.size := by omega
  have hle : w.heap.size ≤ w.heap.size + 1 := by omega
  refine HSt.out.mono ?_
  rintro e w2 (⟨fs, m, h, F, gs, hx, rfl, HS, HU⟩ | ⟨er, at_, hx, rfl, HU⟩)
  · have HX := hide_ hx
    have K1 := hide_ (HK1.out.upd HU.out (show ¬ w.heap.size = w.heap.size + 2 by omega))
    have K2 := hide_ (HK2.out.upd HU.out (show ¬ w.heap.size + 1 = w.heap.size + 2 by omega))
    have HB2 := hide_ (HB1.out.trans (HU.out.below w.heap.size HB1.out.size (fun k hk => by omega)))
    have c0 := K1.out.cell 0; have x0 := K1.out.frozen 0
    have d0 := K2.out.cell 0; have d1 := K2.out.cell 1
    have y0 := K2.out.frozen 0; have y1 := K2.out.frozen 1
    simp at c0 d0 d1
    clear hx
    go_wp2
    refine leaves_cons (f := 31) (args := #[.pointer (some ⟨w.heap.size, 0, none⟩), .pointer (some ⟨w.heap.size + 1, 0, none⟩)]) (by simp) (by simp [go_sem]) ?_
    refine (catch_idle _ _ _).mono ?_
    rintro e u' w6 ⟨rfl, rfl, rfl⟩
    have q1 := ((K1.out.set 0 (.pointer (some ⟨gs, 0, none⟩))).other ⟨w.heap.size + 1, 0, none⟩ (.int .i64 0) n1).other ⟨w.heap.size + 1, 1, none⟩ (.int .i64 0) n1
    have q2 := ((K2.out.other ⟨w.heap.size, 0, none⟩ (.pointer (some ⟨gs, 0, none⟩)) n2).set 0 (.int .i64 0)).set 1 (.int .i64 0)
    have hb := below_set (below_set (below_set HB2.out w.heap.size 0 (.pointer (some ⟨gs, 0, none⟩)) (Nat.le_refl _)) (w.heap.size + 1) 0 (.int .i64 0) hle) (w.heap.size + 1) 1 (.int .i64 0) hle
    have hu1 : Upd (fun k => k = w.heap.size ∨ k = w.heap.size + 1) w2 (((w2.setCell ⟨w.heap.size, 0, none⟩ (.pointer (some ⟨gs, 0, none⟩))).setCell ⟨w.heap.size + 1, 0, none⟩ (.int .i64 0)).setCell ⟨w.heap.size + 1, 1, none⟩ (.int .i64 0)) := by
      have h1 := (Upd.refl (fun k => k = w.heap.size ∨ k = w.heap.size + 1) w2).set ⟨w.heap.size, 0, none⟩ (.pointer (some ⟨gs, 0, none⟩)) (.inl (.inl rfl))
      have h2 := h1.set ⟨w.heap.size + 1, 0, none⟩ (.int .i64 0) (.inl (.inr rfl))
      exact h2.set ⟨w.heap.size + 1, 1, none⟩ (.int .i64 0) (.inl (.inr rfl))
    have hs := HS.out.upd hu1 (fun k hk e => by have := (HS.out.lt hk).1; omega)
    have hs' : Stk (((w2.setCell ⟨w.heap.size, 0, none⟩ (.pointer (some ⟨gs, 0, none⟩))).setCell ⟨w.heap.size + 1, 0, none⟩ (.int .i64 0)).setCell ⟨w.heap.size + 1, 1, none⟩ (.int .i64 0)) w.heap.size F gs fs m h := hs.base (by omega)
    show Leaves _ _ _ _ [] .returning _
    exact retL rfl rfl q1 q2 (.inl ⟨fs, m, h, F, gs, by rw [HRd.out]; exact HX.out, rfl, hide_ hs', hide_ hb⟩)
  · have HX := hide_ hx
    have K1 := hide_ (HK1.out.upd HU.out (show ¬ w.heap.size = w.heap.size + 2 by omega))
    have K2 := hide_ (HK2.out.upd HU.out (show ¬ w.heap.size + 1 = w.heap.size + 2 by omega))
    have HB2 := hide_ (HB1.out.trans (HU.out.below w.heap.size HB1.out.size (fun k hk => by omega)))
    clear hx
    unfold Flt
    go_wp2
    refine leaves_cons (f := 31) (args := #[.pointer (some ⟨w.heap.size, 0, none⟩), .pointer (some ⟨w.heap.size + 1, 0, none⟩)]) (by simp) (by simp [go_sem]) ?_
    refine (catch_panic _ _ _ _ _ _ _ _ K1.out K2.out).mono ?_
    rintro e u' w6 ⟨rfl, rfl, rfl⟩
    have q1 := (((K1.out.set 0 (.pointer none)).other ⟨w.heap.size + 1, 0, none⟩ (.int .i64 er) n1).other ⟨w.heap.size + 1, 1, none⟩ (.int .i64 at_) n1).drew
    have q2 := (((K2.out.other ⟨w.heap.size, 0, none⟩ (.pointer none) n2).set 0 (.int .i64 er)).set 1 (.int .i64 at_)).drew
    have hb := (below_set (below_set (below_set HB2.out w.heap.size 0 (.pointer none) (Nat.le_refl _)) (w.heap.size + 1) 0 (.int .i64 er) hle) (w.heap.size + 1) 1 (.int .i64 at_) hle).drew
    show Leaves _ _ _ _ [] .returning _
    exact retL rfl rfl q1 q2 (.inr ⟨er, at_, by rw [HRd.out]; exact HX.out, rfl, hide_ hb⟩)
end Go.Proofs.Ytcmkdkocponpiaa

/- mortiseref22: Load, plain, and what lies in memory. -/
namespace Go.Proofs.Ytcmkdkocponpiaa
open Go.RowKit
set_option linter.unusedVariables false

theorem nm_bnd {β : Type} (l : List Int) (lo hi : Int) (x : Except (Int × Int) Nat) (G : Int × Nat → Except (Int × Int) β) : bnd x (fun p => bnd (numP l lo hi p) G) = bnd (nmR l lo hi x).2 (fun q => G ((nmR l lo hi x).1, q)) := by
  cases x with
  | error e => rfl
  | ok p =>
    rw [bnd_ok]
    cases h : numP l lo hi p with
    | error e => rw [nmR_err h, bnd_err]; rfl
    | ok z =>
      obtain ⟨n, q⟩ := z
      rw [nmR_ok h, bnd_ok]
      rfl
theorem bnd_as {α β γ : Type} (x : Except (Int × Int) α) (f : α → Except (Int × Int) β) (g : β → Except (Int × Int) γ) : bnd (bnd x f) g = bnd x (fun a => bnd (f a) g) := by
  cases x with
  | error e => rfl
  | ok a => rfl
theorem bnd_cg {α β : Type} {x : Except (Int × Int) α} {f g : α → Except (Int × Int) β} (h : ∀ a, x = .ok a → f a = g a) : bnd x f = bnd x g := by
  cases x with
  | error e => rfl
  | ok a => exact h a rfl
/-- Bounds of what number answers. -/
theorem nm_in (l : List Int) (hb : Bys l) (lo hi : Int) (x : Except (Int × Int) Nat) (hx : ∀ p, x = .ok p → p ≤ l.length) (hh : 0 ≤ hi) : 0 ≤ (nmR l lo hi x).1 ∧ (nmR l lo hi x).1 ≤ hi ∧ (∀ q, (nmR l lo hi x).2 = .ok q → q ≤ l.length ∧ lo ≤ (nmR l lo hi x).1) := by
  cases x with
  | error e => exact ⟨by simp [nmR], by simpa [nmR] using hh, fun q h => by simp [nmR] at h⟩
  | ok p =>
    cases h : numP l lo hi p with
    | error e => rw [nmR_err h]; exact ⟨Int.le_refl _, hh, fun q h => by cases h⟩
    | ok z =>
      obtain ⟨n, q⟩ := z
      obtain ⟨h1, h2, h3, h4, h5, -⟩ := numB hb (hx p rfl) h
      rw [nmR_ok h]
      exact ⟨h3, h2, fun q' hq => by injection hq with hq; subst hq; exact ⟨h5, h1⟩⟩
/-- Is the reader without fault? -/
def okE : Except (Int × Int) Nat → Bool
  | .ok _ => true
  | .error _ => false
theorem RdR.err {w : World} {gr : Nat} {v : Value} {x : Except (Int × Int) Nat} (h : RdR w gr v x) : ∃ e : Int, w.cell? ⟨gr, 2, none⟩ = some (.int .i64 e) ∧ (e == 0) = okE x ∧ (e != 0) = !okE x := by
  cases x with
  | ok p => obtain ⟨b, k⟩ := h; exact ⟨0, k.cell 2, rfl, rfl⟩
  | error e => obtain ⟨he, a, k⟩ := h; exact ⟨e.1, k.cell 2, by simpa [okE] using he, by simpa [okE] using he⟩
/-- The table's next position, whatever the reader's state. -/
theorem tab_st {β : Type} (l : List Int) (n : Nat) (x : Except (Int × Int) Nat) (F : List Int × Nat → Except (Int × Int) β) : bnd x (fun p => bnd (tabP l (n + 1) p) F) = bnd (nmR l 0 4611686018427387904 x).2 (fun q => bnd (tabP l n q) fun t => F ((nmR l 0 4611686018427387904 x).1 :: t.1, t.2)) := by
  have h := nm_bnd l 0 4611686018427387904 x (fun z => bnd (tabP l n z.2) fun t => F (z.1 :: t.1, t.2))
  rw [← h]
  refine bnd_cg (fun p hp => ?_)
  show bnd (bnd (posP l p) _) F = _
  rw [bnd_as]
  refine bnd_cg (fun z hz => ?_)
  rw [bnd_as]
  rfl
theorem pos_st {β : Type} (l : List Int) (x : Except (Int × Int) Nat) (G : Int × Nat → Except (Int × Int) β) : bnd x (fun p => bnd (posP l p) G) = bnd (nmR l 0 4611686018427387904 x).2 (fun q => G ((nmR l 0 4611686018427387904 x).1, q)) := nm_bnd l 0 4611686018427387904 x G
theorem pon_st {β : Type} (l : List Int) (x : Except (Int × Int) Nat) (G : Int × Nat → Except (Int × Int) β) : bnd x (fun p => bnd (ponP l p) G) = bnd (nmR l 0 4611686018427387905 x).2 (fun q => G ((nmR l 0 4611686018427387905 x).1 - 1, q)) := by
  have h := nm_bnd l 0 4611686018427387905 x (fun z => G (z.1 - 1, z.2))
  rw [← h]
  refine bnd_cg (fun p hp => ?_)
  show bnd (bnd _ _) G = _
  rw [bnd_as]
  rfl
theorem frs_st {β : Type} (l : List Int) (n : Nat) (p : Nat) (f : Fr) (y : Except (Int × Int) Nat) (F : List Fr × Nat → Except (Int × Int) β) (hf : frP l p = bnd y fun q => .ok (f, q)) : bnd (frsP l (n + 1) p) F = bnd y (fun q => bnd (frsP l n q) fun t => F (f :: t.1, t.2)) := by
  show bnd (bnd (frP l p) _) F = _
  rw [bnd_as, hf, bnd_as]
  refine bnd_cg (fun q hq => ?_)
  rw [bnd_ok, bnd_as]
  rfl
/-! ### A frame under way -/
/-- Its box holds u0; T lies at u. -/
structure LdB (wq : World) (gr : Nat) (v : Value) (b : List Int) (y : Except (Int × Int) Nat) (f : Fr) (u0 : Value) (T : List Int) (u : Value) (wr : World) : Prop where
  rd : RdR wr gr v y
  fr : Blk wr wq.heap.size 39 (frc (f, u0))
  tb : IOwn wr wq.heap.size u T
  up : Upd (fun k => k = gr) wq wr
  at_ : ∀ p, y = .ok p → p ≤ b.length
  lt : gr < wq.heap.size
section
variable {wq wr w' : World} {gr : Nat} {v : Value} {b : List Int} {y : Except (Int × Int) Nat} {f : Fr} {T : List Int} {u0 u : Value}
theorem LdB.num (h : LdB wq gr v b y f u0 T u wr) {z : Except (Int × Int) Nat} (hz : RdR w' gr v z) (hu : Upd (fun k => k = gr) wr w') (ha : ∀ p, z = .ok p → p ≤ b.length) : LdB wq gr v b z f u0 T u w' :=
  ⟨hz, h.fr.upd hu (show ¬ wq.heap.size = gr by have := h.lt; omega), h.tb.upd hu (fun k hk e => by have := (h.tb.lies hk).1; have := h.lt; omega), h.up.to hu, ha, h.lt⟩
theorem LdB.later (h : LdB wq gr v b y f u0 T u wr) (hB : Below wr.heap.size wr w') : LdB wq gr v b y f u0 T u w' :=
  ⟨h.rd.later hB, h.fr.later hB, h.tb.later hB, h.up.then hB, h.at_, h.lt⟩
theorem LdB.put (h : LdB wq gr v b y f u0 T u wr) (i : Nat) (x : Value) (f' : Fr) (u' : Value) (hf : (frc (f, u0)).set i x = frc (f', u')) : LdB wq gr v b y f' u' T u (wr.setCell ⟨wq.heap.size, i, none⟩ x) := by
  have hset := (Upd.refl (fun k => k = wq.heap.size) wr).set ⟨wq.heap.size, i, none⟩ x (.inl rfl)
  refine ⟨h.rd.upd hset (show ¬ gr = wq.heap.size by have := h.lt; omega), ?_, h.tb.upd hset (fun k hk e => by subst e; exact absurd hk (h.tb.notF h.fr (by decide))), h.up.trans hset (fun k hk e => by omega), h.at_, h.lt⟩
  have := h.fr.set i x
  rw [hf] at this
  exact this
theorem LdB.app (h : LdB wq gr v b y f u0 T u wr) {u' : Value} {T' : List Int} (hu : Upd (fun k => u.ownBlock = some k) wr w') (ho : IOwn w' wq.heap.size u' T') : LdB wq gr v b y f u0 T' u' w' := by
  have hl : ∀ k, u.ownBlock = some k → wq.heap.size ≤ k := fun k hk => (h.tb.lies hk).1
  exact ⟨h.rd.upd hu (fun e => by have := hl _ e; have := h.lt; omega), h.fr.upd hu (fun e => h.tb.notF h.fr (by decide) e), ho, h.up.trans hu (fun k hk e => by have := hl k e; omega), h.at_, h.lt⟩
end
end Go.Proofs.Ytcmkdkocponpiaa

/- mortiseref22: Load. -/
namespace Go.Proofs.Ytcmkdkocponpiaa
open Go.RowKit
set_option linter.unusedVariables false

/-- What Load answers. -/
def RLdTo (R : Except (Int × Int) (List Fr × Int × Int)) (w : World) (e : Ending) (w' : World) : Prop :=
  (∃ fs m h F gs, R = .ok (fs, m, h) ∧ e = .returned (.tuple #[.pointer (some ⟨gs, 0, none⟩), .int .i64 0, .int .i64 0]) ∧ Hid (RSk w' w.heap.size F gs fs m h) ∧ Hid (Below w.heap.size w w')) ∨
  (∃ er at_, R = .error (er, at_) ∧ e = .returned (.tuple #[.pointer none, .int .i64 er, .int .i64 at_]) ∧ Hid (Below w.heap.size w w'))
set_option maxRecDepth 100000 in
set_option maxHeartbeats 16000000 in
theorem rload_any (a : Option Addr) (c : Nat) (b : List Int) (w : World) (hrow : Hid (Row .u8 w a b)) (hnil : a = none → c = 0) (hby : Hid (Bys b)) (hcap : b.length ≤ c) (hmax : b.length ≤ 9223372036854775000) :
    Calls Try.prog 68 #[.slice a b.length c] w fun e w' => RLdTo (ldP b) w e w' := by
  obtain ⟨R, hRd⟩ : ∃ R, ldP b = R := ⟨_, rfl⟩
  rw [hRd]
  unfold ldP at hRd
  have HZ := hide_ hRd
  have HRow : Hid (∀ w', Below w.heap.size w w' → Row .u8 w' a b) := hide_ (fun w' hb => hrow.out.later hb)
  obtain ⟨w1, hw1⟩ : ∃ wx, wx = w.alloc (.cells #[.slice a b.length c, .int .i64 1, .int .i64 0, .int .i64 0] 111) := ⟨_, rfl⟩
  have hB1 : Below w.heap.size w w1 := by rw [hw1]; exact below1 _ _
  have HK1 : Hid (Blk w1 w.heap.size 111 [.slice a b.length c, .int .i64 1, .int .i64 0, .int .i64 0]) := hide_ (by rw [hw1]; exact Blk.newA w _ _)
  have HB1 := hide_ hB1
  clear hRd hB1
  by_cases hb0 : b = []
  · have h := HZ.out
    rw [if_pos hb0] at h
    have HE := hide_ h
    have hl : b.length = 0 := by rw [hb0]; rfl
    have hl' : ((b.length : Int) == 0) = true := by rw [hl]; rfl
    clear h hb0 hl
    go_enter Try.func68, Try.ntmps68
    go_upto_region 2 with fail
    rw [← hw1]
    clear hw1
    go_wp2_with fail
    go_ret3
    exact .inr ⟨20, 0, HE.out.symm, rfl, HB1⟩
  have hlp : 0 < b.length := by cases b with | nil => exact absurd rfl hb0 | cons x l => simp
  have hl0 : ((b.length : Int) == 0) = false := by simp; omega
  obtain ⟨gb, off, rfl, hgb, hcb⟩ := (HRow.out w1 HB1.out).open hlp
  have hc0 := hcb 0 hlp
  rw [Nat.add_zero] at hc0
  obtain ⟨x0, hx0⟩ : ∃ x, b.getD 0 0 = x := ⟨_, rfl⟩
  rw [hx0] at hc0
  have HA : Hid (gb < w.heap.size) := hide_ (by
    obtain ⟨gb', off', e, hgb', -⟩ := hrow.out.open hlp
    injection e with e
    injection e with e1 _ _
    subst e1
    exact hgb')
  have h := HZ.out
  rw [if_neg hb0, hx0] at h
  clear HZ hcb hgb hb0
  by_cases h102 : x0 = 102
  case neg =>
    rw [if_pos h102] at h
    have HE := hide_ h
    have hxb : (x0 != 102) = true := by simpa using h102
    clear h h102
    go_enter Try.func68, Try.ntmps68
    go_upto_region 2 with fail
    rw [← hw1]
    clear hw1
    go_wp2_with fail
    go_ret3
    exact .inr ⟨221, 0, HE.out.symm, rfl, HB1⟩
  rw [if_neg (fun hn => hn h102)] at h
  have hxb : (x0 != 102) = false := by rw [h102]; rfl
  have h1 : bnd (.ok 1) (fun p => bnd (numP b 1 1048576 p) fun m => bnd (numP b 0 m.1 m.2) fun k => bnd (numP b k.1 m.1 k.2) fun h => bnd (frsP b k.1.toNat h.2) fun f => if f.2 < b.length then Except.error (124, (f.2 : Int)) else Except.ok (f.1, m.1, h.1)) = R := h
  have HNum : Hid (∀ (lo hi : Int) (x : Except (Int × Int) Nat) (w' : World), Below w.heap.size w w' → 0 ≤ lo → 0 ≤ hi → hi ≤ 4611686018427387905 → (∀ p, x = .ok p → p ≤ b.length) → Hid (RdR w' w.heap.size (.slice (some ⟨gb, off, none⟩) b.length c) x) → Calls Try.prog 75 #[.pointer (some ⟨w.heap.size, 0, none⟩), .int .i64 lo, .int .i64 hi] w' fun e w'' => ∃ n y, Hid (nmR b lo hi x = (n, y)) ∧ e = .returned (.int .i64 n) ∧ 0 ≤ n ∧ n ≤ hi ∧ Hid (∀ q, y = .ok q → q ≤ b.length ∧ lo ≤ n) ∧ Hid (RdR w'' w.heap.size (.slice (some ⟨gb, off, none⟩) b.length c) y) ∧ Hid (Upd (fun k => k = w.heap.size) w' w'')) :=
    hide_ (fun lo hi x w' hB h0 h1 h2 hx hr => by
      have hin := nm_in b hby.out lo hi x hx h1
      refine (rnum_any w.heap.size (some ⟨gb, off, none⟩) c b x lo hi w' h0 ⟨h1, h2⟩ hx hmax hby (hide_ (HRow.out w' hB)) (hide_ (fun _ y hy e => by injection hy with hy; subst hy; have := HA.out; have e' : gb = w.heap.size := e; omega)) hr).mono ?_
      rintro e w'' ⟨rfl, hr2, hu2⟩
      exact ⟨_, _, rfl, rfl, hin.1, hin.2.1, hide_ hin.2.2, hr2, hu2⟩)
  have HR1 : Hid (RdR w1 w.heap.size (.slice (some ⟨gb, off, none⟩) b.length c) (.ok 1)) := hide_ ⟨0, HK1.out⟩
  have HZ := hide_ h1
  have hBy := hby.out
  have HBy := hide_ hBy
  clear h h1 h102 HK1 hBy hrow hby
  go_enter Try.func68, Try.ntmps68
  go_upto_region 2 with fail
  rw [← hw1]
  clear hw1
  go_wp2_with fail
  refine (HNum.out 1 1048576 _ w1 HB1.out (by decide) (by decide) (by decide) (fun p hp => by injection hp with hp; omega) HR1).mono ?_
  rintro e w2 ⟨m, x1, hN, rfl, hm0, hm1, hx1, HR2, HU2⟩
  have h := HZ.out
  rw [nm_bnd, hN.out] at h
  dsimp only at h
  clear HZ
  have HZ := hide_ h
  have HU2' : Hid (Below w.heap.size w w2) := hide_ (HB1.out.trans (HU2.out.below w.heap.size HB1.out.size (fun k hk => by omega)))
  obtain ⟨gs, hgs⟩ : ∃ gs, gs = w2.heap.size := ⟨_, rfl⟩
  obtain ⟨w3, hw3⟩ : ∃ wx, wx = w2.alloc (.cells #[.slice none 0 0, .int .i64 m, .int .i64 0] 95) := ⟨_, rfl⟩
  have hB3 : Below w2.heap.size w2 w3 := by rw [hw3]; exact below1 _ _
  have HS3 : Hid (Blk w3 gs 95 [.slice none 0 0, .int .i64 m, .int .i64 0]) := hide_ (by rw [hw3, hgs]; exact Blk.newA w2 _ _)
  have HR3 := hide_ (HR2.out.later hB3)
  have HB3 := hide_ (below_to HU2'.out hB3)
  have hgsw : w.heap.size < gs := by
    obtain ⟨ys, hy⟩ := HR2.out.blk
    rw [hgs]
    exact hy.lt
  clear h hB3 HR2 HR1 HU2 HU2' HB1 hN
  go_upto_region 7 with fail
  rw [← hw3]
  clear hw3
  rw [← hgs]
  clear hgs
  have s1 := HS3.out.cell 1
  simp at s1
  go_wp2_with fail
  refine (HNum.out 0 m x1 w3 HB3.out (by decide) hm0 (by omega) (fun p hp => (hx1.out p hp).1) HR3).mono ?_
  rintro e w4 ⟨n, x2, hN, rfl, hn0, hn1, hx2, HR4, HU4⟩
  have h := HZ.out
  rw [nm_bnd, hN.out] at h
  dsimp only at h
  clear HZ
  have HZ := hide_ h
  have HX1 : Hid (∀ q, x2 = .ok q → ∃ p, x1 = .ok p) := hide_ (fun q hq => by
    have h := hN.out
    cases x1 with
    | error e => injection h with _ h; rw [hq] at h; cases h
    | ok p => exact ⟨p, rfl⟩)
  have HS4 := hide_ (HS3.out.upd HU4.out (show ¬ gs = w.heap.size by omega))
  have HB4 := hide_ (HB3.out.trans (HU4.out.below w.heap.size HB3.out.size (fun k hk => by omega)))
  clear h hN HR3 HS3 HB3 s1 HU4
  have s1 := HS4.out.cell 1
  simp at s1
  go_wp2_with fail
  refine (HNum.out n m x2 w4 HB4.out hn0 hm0 (by omega) (fun p hp => (hx2.out p hp).1) HR4).mono ?_
  rintro e w5 ⟨h', x3, hN, rfl, hh0, hh1, hx3, HR5, HU5⟩
  have h := HZ.out
  rw [nm_bnd, hN.out] at h
  dsimp only at h
  clear HZ
  have HZ := hide_ h
  have HX3 : Hid (∀ q, x3 = .ok q → q ≤ b.length ∧ 1 ≤ m ∧ n ≤ h') := hide_ (fun q hq => by
    have h1 := hx3.out q hq
    have h := hN.out
    refine ⟨h1.1, ?_, h1.2⟩
    cases x2 with
    | error e => injection h with _ h; rw [hq] at h; cases h
    | ok p =>
      obtain ⟨p1, hp1⟩ := HX1.out p rfl
      exact (hx1.out p1 hp1).2)
  have HS5 := hide_ (HS4.out.upd HU5.out (show ¬ gs = w.heap.size by omega))
  have HB5 := hide_ (HB4.out.trans (HU5.out.below w.heap.size HB4.out.size (fun k hk => by omega)))
  clear h hN HR4 HS4 HB4 s1 HU5 hx1 hx2 hx3 HX1
  obtain ⟨N, rfl⟩ := Int.eq_ofNat_of_zero_le hn0
  rw [Int.toNat_natCast] at HZ
  have s2 := HS5.out.cell 2; have z2 := HS5.out.frozen 2
  simp at s2
  have hset := (Upd.refl (fun k => k = gs) w5).set ⟨gs, 2, none⟩ (.int .i64 h') (.inl rfl)
  have HS6 : Hid (Blk (w5.setCell ⟨gs, 2, none⟩ (.int .i64 h')) gs 95 [.slice none 0 0, .int .i64 m, .int .i64 h']) := hide_ (by have := HS5.out.set 2 (.int .i64 h'); simpa using this)
  have HR6 := hide_ (HR5.out.upd hset (show ¬ w.heap.size = gs by omega))
  have HB6 := hide_ (HB5.out.trans (hset.below w.heap.size HB5.out.size (fun k hk => by omega)))
  clear hset HS5 HR5 HB5
  go_wp2_with fail
  go_loopw [8] (fun x8 wr => ∃ (i : Nat) (x : Except (Int × Int) Nat) (P : List (Fr × Value)) (v : Value), i ≤ N ∧ x8 = .int .i64 (i : Int) ∧ Hid (P.length = i) ∧ Hid (bnd x (fun p => bnd (frsP b (N - i) p) fun t => if t.2 < b.length then Except.error (124, (t.2 : Int)) else Except.ok (P.map (·.1) ++ t.1, m, h')) = R) ∧ Hid (RdR wr w.heap.size (.slice (some ⟨gb, off, none⟩) b.length c) x) ∧ Hid (Blk wr gs 95 [v, .int .i64 m, .int .i64 h']) ∧ Hid (FOwn wr w.heap.size v P) ∧ Hid (∀ q, x = .ok q → q ≤ b.length ∧ 1 ≤ m ∧ (N : Int) ≤ h' ∧ ∀ p ∈ P, frB p.1 = true) ∧ Hid (Below w.heap.size w wr)) (fun x8 _ => N - (intOf x8).toNat)
  case atStart => exact ⟨0, x3, [], .slice none 0 0, Nat.zero_le _, rfl, hide_ rfl, HZ, HR6, HS6, hide_ (FOwn.nil _ _), hide_ (fun q hq => ⟨(HX3.out q hq).1, (HX3.out q hq).2.1, (HX3.out q hq).2.2, fun p hp => (by cases hp)⟩), HB6⟩
  case round =>
    clear HZ HR6 HS6 HB6 HX3 z2 s2 hc0 hn0
    obtain ⟨i, x, P, v, hi, rfl, HPl, HZ, HRq, HS, HO, HX, HB⟩ := hrel
    generalize wr = wq at *
    obtain ⟨av, cv, rfl, -⟩ := HO.out.slice
    go_upto_region 10 with fail
    go_cut [51] from 42 to 51 (fun x51 wc => x51 = .bool (decide (i < N) && okE x) ∧ wq = wc)
    case first =>
      obtain ⟨e, c2, he, -⟩ := HRq.out.err
      by_cases hlt : i < N
      · have hlt' : (i : Int) < N := by omega
        have hgo : (decide (i < N) && okE x) = okE x := by rw [decide_eq_true hlt, Bool.true_and]
        clear hlt
        go_wp2_with fail
        go_meet
        case rel => exact ⟨by rw [hgo], rfl⟩
      · have hlt' : ¬ (i : Int) < N := by omega
        have hgo : (decide (i < N) && okE x) = false := by rw [decide_eq_false hlt, Bool.false_and]
        clear hlt
        go_wp2_with fail
        go_meet
        case rel => exact ⟨by rw [hgo], rfl⟩
    case rest =>
    obtain ⟨rfl, rfl⟩ := hcut
    cases hgo : (decide (i < N) && okE x) with
    | true =>
      rw [Bool.and_eq_true, decide_eq_true_iff] at hgo
      obtain ⟨hlt, hok⟩ := hgo
      obtain ⟨p, rfl⟩ : ∃ p, x = .ok p := by
        cases x with
        | ok p => exact ⟨p, rfl⟩
        | error e => cases hok
      obtain ⟨n, hn⟩ : ∃ n, N - i = n + 1 := ⟨N - i - 1, by omega⟩
      have hn' : N - (i + 1) = n := by omega
      have HN := hide_ hn'
      rw [hn, bnd_ok] at HZ
      obtain ⟨Rf, hRf⟩ : ∃ Rf, frP b p = Rf := ⟨_, rfl⟩
      have HRf := hide_ hRf
      have h0 : bnd (.ok p) (fun p => bnd (posP b p) fun r => bnd (posP b r.2) fun a => bnd (posP b a.2) fun s => bnd (ponP b s.2) fun e => bnd (ponP b e.2) fun n => bnd (posP b n.2) fun x => bnd (numP b 0 1048576 x.2) fun k => bnd (tabP b k.1.toNat k.2) fun t => Except.ok ((⟨r.1, a.1, s.1, e.1, n.1, x.1, t.1⟩ : Fr), t.2)) = Rf := hRf
      have HF := hide_ h0
      have hbs : w.heap.size ≤ wq.heap.size := HB.out.size
      obtain ⟨w0, hw0⟩ : ∃ wx, wx = wq.alloc (.cells #[.int .i64 0, .int .i64 0, .int .i64 0, .int .i64 0, .int .i64 0, .int .i64 0, .slice none 0 0] 39) := ⟨_, rfl⟩
      have hB0 : Below wq.heap.size wq w0 := by rw [hw0]; exact below1 _ _
      have hgrw : w.heap.size < wq.heap.size := by obtain ⟨ys, hy⟩ := HRq.out.blk; exact hy.lt
      have HL0 : Hid (LdB wq w.heap.size (.slice (some ⟨gb, off, none⟩) b.length c) b (.ok p) ⟨0, 0, 0, 0, 0, 0, []⟩ (.slice none 0 0) [] (.slice none 0 0) w0) := hide_ ⟨HRq.out.later hB0, by rw [hw0]; exact Blk.newA wq _ _, IOwn.nil _ _, Upd.of_below hB0, fun q hq => (HX.out q hq).1, hgrw⟩
      have HNB : Hid (∀ (hi : Int) (y : Except (Int × Int) Nat) (f : Fr) (u0 : Value) (T : List Int) (u : Value) (w' : World), 0 ≤ hi → hi ≤ 4611686018427387905 → Hid (LdB wq w.heap.size (.slice (some ⟨gb, off, none⟩) b.length c) b y f u0 T u w') → Calls Try.prog 75 #[.pointer (some ⟨w.heap.size, 0, none⟩), .int .i64 0, .int .i64 hi] w' fun e w'' => ∃ n y', Hid (nmR b 0 hi y = (n, y')) ∧ e = .returned (.int .i64 n) ∧ 0 ≤ n ∧ n ≤ hi ∧ Hid (LdB wq w.heap.size (.slice (some ⟨gb, off, none⟩) b.length c) b y' f u0 T u w'')) :=
        hide_ (fun hi y f u0 T u w' h1 h2 hL => by
          refine (HNum.out 0 hi y w' (HB.out.trans (hL.out.up.below w.heap.size hbs (fun k hk => by omega))) (Int.le_refl _) h1 h2 hL.out.at_ (hide_ hL.out.rd)).mono ?_
          rintro e w'' ⟨n, y', hN, rfl, hb1, hb2, hq, hr, hu⟩
          exact ⟨n, y', hN, rfl, hb1, hb2, hide_ (hL.out.num hr.out hu.out (fun q hq' => (hq.out q hq').1))⟩)
      have hlt' : (i : Int) < N := by omega
      clear hB0 hRf h0 hn hn' hok hlt
      go_upto_region 13 with fail
      rw [← hw0]
      clear hw0
      go_wp2_with fail
      refine (HNB.out 4611686018427387904 _ _ _ _ _ _ (by decide) (by decide) HL0).mono ?_
      rintro e w1 ⟨x1, y1, hN, rfl, hb1, hb2, HM⟩
      have h := HF.out
      rw [pos_st, hN.out] at h
      dsimp only at h
      clear HF
      have HF := hide_ h
      have c0 := HM.out.fr.cell 0; have z0 := HM.out.fr.frozen 0
      simp [frc] at c0
      have HL1 := hide_ (HM.out.put 0 (.int .i64 (x1)) ⟨x1, 0, 0, 0, 0, 0, []⟩ (.slice none 0 0) rfl)
      clear h hN HL0 HM hb1 hb2
      go_wp2_with fail
      refine (HNB.out 4611686018427387904 _ _ _ _ _ _ (by decide) (by decide) HL1).mono ?_
      rintro e w2 ⟨x2, y2, hN, rfl, hb1, hb2, HM⟩
      have h := HF.out
      rw [pos_st, hN.out] at h
      dsimp only at h
      clear HF
      have HF := hide_ h
      have c1 := HM.out.fr.cell 1; have z1 := HM.out.fr.frozen 1
      simp [frc] at c1
      have HL2 := hide_ (HM.out.put 1 (.int .i64 (x2)) ⟨x1, x2, 0, 0, 0, 0, []⟩ (.slice none 0 0) rfl)
      clear h hN HL1 HM c0 z0 hb1 hb2
      go_wp2_with fail
      refine (HNB.out 4611686018427387904 _ _ _ _ _ _ (by decide) (by decide) HL2).mono ?_
      rintro e w3 ⟨x3, y3, hN, rfl, hb1, hb2, HM⟩
      have h := HF.out
      rw [pos_st, hN.out] at h
      dsimp only at h
      clear HF
      have HF := hide_ h
      have c2 := HM.out.fr.cell 2; have z2 := HM.out.fr.frozen 2
      simp [frc] at c2
      have HL3 := hide_ (HM.out.put 2 (.int .i64 (x3)) ⟨x1, x2, x3, 0, 0, 0, []⟩ (.slice none 0 0) rfl)
      clear h hN HL2 HM c1 z1 hb1 hb2
      go_wp2_with fail
      refine (HNB.out 4611686018427387905 _ _ _ _ _ _ (by decide) (by decide) HL3).mono ?_
      rintro e w4 ⟨x4, y4, hN, rfl, hb1, hb2, HM⟩
      have h := HF.out
      rw [pon_st, hN.out] at h
      dsimp only at h
      clear HF
      have HF := hide_ h
      have c3 := HM.out.fr.cell 3; have z3 := HM.out.fr.frozen 3
      simp [frc] at c3
      have HL4 := hide_ (HM.out.put 3 (.int .i64 (x4 - 1)) ⟨x1, x2, x3, x4 - 1, 0, 0, []⟩ (.slice none 0 0) rfl)
      clear h hN HL3 HM c2 z2
      go_wp2_with fail
      refine (HNB.out 4611686018427387905 _ _ _ _ _ _ (by decide) (by decide) HL4).mono ?_
      rintro e w5 ⟨x5, y5, hN, rfl, hb1, hb2, HM⟩
      have h := HF.out
      rw [pon_st, hN.out] at h
      dsimp only at h
      clear HF
      have HF := hide_ h
      have c4 := HM.out.fr.cell 4; have z4 := HM.out.fr.frozen 4
      simp [frc] at c4
      have HL5 := hide_ (HM.out.put 4 (.int .i64 (x5 - 1)) ⟨x1, x2, x3, x4 - 1, x5 - 1, 0, []⟩ (.slice none 0 0) rfl)
      clear h hN HL4 HM c3 z3
      go_wp2_with fail
      refine (HNB.out 4611686018427387904 _ _ _ _ _ _ (by decide) (by decide) HL5).mono ?_
      rintro e w6 ⟨x6, y6, hN, rfl, hb1, hb2, HM⟩
      have h := HF.out
      rw [pos_st, hN.out] at h
      dsimp only at h
      clear HF
      have HF := hide_ h
      have c5 := HM.out.fr.cell 5; have z5 := HM.out.fr.frozen 5
      simp [frc] at c5
      have HL6 := hide_ (HM.out.put 5 (.int .i64 (x6)) ⟨x1, x2, x3, x4 - 1, x5 - 1, x6, []⟩ (.slice none 0 0) rfl)
      clear h hN HL5 HM c4 z4 hb1 hb2
      go_wp2_with fail
      refine (HNB.out 1048576 _ _ _ _ _ _ (by decide) (by decide) HL6).mono ?_
      rintro e w7 ⟨x7, y7, hN, rfl, hb1, hb2, HL7⟩
      have h := HF.out
      rw [nm_bnd, hN.out] at h
      dsimp only at h
      obtain ⟨K, rfl⟩ := Int.eq_ofNat_of_zero_le hb1
      rw [Int.toNat_natCast] at h
      clear HF
      have HF := hide_ h
      have hK : K ≤ 1048576 := by omega
      clear h hN HL6 hb1 hb2 c5 z5
      go_wp2_with fail
      go_loopw [11] (fun x11 wr => ∃ (j : Nat) (y : Except (Int × Int) Nat) (T : List Int) (u : Value), j ≤ K ∧ x11 = .int .i64 (j : Int) ∧ Hid (T.length = j) ∧ Hid (bnd y (fun q => bnd (tabP b (K - j) q) fun t => Except.ok ((⟨x1, x2, x3, x4 - 1, x5 - 1, x6, T ++ t.1⟩ : Fr), t.2)) = Rf) ∧ Hid (LdB wq w.heap.size (.slice (some ⟨gb, off, none⟩) b.length c) b y ⟨x1, x2, x3, x4 - 1, x5 - 1, x6, []⟩ u T u wr)) (fun x11 _ => K - (intOf x11).toNat)
      case atStart => exact ⟨0, y7, [], .slice none 0 0, Nat.zero_le _, rfl, hide_ rfl, HF, HL7⟩
      case round =>
        clear HF HL7
        obtain ⟨j, y, T, u, hj, rfl, HTl, HF, HL⟩ := hrel
        generalize wr = wj at *
        obtain ⟨au, cu, rfl⟩ := HL.out.tb.slice
        go_upto_region 21 with fail
        go_cut [85] from 76 to 85 (fun x85 wc => x85 = .bool (decide (j < K) && okE y) ∧ wj = wc)
        case first =>
          obtain ⟨e, c2, he, -⟩ := HL.out.rd.err
          by_cases hjk : j < K
          · have hjk' : (j : Int) < K := by omega
            have hgo : (decide (j < K) && okE y) = okE y := by rw [decide_eq_true hjk, Bool.true_and]
            clear hjk
            go_wp2_with fail
            go_meet
            case rel => exact ⟨by rw [hgo], rfl⟩
          · have hjk' : ¬ (j : Int) < K := by omega
            have hgo : (decide (j < K) && okE y) = false := by rw [decide_eq_false hjk, Bool.false_and]
            clear hjk
            go_wp2_with fail
            go_meet
            case rel => exact ⟨by rw [hgo], rfl⟩
        case rest =>
        obtain ⟨rfl, rfl⟩ := hcut
        cases hgo : (decide (j < K) && okE y) with
        | true =>
          rw [Bool.and_eq_true, decide_eq_true_iff] at hgo
          obtain ⟨hjk, -⟩ := hgo
          obtain ⟨n2, hn2⟩ : ∃ n2, K - j = n2 + 1 := ⟨K - j - 1, by omega⟩
          have hn2' : K - (j + 1) = n2 := by omega
          have HN2 := hide_ hn2'
          rw [hn2, tab_st] at HF
          have HLd := hide_ (HL.out.later (w' := wj.drew) ((Below.refl wj.heap.size wj).drew))
          have HS1 : Hid ((fun w' => w'.cell? ⟨wq.heap.size, 6, none⟩ = some (.slice au T.length cu)) wj.drew) := hide_ (HLd.out.fr.cell 6)
          have l6 := HL.out.fr.cell 6
          simp [frc] at l6
          clear hn2 hn2'
          go_wp2_with fail
          refine wp_region_last 7 (fun w' => w'.cell? ⟨wq.heap.size, 6, none⟩ = some (.slice au T.length cu)) (by kernel_rfl) (HS1.out) (fun hHeld => ?_)
          refine wpAnyF_take [7] (by kernel_rfl) (i := 0) (v := ?vp1) rfl (by kernel_rfl) (by kernel_rfl) (by kernel_rfl) (fun _ _ _ h => h) (Or.inl ⟨by kernel_rfl, ?hyp1⟩) hHeld ?restp1
          case hyp1 => intro w' hSw; (try dsimp only at hSw); go_simp; try with_reducible rfl
          simp only [Act.put]
          try dsimp only
          refine wpAnyF_take [7] (by kernel_rfl) (i := 1) (v := ?vp2) rfl (by kernel_rfl) (by kernel_rfl) (by kernel_rfl) (fun _ _ _ h => h) (Or.inl ⟨by kernel_rfl, ?hyp2⟩) hHeld ?restp2
          case hyp2 => intro w' hSw; (try dsimp only at hSw); go_simp; try with_reducible rfl
          simp only [Act.put]
          try dsimp only
          refine wpAnyF_take [7] (by kernel_rfl) (i := 2) (v := ?vp3) rfl (by kernel_rfl) (by kernel_rfl) (by kernel_rfl) (fun _ _ _ h => h) (Or.inl ⟨by kernel_rfl, ?hyp3⟩) hHeld ?restp3
          case hyp3 => intro w' hSw; (try dsimp only at hSw); go_simp; try with_reducible rfl
          simp only [Act.put]
          try dsimp only
          refine wpAnyF_ready (rs := [3]) (by kernel_rfl) (by simp) ?_
          refine AllReadyF.cons rfl (fun K hK => ?_) AllReadyF.nil
          go_simp
          refine (HNB.out 4611686018427387904 _ _ _ _ _ _ (by decide) (by decide) HLd).mono ?_
          rintro e w4 ⟨x, y', hN, rfl, hb1, hb2, HL4⟩
          have h := HF.out
          rw [hN.out] at h
          dsimp only at h
          have HF4 := hide_ h
          have hs4 : wq.heap.size ≤ w4.heap.size := HL4.out.up.size
          obtain ⟨gT, capT, w5', hr, ho, hu, hgT⟩ := HL4.out.tb.push x (by have := HTl.out; omega) hs4
          have HAp := hide_ hr
          have HL5 := hide_ (HL4.out.app hu ho)
          have HS3 : Hid ((fun w' => w'.cell? ⟨wq.heap.size, 6, none⟩ = some (.slice au T.length cu)) w4) := hide_ (HL4.out.fr.cell 6)
          have HS4 : Hid ((fun w' => w'.cell? ⟨wq.heap.size, 6, none⟩ = some (.slice au T.length cu)) (w4.alloc (.cells #[.int .i64 x] 3))) := hide_ ((HL4.out.fr.alloc _).cell 6)
          have HS5 : Hid ((fun w' => w'.cell? ⟨wq.heap.size, 6, none⟩ = some (.slice au T.length cu)) w5') := hide_ (HL5.out.fr.cell 6)
          clear h hN hr ho hu hgT hs4
          dsimp only
          refine hK.out _ _ (HS3.out) (fun hHeld => ?_)
          clear hK K
          refine wpAnyF_ready (rs := [4]) (by kernel_rfl) (by simp) ?_
          refine AllReadyF.cons rfl (fun K hK => ?_) AllReadyF.nil
          go_simp
          refine hK.out _ _ (HS4.out) (fun hHeld => ?_)
          clear hK K
          refine wpAnyF_ready (rs := [5]) (by kernel_rfl) (by simp) ?_
          refine AllReadyF.cons rfl (fun K hK => ?_) AllReadyF.nil
          refine step_append_run rfl (.tmp 89) (.tmp 92) 37 37 rfl (v := .slice au T.length cu) (u := .slice (some ⟨w4.heap.size, 0, none⟩) 1 1) (by kernel_rfl) (by kernel_rfl) HAp.out ?_
          simp only [Act.put]
          refine hK.out _ _ (HS5.out) (fun hHeld => ?_)
          clear hK K
          refine wpAnyF_take [7] (by kernel_rfl) (i := 6) (v := ?vp4) rfl (by kernel_rfl) (by kernel_rfl) (by kernel_rfl) (fun _ _ _ h => h) (Or.inl ⟨by kernel_rfl, ?hyp4⟩) hHeld ?restp4
          case hyp4 => intro w' hSw; (try dsimp only at hSw); go_simp; try with_reducible rfl
          simp only [Act.put]
          try dsimp only
          refine wpAnyF_ready (rs := [7]) (by kernel_rfl) (by simp) ?_
          refine AllReadyF.last rfl (fun K hK => ?_)
          have m6 := HL5.out.fr.cell 6; have n6 := HL5.out.fr.frozen 6
          simp [frc] at m6
          go_simp
          refine hK.out _ _ ?_
          clear hK K
          refine wpAnyF_done (by kernel_rfl) ?_ _
          go_wp2_with fail
          have HL6 := hide_ (HL5.out.put 6 (.slice (some ⟨gT, 0, none⟩) (T.length + 1) capT) ⟨x1, x2, x3, x4 - 1, x5 - 1, x6, []⟩ (.slice (some ⟨gT, 0, none⟩) (T.length + 1) capT) rfl)
          go_roundw
          case rel => exact ⟨j + 1, y', T ++ [x], .slice (some ⟨gT, 0, none⟩) (T.length + 1) capT, by omega, by go_num, hide_ (by have := HTl.out; simp; exact this), hide_ (by simp only [List.append_assoc, List.singleton_append]; rw [HN2.out]; exact HF4.out), HL6⟩
          case measure => simp [intOf]; omega
        | false =>
          have hfr : frP b p = bnd y fun q => .ok ((⟨x1, x2, x3, x4 - 1, x5 - 1, x6, T⟩ : Fr), q) := by
            rw [HRf.out, ← HF.out]
            refine bnd_cg (fun q hq => ?_)
            subst hq
            have : j = K := by
              simp [okE] at hgo
              omega
            rw [this, Nat.sub_self, tabP, bnd_ok, List.append_nil]
          obtain ⟨f, hf⟩ : ∃ f : Fr, f = ⟨x1, x2, x3, x4 - 1, x5 - 1, x6, T⟩ := ⟨_, rfl⟩
          rw [← hf] at hfr
          have HFr := hide_ hfr
          have hfc : frc ((⟨x1, x2, x3, x4 - 1, x5 - 1, x6, []⟩ : Fr), Value.slice au T.length cu) = frc (f, .slice au f.T.length cu) := by rw [hf]; rfl
          have HTb : Hid (IOwn wj.drew wq.heap.size (.slice au f.T.length cu) f.T) := hide_ (by rw [hf]; exact HL.out.tb.later ((Below.refl wj.heap.size wj).drew))
          have HFb : Hid (Blk wj.drew wq.heap.size 39 (frc (f, .slice au f.T.length cu))) := hide_ (by rw [← hfc]; exact HL.out.fr.drew)
          have HUj : Hid (Upd (fun k => k = w.heap.size) wq wj.drew) := hide_ (HL.out.up.drew)
          have hS2 := HS.out.upd HUj.out (show ¬ gs = w.heap.size by omega)
          have hO2 := HO.out.upd HUj.out (fun k hk e => by
            subst e
            obtain ⟨ys, hy⟩ := HRq.out.blk
            exact HO.out.rowNe hy (by decide) hk) (fun q hq k hk e => by
            subst e
            obtain ⟨ys, hy⟩ := HRq.out.blk
            exact HO.out.tbNe hy (by decide) q hq hk)
          have HRj : Hid (RdR wj.drew w.heap.size (.slice (some ⟨gb, off, none⟩) b.length c) y) := hide_ (HL.out.rd.later ((Below.refl wj.heap.size wj).drew))
          have hsj : wq.heap.size ≤ wj.drew.heap.size := HUj.out.size
          obtain ⟨gF, capF, w5', hr, ho, hu, hgF⟩ := hO2.push f (own_base HTb.out hbs) (fun q hq k hk h2 => by
            have h3 := ((HO.out.tb q hq).lies hk).2
            have h4 := (HTb.out.lies h2).1
            omega) (by have := HPl.out; omega) (Nat.le_trans hbs hsj)
          have hvl : ∀ k, (Value.slice av P.length cv).ownBlock = some k → w.heap.size ≤ k ∧ k < wq.heap.size := fun k hk => HO.out.row.lt k hk
          have hvg : ∀ k, (Value.slice av P.length cv).ownBlock = some k → ¬ k = w.heap.size := fun k hk e => by
            subst e
            obtain ⟨ys, hy⟩ := HRq.out.blk
            exact HO.out.rowNe hy (by decide) hk
          have HS2 := hide_ hS2
          have HR := hide_ hr
          have HO5 := hide_ ho
          have HS5 := hide_ (hS2.upd hu (fun e => HO.out.rowNe HS.out (by decide) e))
          have HR5 := hide_ (HRj.out.upd hu (fun e => hvg _ e rfl))
          have HB5 : Hid (Below w.heap.size w w5') := hide_ ((HB.out.trans (HUj.out.below w.heap.size hbs (fun k hk => by omega))).trans (hu.below w.heap.size (Nat.le_trans hbs hsj) (fun k hk => (hvl k hk).1)))
          have HF5 := hide_ (HFb.out.upd hu (fun e => by have := hvl _ e; omega))
          have HS1 : Hid ((fun w' => w'.cell? ⟨gs, 0, none⟩ = some (.slice av P.length cv) ∧ w'.cell? ⟨wq.heap.size, 0, none⟩ = some (.int .i64 f.r) ∧ w'.cell? ⟨wq.heap.size, 1, none⟩ = some (.int .i64 f.a) ∧ w'.cell? ⟨wq.heap.size, 2, none⟩ = some (.int .i64 f.b) ∧ w'.cell? ⟨wq.heap.size, 3, none⟩ = some (.int .i64 f.e) ∧ w'.cell? ⟨wq.heap.size, 4, none⟩ = some (.int .i64 f.n) ∧ w'.cell? ⟨wq.heap.size, 5, none⟩ = some (.int .i64 f.x) ∧ w'.cell? ⟨wq.heap.size, 6, none⟩ = some (.slice au f.T.length cu)) wj.drew) := hide_ ⟨hS2.cell 0, HFb.out.cell 0, HFb.out.cell 1, HFb.out.cell 2, HFb.out.cell 3, HFb.out.cell 4, HFb.out.cell 5, HFb.out.cell 6⟩
          have HS1a : Hid ((fun w' => w'.cell? ⟨gs, 0, none⟩ = some (.slice av P.length cv) ∧ w'.cell? ⟨wq.heap.size, 0, none⟩ = some (.int .i64 f.r) ∧ w'.cell? ⟨wq.heap.size, 1, none⟩ = some (.int .i64 f.a) ∧ w'.cell? ⟨wq.heap.size, 2, none⟩ = some (.int .i64 f.b) ∧ w'.cell? ⟨wq.heap.size, 3, none⟩ = some (.int .i64 f.e) ∧ w'.cell? ⟨wq.heap.size, 4, none⟩ = some (.int .i64 f.n) ∧ w'.cell? ⟨wq.heap.size, 5, none⟩ = some (.int .i64 f.x) ∧ w'.cell? ⟨wq.heap.size, 6, none⟩ = some (.slice au f.T.length cu)) (wj.drew.alloc (.cells #[.int .i64 f.r, .int .i64 f.a, .int .i64 f.b, .int .i64 f.e, .int .i64 f.n, .int .i64 f.x, .slice au f.T.length cu] 39))) := hide_ ⟨(hS2.alloc _).cell 0, (HFb.out.alloc _).cell 0, (HFb.out.alloc _).cell 1, (HFb.out.alloc _).cell 2, (HFb.out.alloc _).cell 3, (HFb.out.alloc _).cell 4, (HFb.out.alloc _).cell 5, (HFb.out.alloc _).cell 6⟩
          have HS1b : Hid ((fun w' => w'.cell? ⟨gs, 0, none⟩ = some (.slice av P.length cv) ∧ w'.cell? ⟨wq.heap.size, 0, none⟩ = some (.int .i64 f.r) ∧ w'.cell? ⟨wq.heap.size, 1, none⟩ = some (.int .i64 f.a) ∧ w'.cell? ⟨wq.heap.size, 2, none⟩ = some (.int .i64 f.b) ∧ w'.cell? ⟨wq.heap.size, 3, none⟩ = some (.int .i64 f.e) ∧ w'.cell? ⟨wq.heap.size, 4, none⟩ = some (.int .i64 f.n) ∧ w'.cell? ⟨wq.heap.size, 5, none⟩ = some (.int .i64 f.x) ∧ w'.cell? ⟨wq.heap.size, 6, none⟩ = some (.slice au f.T.length cu)) w5') := hide_ ⟨HS5.out.cell 0, HF5.out.cell 0, HF5.out.cell 1, HF5.out.cell 2, HF5.out.cell 3, HF5.out.cell 4, HF5.out.cell 5, HF5.out.cell 6⟩
          have HLat := hide_ HL.out.at_
          clear hfr hf hfc hS2 hO2 hr ho hu hgF hvl hvg hgo HF HL hsj HRj HUj HTb
          go_wp2_with fail
          refine wp_region_last 10 (fun w' => w'.cell? ⟨gs, 0, none⟩ = some (.slice av P.length cv) ∧ w'.cell? ⟨wq.heap.size, 0, none⟩ = some (.int .i64 f.r) ∧ w'.cell? ⟨wq.heap.size, 1, none⟩ = some (.int .i64 f.a) ∧ w'.cell? ⟨wq.heap.size, 2, none⟩ = some (.int .i64 f.b) ∧ w'.cell? ⟨wq.heap.size, 3, none⟩ = some (.int .i64 f.e) ∧ w'.cell? ⟨wq.heap.size, 4, none⟩ = some (.int .i64 f.n) ∧ w'.cell? ⟨wq.heap.size, 5, none⟩ = some (.int .i64 f.x) ∧ w'.cell? ⟨wq.heap.size, 6, none⟩ = some (.slice au f.T.length cu)) (by kernel_rfl) (HS1.out) (fun hHeld => ?_)
          refine wpAnyF_take [10] (by kernel_rfl) (i := 0) (v := ?vq1) rfl (by kernel_rfl) (by kernel_rfl) (by kernel_rfl) (fun _ _ _ h => h) (Or.inl ⟨by kernel_rfl, ?hyq1⟩) hHeld ?restq1
          case hyq1 => intro w' hSw; (try dsimp only at hSw); go_simp; try with_reducible rfl
          simp only [Act.put]
          try dsimp only
          refine wpAnyF_take [10] (by kernel_rfl) (i := 1) (v := ?vq2) rfl (by kernel_rfl) (by kernel_rfl) (by kernel_rfl) (fun _ _ _ h => h) (Or.inl ⟨by kernel_rfl, ?hyq2⟩) hHeld ?restq2
          case hyq2 => intro w' hSw; (try dsimp only at hSw); go_simp; try with_reducible rfl
          simp only [Act.put]
          try dsimp only
          refine wpAnyF_take [10] (by kernel_rfl) (i := 2) (v := ?vq3) rfl (by kernel_rfl) (by kernel_rfl) (by kernel_rfl) (fun _ _ _ h => h) (Or.inl ⟨by kernel_rfl, ?hyq3⟩) hHeld ?restq3
          case hyq3 => intro w' hSw; (try dsimp only at hSw); go_simp; try with_reducible rfl
          simp only [Act.put]
          try dsimp only
          refine wpAnyF_take [10] (by kernel_rfl) (i := 3) (v := ?vq4) rfl (by kernel_rfl) (by kernel_rfl) (by kernel_rfl) (fun _ _ _ h => h) (Or.inl ⟨by kernel_rfl, ?hyq4⟩) hHeld ?restq4
          case hyq4 => intro w' hSw; (try dsimp only at hSw); go_simp; try with_reducible rfl
          simp only [Act.put]
          try dsimp only
          refine wpAnyF_take [10] (by kernel_rfl) (i := 4) (v := ?vq5) rfl (by kernel_rfl) (by kernel_rfl) (by kernel_rfl) (fun _ _ _ h => h) (Or.inl ⟨by kernel_rfl, ?hyq5⟩) hHeld ?restq5
          case hyq5 => intro w' hSw; (try dsimp only at hSw); go_simp; try with_reducible rfl
          simp only [Act.put]
          try dsimp only
          refine wpAnyF_take [10] (by kernel_rfl) (i := 5) (v := ?vq6) rfl (by kernel_rfl) (by kernel_rfl) (by kernel_rfl) (fun _ _ _ h => h) (Or.inl ⟨by kernel_rfl, ?hyq6⟩) hHeld ?restq6
          case hyq6 => intro w' hSw; (try dsimp only at hSw); go_simp; try with_reducible rfl
          simp only [Act.put]
          try dsimp only
          refine wpAnyF_ready (rs := [6]) (by kernel_rfl) (by simp) ?_
          refine AllReadyF.cons rfl (fun K hK => ?_) AllReadyF.nil
          go_simp
          refine hK.out _ _ (HS1a.out) (fun hHeld => ?_)
          clear hK K
          refine wpAnyF_ready (rs := [7]) (by kernel_rfl) (by simp) ?_
          refine AllReadyF.cons rfl (fun K hK => ?_) AllReadyF.nil
          refine step_append_run rfl (.tmp 99) (.tmp 101) 22 22 rfl (v := .slice av P.length cv) (u := .slice (some ⟨wj.drew.heap.size, 0, none⟩) 1 1) (by kernel_rfl) (by kernel_rfl) HR.out ?_
          simp only [Act.put]
          refine hK.out _ _ (HS1b.out) (fun hHeld => ?_)
          clear hK K
          refine wpAnyF_take [10, 9] (by kernel_rfl) (i := 8) (v := ?vq7) rfl (by kernel_rfl) (by kernel_rfl) (by kernel_rfl) (fun _ _ _ h => h) (Or.inl ⟨by kernel_rfl, ?hyq7⟩) hHeld ?restq7
          case hyq7 => intro w' hSw; (try dsimp only at hSw); go_simp; try with_reducible rfl
          simp only [Act.put]
          try dsimp only
          refine wpAnyF_take [10] (by kernel_rfl) (i := 9) (v := ?vq8) rfl (by kernel_rfl) (by kernel_rfl) (by kernel_rfl) (fun _ _ _ h => h) (Or.inl ⟨by kernel_rfl, ?hyq8⟩) hHeld ?restq8
          case hyq8 => intro w' hSw; (try dsimp only at hSw); go_simp; try with_reducible rfl
          simp only [Act.put]
          try dsimp only
          refine wpAnyF_ready (rs := [10]) (by kernel_rfl) (by simp) ?_
          refine AllReadyF.last rfl (fun K hK => ?_)
          have l0' := HS5.out.cell 0; have z0' := HS5.out.frozen 0
          simp at l0'
          go_simp
          refine hK.out _ _ ?_
          clear hK K
          refine wpAnyF_done (by kernel_rfl) ?_ _
          have hset := (Upd.refl (fun k => k = gs) w5').set ⟨gs, 0, none⟩ (.slice (some ⟨gF, 0, none⟩) (P.length + 1) capF) (.inl rfl)
          have hr6 := HR5.out.upd hset (show ¬ w.heap.size = gs by omega)
          have ho6 := HO5.out.upd hset (fun k hk e => by subst e; exact HO5.out.rowNe HS5.out (by decide) hk) (fun p hp k hk e => by subst e; exact HO5.out.tbNe HS5.out (by decide) p hp hk)
          have hs6 := HS5.out.set 0 (.slice (some ⟨gF, 0, none⟩) (P.length + 1) capF)
          have hb6 := HB5.out.trans (hset.below w.heap.size HB5.out.size (fun k hk => by omega))
          have HR6 := hide_ hr6
          have HO6 := hide_ ho6
          have HS6 := hide_ hs6
          have HB6 := hide_ hb6
          clear hset hr6 ho6 hs6 hb6
          go_wp2_with fail
          go_roundw
          case rel => exact ⟨i + 1, y, P ++ [(f, .slice au f.T.length cu)], .slice (some ⟨gF, 0, none⟩) (P.length + 1) capF, by omega, by go_num, hide_ (by have := HPl.out; simp; exact this), hide_ (by
            have h := HZ.out
            rw [frs_st b n p f y _ HFr.out] at h
            rw [HN.out]
            simp only [List.map_append, List.map_cons, List.map_nil, List.append_assoc, List.singleton_append]
            exact h), HR6, HS6, HO6, hide_ (fun q hq => ⟨HLat.out q hq, (HX.out p rfl).2.1, (HX.out p rfl).2.2.1, fun z hz => by
            rcases List.mem_append.1 hz with hz | hz
            · exact (HX.out p rfl).2.2.2 z hz
            · simp only [List.mem_singleton] at hz
              subst hz
              have h := HFr.out
              rw [hq, bnd_ok] at h
              exact (frBk HBy.out (HX.out p rfl).1 h).1⟩), HB6⟩
          case measure => simp [intOf]; omega
    | false =>
      cases x with
      | error er =>
        obtain ⟨he, a2, k2⟩ := HRq.out
        have HE : Hid (Except.error er = R) := HZ
        obtain ⟨er1, er2⟩ := er
        have r2 := k2.cell 2; have r3 := k2.cell 3
        simp at r2 r3
        have he' : ¬ er1 = 0 := he
        have heb : (er1 == 0) = false := by simpa using he'
        have heb' : (er1 != 0) = true := by simpa using he'
        have HBd := hide_ (below_to HB.out ((Below.refl wq.heap.size wq).drew))
        clear hgo he he' k2
        go_wp2_with fail
        go_region
        go_wp2_with fail
        go_ret3
        exact .inr ⟨er1, er2, HE.out.symm, rfl, HBd⟩
      | ok p =>
        have hiN : i = N := by
          simp [okE] at hgo
          omega
        subst hiN
        have hz : (if p < b.length then Except.error (124, (p : Int)) else Except.ok (P.map (·.1), m, h')) = R := by
          have h := HZ.out
          rw [bnd_ok, Nat.sub_self, frsP, bnd_ok] at h
          dsimp only at h
          rw [List.append_nil] at h
          exact h
        obtain ⟨bad, k2⟩ := HRq.out
        have r1 := k2.cell 1; have r2 := k2.cell 2
        simp at r1 r2
        by_cases hend : p < b.length
        · rw [if_pos hend] at hz
          have HE := hide_ hz
          have hend' : decide ((p : Int) < b.length) = true := decide_eq_true (by omega)
          have hend2 : (p : Int) < b.length := by omega
          have HFl := hide_ (rfails_any w.heap.size (.slice (some ⟨gb, off, none⟩) b.length c) p bad 124 (p : Int) wq (by decide) (hide_ k2))
          clear hz hend hgo k2
          go_wp2_with fail
          refine HFl.out.mono ?_
          rintro e w7 ⟨rfl, HR7, HU7⟩
          obtain ⟨he7, a7, k7⟩ := HR7.out
          have t2 := k7.cell 2; have t3 := k7.cell 3
          simp at t2 t3
          have HBd := hide_ (below_to (HB.out.trans (HU7.out.below w.heap.size HB.out.size (fun k hk => by omega))) ((Below.refl w7.heap.size w7).drew))
          clear he7 k7 r1 r2
          go_wp2_with fail
          go_region
          go_wp2_with fail
          go_ret3
          exact .inr ⟨124, (p : Int), HE.out.symm, rfl, HBd⟩
        · rw [if_neg hend] at hz
          have HE := hide_ hz
          have hend' : decide ((p : Int) < b.length) = false := decide_eq_false (by omega)
          have hend2 : ¬ ((p : Int) < b.length) := by omega
          clear hz hend hgo k2
          go_wp2_with fail
          go_ret3
          obtain ⟨-, hm1', hNh, hrt⟩ := HX.out p rfl
          have hM : RSt wq w.heap.size gs (.slice av P.length cv) P m h' := ⟨HS.out, HO.out, Nat.le_of_lt hgsw, ⟨hm1', hm1⟩, by have := HPl.out; omega, ⟨by have := HPl.out; omega, hh1⟩, hrt⟩
          exact .inl ⟨_, m, h', fun k => skB gs (.slice av P.length cv) P k, gs, HE.out.symm, rfl, hide_ ⟨_, P, hM, rfl, fun k h => h, fun k h => hM.lies h⟩, HB⟩
end Go.Proofs.Ytcmkdkocponpiaa

/- mortiselaw22: awake. -/
namespace Go.Proofs.Ytcmkdkocponpiaa
open Go.RowKit
set_option linter.unusedVariables false

abbrev fA : Fr := ⟨3, 7, 0, -1, -1, 0, []⟩
abbrev fB : Fr := ⟨3, 7, 9, 300, 0, 2, [12, 300]⟩
/-- A stack, and three blocks beside it that stay. -/
structure AwM (w0 w : World) (F : Nat → Prop) (g : Nat) (fs : List Fr) (m h : Int) (ga gt gb : Nat) : Prop where
  st : Stk w w0.heap.size F g fs m h
  ka : Blk w ga 39 (frc (fA, .slice none 0 0))
  kt : Blk w gt 3 [.int .i64 12, .int .i64 300]
  kb : Blk w gb 39 (frc (fB, .slice (some ⟨gt, 0, none⟩) 2 2))
  na : ¬ F ga
  nt : ¬ F gt
  nb : ¬ F gb
  bl : Below w0.heap.size w0 w
theorem AwM.later {w0 w w' : World} {F : Nat → Prop} {g : Nat} {fs : List Fr} {m h : Int} {ga gt gb : Nat} (H : AwM w0 w F g fs m h ga gt gb) (hB : Below w.heap.size w w') : AwM w0 w' F g fs m h ga gt gb :=
  ⟨H.st.later hB, H.ka.later hB, H.kt.later hB, H.kb.later hB, H.na, H.nt, H.nb, below_to H.bl hB⟩
theorem AwM.to {w0 w w' : World} {F : Nat → Prop} {g : Nat} {fs fs' : List Fr} {m h h' : Int} {ga gt gb : Nat} (H : AwM w0 w F g fs m h ga gt gb) (hto : StkTo w w0.heap.size F w' g fs' m h') : ∃ F', AwM w0 w' F' g fs' m h' ga gt gb := by
  obtain ⟨F', h1, h2, h3⟩ := hto
  refine ⟨F', h1, H.ka.upd h2 H.na, H.kt.upd h2 H.nt, H.kb.upd h2 H.nb, ?_, ?_, ?_, H.bl.trans (h2.below w0.heap.size H.bl.size (fun k hk => (H.st.lt hk).1))⟩
  · intro e
    rcases h3 _ e with h4 | h4
    · exact H.na h4
    · have := H.ka.lt; omega
  · intro e
    rcases h3 _ e with h4 | h4
    · exact H.nt h4
    · have := H.kt.lt; omega
  · intro e
    rcases h3 _ e with h4 | h4
    · exact H.nb h4
    · have := H.kb.lt; omega
theorem AwM.upd {w0 w w' : World} {F S : Nat → Prop} {g : Nat} {fs : List Fr} {m h : Int} {ga gt gb : Nat} (H : AwM w0 w F g fs m h ga gt gb) (hu : Upd S w w') (h1 : ∀ k, F k → ¬ S k) (h2 : ¬ S ga) (h3 : ¬ S gt) (h4 : ¬ S gb) (hb : Below w0.heap.size w w') : AwM w0 w' F g fs m h ga gt gb :=
  ⟨H.st.upd hu h1, H.ka.upd hu h2, H.kt.upd hu h3, H.kb.upd hu h4, H.na, H.nt, H.nb, H.bl.trans hb⟩
theorem two_last {l : List Fr} {y : Fr} (h : [fA, fB] = l ++ [y]) : l = [fA] ∧ y = fB := by
  have h1 := List.append_inj' (s₁ := [fA]) (t₁ := [fB]) h rfl
  exact ⟨h1.1.symm, by have := h1.2; simp only [List.cons.injEq, and_true] at this; exact this.symm⟩
theorem AwM.fra {w0 w : World} {F : Nat → Prop} {g : Nat} {fs : List Fr} {m h : Int} {ga gt gb : Nat} (H : AwM w0 w F g fs m h ga gt gb) : FrA w fB (some ⟨gt, 0, none⟩) 2 :=
  ⟨Row.mk (fun i hi => by
    have h := H.kt.cell i
    rw [Nat.zero_add, h]
    have hi' : i < 2 := hi
    rcases (show i = 0 ∨ i = 1 by omega) with rfl | rfl <;> rfl), fun h => (by cases h), by decide⟩
theorem fra_nil (w : World) (f : Fr) (h : f.T = []) : FrA w f none 0 := ⟨.inl ⟨rfl, h⟩, fun _ => rfl, by rw [h]; exact Nat.zero_le _⟩
theorem sv_two : sv [fA, fB] 2 2 = [102, 2, 2, 2, 3, 7, 0, 0, 0, 0, 0, 3, 7, 9, 173, 2, 1, 2, 2, 12, 172, 2] := by decide +kernel
theorem sk_two : SkOk [fA, fB] 2 2 := ⟨by decide, by decide, by decide, fun f hf => by
  simp only [List.mem_cons, List.not_mem_nil, or_false] at hf
  rcases hf with rfl | rfl <;> decide⟩
set_option maxRecDepth 100000 in
set_option maxHeartbeats 32000000 in
theorem awake_any (w : World) : Calls Try.prog 6 #[] w fun e w' => e = .returned (.bool true) ∧ Below w.heap.size w w' := by
  have HNum : Hid (∀ (n : Int) w', Calls Try.prog 10 #[.int .i64 n] w' fun e w'' => e = .returned (.int .i64 n) ∧ w' = w'') := hide_ (fun n w' => num_any n w')
  go_enter Try.func6, Try.ntmps6
  go_wp2_with fail
  refine (new_any 2 w).mono ?_
  rintro e w1 (⟨hbad, -, -⟩ | ⟨-, -, F1, rfl, hS1, hB1⟩)
  · exact absurd ⟨by decide, by decide⟩ hbad
  have HS1 := hide_ hS1
  have HB1 := hide_ hB1
  clear hS1 hB1
  go_wp2_with fail
  refine (new_any 0 w1).mono ?_
  rintro e w1' (⟨-, rfl, rfl⟩ | ⟨hbad, -⟩)
  rotate_left
  · omega
  obtain ⟨w4, hw4⟩ : ∃ wx, wx = ((w1.alloc (.cells #[.int .i64 3, .int .i64 7, .int .i64 0, .int .i64 (-1), .int .i64 (-1), .int .i64 0, .slice none 0 0] 39)).alloc (.cells #[.int .i64 12, .int .i64 300] 3)).alloc (.cells #[.int .i64 3, .int .i64 7, .int .i64 9, .int .i64 300, .int .i64 0, .int .i64 2, .slice (some ⟨w1.heap.size + 1, 0, none⟩) 2 2] 39) := ⟨_, rfl⟩
  have HA4 : Hid (AwM w w4 F1 w.heap.size [] 2 0 w1.heap.size (w1.heap.size + 1) (w1.heap.size + 1 + 1)) := hide_ (by
    obtain ⟨k1, k2⟩ := blk2 w1 #[.int .i64 3, .int .i64 7, .int .i64 0, .int .i64 (-1), .int .i64 (-1), .int .i64 0, .slice none 0 0] #[.int .i64 12, .int .i64 300] 39 3
    have hb : Below w1.heap.size w1 w4 := by rw [hw4]; exact (below2 w1 _ _).alloc (by simp; omega) _
    have hn : ∀ k, w1.heap.size ≤ k → ¬ F1 k := fun k hk e => by have := (HS1.out.lt e).2; omega
    refine ⟨HS1.out.later hb, by rw [hw4]; exact k1.alloc _, by rw [hw4]; exact k2.alloc _, ?_, hn _ (Nat.le_refl _), hn _ (by omega), hn _ (by omega), below_to HB1.out hb⟩
    have h3 := Blk.newA ((w1.alloc (.cells #[.int .i64 3, .int .i64 7, .int .i64 0, .int .i64 (-1), .int .i64 (-1), .int .i64 0, .slice none 0 0] 39)).alloc (.cells #[.int .i64 12, .int .i64 300] 3)) #[.int .i64 3, .int .i64 7, .int .i64 9, .int .i64 300, .int .i64 0, .int .i64 2, .slice (some ⟨w1.heap.size + 1, 0, none⟩) 2 2] 39
    rw [hw4]
    simpa [frc] using h3)
  go_upto_region 7 with (go_at_call 10; refine (HNum.out _ _).mono ?_; rintro e w' ⟨rfl, rfl⟩)
  rw [← hw4]
  clear hw4 HS1 HB1
  generalize w1.heap.size = ga at *
  have a0 := HA4.out.ka.cell 0; have a1 := HA4.out.ka.cell 1; have a2 := HA4.out.ka.cell 2; have a3 := HA4.out.ka.cell 3; have a4 := HA4.out.ka.cell 4; have a5 := HA4.out.ka.cell 5; have a6 := HA4.out.ka.cell 6
  simp [frc] at a0 a1 a2 a3 a4 a5 a6
  go_wp2_with fail
  refine (push_any w4 w.heap.size F1 w.heap.size [] 2 0 fA none 0 (hide_ HA4.out.st) (hide_ (fra_nil w4 fA rfl)) HA4.out.bl.size).mono ?_
  rintro e w5 (⟨hb, -, -⟩ | ⟨-, hb, -, -⟩ | ⟨-, -, rfl, hto⟩)
  · simp at hb
  · exact absurd hb (by decide)
  obtain ⟨F5, hA5⟩ := HA4.out.to hto
  have HA5 : Hid (AwM w w5 F5 w.heap.size [fA] 2 1 ga (ga + 1) (ga + 1 + 1)) := hide_ (by
    have e : max (0 : Int) 1 = 1 := by decide
    have h := hA5
    simp at h
    rw [e] at h
    exact h)
  clear a0 a1 a2 a3 a4 a5 a6 hto hA5 HA4
  have b0 := HA5.out.kb.cell 0; have b1 := HA5.out.kb.cell 1; have b2 := HA5.out.kb.cell 2; have b3 := HA5.out.kb.cell 3; have b4 := HA5.out.kb.cell 4; have b5 := HA5.out.kb.cell 5; have b6 := HA5.out.kb.cell 6
  simp [frc] at b0 b1 b2 b3 b4 b5 b6
  go_wp2_with (go_at_call 10; refine (HNum.out _ _).mono ?_; rintro e w' ⟨rfl, rfl⟩)
  refine (push_any w5 w.heap.size F5 w.heap.size [fA] 2 1 fB (some ⟨ga + 1, 0, none⟩) 2 (hide_ HA5.out.st) (hide_ HA5.out.fra) HA5.out.bl.size).mono ?_
  rintro e w6 (⟨hb, -, -⟩ | ⟨-, hb, -, -⟩ | ⟨-, -, rfl, hto⟩)
  · simp at hb
  · exact absurd hb (by decide)
  obtain ⟨F6, hA6⟩ := HA5.out.to hto
  have HA6 : Hid (AwM w w6 F6 w.heap.size [fA, fB] 2 2 ga (ga + 1) (ga + 1 + 1)) := hide_ (by
    have e : max (1 : Int) 2 = 2 := by decide
    have h := hA6
    simp at h
    rw [e] at h
    exact h)
  clear b0 b1 b2 b3 b4 b5 b6 hto hA6 HA5
  have a0 := HA6.out.ka.cell 0; have a1 := HA6.out.ka.cell 1; have a2 := HA6.out.ka.cell 2; have a3 := HA6.out.ka.cell 3; have a4 := HA6.out.ka.cell 4; have a5 := HA6.out.ka.cell 5; have a6 := HA6.out.ka.cell 6
  simp [frc] at a0 a1 a2 a3 a4 a5 a6
  go_wp2_with (go_at_call 10; refine (HNum.out _ _).mono ?_; rintro e w' ⟨rfl, rfl⟩)
  refine (push_any w6 w.heap.size F6 w.heap.size [fA, fB] 2 2 fA none 0 (hide_ HA6.out.st) (hide_ (fra_nil w6 fA rfl)) HA6.out.bl.size).mono ?_
  rintro e w7 (⟨-, rfl, hto⟩ | ⟨hb, -, -, -⟩ | ⟨hb, -, -, -⟩)
  rotate_left
  · simp at hb
  · simp at hb
  obtain ⟨F7, hA7⟩ := HA6.out.to hto
  have HA7 := hide_ hA7
  clear a0 a1 a2 a3 a4 a5 a6 hto hA7 HA6
  have HLen := hide_ (lenS HA7.out.st (z := 2) rfl)
  have HHi := hide_ (highS HA7.out.st)
  go_wp2_with (first | (go_at_call 10; refine (HNum.out _ _).mono ?_; rintro e w' ⟨rfl, rfl⟩) | (go_at_call 11; refine HLen.out.mono ?_; rintro e w' ⟨rfl, rfl⟩) | (go_at_call 12; refine HHi.out.mono ?_; rintro e w' ⟨rfl, rfl⟩))
  refine (slots_any w7 w.heap.size F7 w.heap.size [fA, fB] 2 2 (hide_ HA7.out.st)).mono ?_
  rintro e w8 ⟨rfl, hB8⟩
  have HA8 := hide_ (HA7.out.later hB8)
  have hl2 : ((lastT [fA, fB]).length : Int) = 2 := rfl
  rw [hl2]
  clear hl2 hB8 HA7 HLen HHi
  go_wp2_with fail
  refine (slot_any w8 w.heap.size F7 w.heap.size [fA, fB] 2 2 1 (hide_ HA8.out.st)).mono ?_
  rintro e w9 (⟨hb, -, -⟩ | ⟨-, hb, -, -⟩ | ⟨-, -, -, rfl, hB9⟩)
  · cases hb
  · exact absurd ⟨by decide, by decide⟩ hb
  have HA9 := hide_ (HA8.out.later hB9)
  have hsl : (lastT [fA, fB]).getD (1 : Int).toNat 0 = 300 := rfl
  rw [hsl]
  clear hsl hB9 HA8
  go_wp2_with fail
  refine (save_any w9 w.heap.size F7 w.heap.size [fA, fB] 2 2 (hide_ HA9.out.st)).mono ?_
  rintro e w10 ⟨v, rfl, hO, hB10⟩
  have HA10 := hide_ (HA9.out.later hB10)
  have HWg : Hid (w.heap.size ≤ w10.heap.size) := hide_ HA10.out.bl.size
  obtain ⟨ac, cc, hv, hrow, hnil, hcc, hcm⟩ := BOwn.row hO
  subst hv
  unfold maxLen at hcm
  rw [sv_two] at hrow hcc
  have hlen : (sv [fA, fB] 2 2).length = 22 := by rw [sv_two]; rfl
  rw [hlen]
  have HRow := hide_ hrow
  clear hO hB10 HA9 hrow hlen
  have hby : Bys [102, 2, 2, 2, 3, 7, 0, 0, 0, 0, 0, 3, 7, 9, 173, 2, 1, 2, 2, 12, 172, 2] := by unfold Bys; decide
  have HLd := hide_ (load_any ac cc [102, 2, 2, 2, 3, 7, 0, 0, 0, 0, 0, 3, 7, 9, 173, 2, 1, 2, 2, 12, 172, 2] w10 HRow hnil (hide_ hby) hcc hcm)
  have HD : Hid (ldP [102, 2, 2, 2, 3, 7, 0, 0, 0, 0, 0, 3, 7, 9, 173, 2, 1, 2, 2, 12, 172, 2] = .ok ([fA, fB], 2, 2)) := hide_ (by
    have h := ldC sk_two [] 22 (by rw [List.append_nil, sv_two]; decide)
    rw [List.append_nil, sv_two] at h
    exact h)
  clear hby hcc
  go_wp2_with fail
  refine HLd.out.mono ?_
  rintro e w11 (⟨fs, m, h, F2, gs, hx, rfl, HS2, HB11⟩ | ⟨er, at_, hx, -, -⟩)
  rotate_left
  · rw [HD.out] at hx; cases hx
  rw [HD.out] at hx
  injection hx with hx
  injection hx with e1 hx
  injection hx with e2 e3
  subst e1 e2 e3
  have HA11 := hide_ (HA10.out.later HB11.out)
  have HRow11 := hide_ (HRow.out.later HB11.out)
  have HFl : Hid (∀ k, F2 k → w10.heap.size ≤ k ∧ k < w11.heap.size) := hide_ (fun k hk => HS2.out.lt hk)
  have HL10 : Hid ((∀ k, F7 k → k < w10.heap.size) ∧ ga < w10.heap.size ∧ ga + 1 < w10.heap.size ∧ ga + 1 + 1 < w10.heap.size) := hide_ ⟨fun k hk => (HA10.out.st.lt hk).2, HA10.out.ka.lt, HA10.out.kt.lt, HA10.out.kb.lt⟩
  obtain ⟨w12, hw12⟩ : ∃ wx, wx = w11.alloc (.cells #[.int .i64 0, .int .i64 0] 31) := ⟨_, rfl⟩
  have hB12 : Below w11.heap.size w11 w12 := by rw [hw12]; exact below1 _ _
  have kf : Blk w12 w11.heap.size 31 [.int .i64 0, .int .i64 0] := by rw [hw12]; exact Blk.newA w11 _ _
  have f0 := kf.cell 0
  simp at f0
  have HA12 := hide_ (HA11.out.later hB12)
  have HS12 := hide_ (HS2.out.later hB12)
  have hcv : (convert 23 9 (.slice ac 22 cc)).run Try.prog w12 = .ok (.string ⟨#[102, 2, 2, 2, 3, 7, 0, 0, 0, 0, 0, 3, 7, 9, 173, 2, 1, 2, 2, 12, 172, 2]⟩) w12 := conv_row E23 Try.underlying9 w12 ac 22 cc [102, 2, 2, 2, 3, 7, 0, 0, 0, 0, 0, 3, 7, 9, 173, 2, 1, 2, 2, 12, 172, 2] rfl (HRow11.out.later hB12)
  have HB12s : Hid (w11.heap.size ≤ w12.heap.size) := hide_ hB12.size
  have HB11s : Hid (w10.heap.size ≤ w11.heap.size) := hide_ HB11.out.size
  clear hB12 kf HA10 HA11 HRow HRow11 HS2 HB11 HLd HD
  go_upto_region 12 with fail
  rw [← hw12]
  clear hw12
  go_wp2_with (go_at_call 10; refine (HNum.out _ _).mono ?_; rintro e w' ⟨rfl, rfl⟩)
  refine (pop_any w12 w10.heap.size F2 gs [fA, fB] 2 2 HS12 (by have := HB12s.out; have := HB11s.out; omega)).mono ?_
  rintro e w13 (⟨hb, -⟩ | ⟨l, f, a2, c2, hfs, rfl, HI13, -, HU13⟩)
  · cases hb
  obtain ⟨rfl, rfl⟩ := two_last hfs
  have HA13 : Hid (AwM w w13 F7 w.heap.size [fA, fB] 2 2 ga (ga + 1) (ga + 1 + 1)) := hide_ (by
    obtain ⟨l1, l2, l3, l4⟩ := HL10.out
    refine HA12.out.upd HU13.out (fun k hk e => ?_) (fun e => ?_) (fun e => ?_) (fun e => ?_) (HU13.out.below w.heap.size HA12.out.bl.size (fun k hk => ?_))
    · have := (HFl.out k e).1; have := l1 k hk; omega
    · have := (HFl.out _ e).1; omega
    · have := (HFl.out _ e).1; omega
    · have := (HFl.out _ e).1; omega
    · have h1 := (HFl.out k hk).1
      have h3 := HWg.out
      omega)
  clear HA12 HU13 HS12 hfs hcv f0
  obtain ⟨w14, hw14⟩ : ∃ wx, wx = w13.alloc (.cells #[.int .i64 3, .int .i64 7, .int .i64 9, .int .i64 300, .int .i64 0, .int .i64 2, .slice a2 2 c2] 39) := ⟨_, rfl⟩
  have hB14 : Below w13.heap.size w13 w14 := by rw [hw14]; exact below1 _ _
  have K14 : Hid (Blk w14 w13.heap.size 39 (frc (fB, .slice a2 2 c2))) := hide_ (by rw [hw14]; exact Blk.newA w13 _ _)
  have HA14 := hide_ (HA13.out.later hB14)
  have HI14 := hide_ (HI13.out.later hB14)
  clear hB14 HA13 HI13
  go_upto_region 15 with fail
  rw [← hw14]
  clear hw14
  go_wp2_with fail
  refine (head_any w14 w.heap.size F7 w.heap.size [fA, fB] 2 2 (hide_ HA14.out.st)).mono ?_
  rintro e w15 (⟨hb, -⟩ | ⟨l, f, hfs, rfl, hB15⟩)
  · cases hb
  obtain ⟨rfl, rfl⟩ := two_last hfs
  have HA15 := hide_ (HA14.out.later hB15)
  have HI15 := hide_ (HI14.out.later hB15)
  have K15 := hide_ (K14.out.later hB15)
  obtain ⟨w16, hw16⟩ : ∃ wx, wx = w15.alloc (.cells #[.int .i64 3, .int .i64 7, .int .i64 9, .int .i64 300, .int .i64 0, .int .i64 2, .slice none 0 0] 39) := ⟨_, rfl⟩
  have hB16 : Below w15.heap.size w15 w16 := by rw [hw16]; exact below1 _ _
  have J16 : Hid (Blk w16 w15.heap.size 39 (frc (⟨3, 7, 9, 300, 0, 2, []⟩, .slice none 0 0))) := hide_ (by rw [hw16]; exact Blk.newA w15 _ _)
  have HA16 := hide_ (HA15.out.later hB16)
  have HI16 := hide_ (HI15.out.later hB16)
  have K16 := hide_ (K15.out.later hB16)
  clear hB15 hB16 HA14 HI14 K14 HA15 HI15 K15 hfs
  go_upto_region 16 with fail
  rw [← hw16]
  clear hw16
  have y0 := K16.out.cell 0; have y1 := K16.out.cell 1; have y2 := K16.out.cell 2; have y3 := K16.out.cell 3; have y4 := K16.out.cell 4; have y5 := K16.out.cell 5; have y6 := K16.out.cell 6
  have b0 := HA16.out.kb.cell 0; have b1 := HA16.out.kb.cell 1; have b2 := HA16.out.kb.cell 2; have b3 := HA16.out.kb.cell 3; have b4 := HA16.out.kb.cell 4; have b5 := HA16.out.kb.cell 5; have b6 := HA16.out.kb.cell 6
  simp [frc] at y0 y1 y2 y3 y4 y5 y6
  simp [frc] at b0 b1 b2 b3 b4 b5 b6
  have hfy : FrA w16 fB a2 c2 := by
    obtain ⟨a9, c9, h9, hf9⟩ := HI16.out.fra (f := fB)
    injection h9 with h91 _ h93
    subst h91 h93
    exact hf9
  have HSame := hide_ (same_yes fB a2 (some ⟨ga + 1, 0, none⟩) c2 2 w16 (hide_ hfy) (hide_ HA16.out.fra))
  clear hfy
  go_wp2_with (go_at_call 10; refine (HNum.out _ _).mono ?_; rintro e w' ⟨rfl, rfl⟩)
  refine HSame.out.mono ?_
  rintro e w17 ⟨rfl, hB17⟩
  have HA17 := hide_ (HA16.out.later hB17)
  have J17 := J16.out.later hB17
  clear y0 y1 y2 y3 y4 y5 y6
  clear b0 b1 b2 b3 b4 b5 b6
  have z5 := J17.cell 5; have z6 := J17.cell 6
  simp [frc] at z5 z6
  have a0 := HA17.out.ka.cell 0; have a1 := HA17.out.ka.cell 1; have a2 := HA17.out.ka.cell 2; have a3 := HA17.out.ka.cell 3; have a4 := HA17.out.ka.cell 4; have a5 := HA17.out.ka.cell 5; have a6 := HA17.out.ka.cell 6
  simp [frc] at a0 a1 a2 a3 a4 a5 a6
  clear HSame hB17 J17 HA16
  go_wp2_with (go_at_call 10; refine (HNum.out _ _).mono ?_; rintro e w' ⟨rfl, rfl⟩)
  refine (go_any w17 w.heap.size F7 w.heap.size [fA, fB] 2 2 fA none 0 0 (hide_ HA17.out.st) HA17.out.bl.size).mono ?_
  rintro e w18 (⟨hb, -⟩ | ⟨-, hb, -⟩ | ⟨l, y, hfs, -, rfl, hto⟩)
  · cases hb
  · exact absurd hb (by decide)
  obtain ⟨rfl, rfl⟩ := two_last hfs
  obtain ⟨F18, hA18⟩ := HA17.out.to hto
  have HA18 := hide_ hA18
  clear a0 a1 a2 a3 a4 a5 a6
  clear z5 z6 hfs hto hA18 HA17
  go_wp2_with (go_at_call 10; refine (HNum.out _ _).mono ?_; rintro e w' ⟨rfl, rfl⟩)
  refine (mark_any w18 w.heap.size F18 w.heap.size ([fA] ++ [hdf fA [12, 300]]) 2 2 301 (hide_ HA18.out.st) HA18.out.bl.size).mono ?_
  rintro e w19 (⟨hb, -⟩ | ⟨-, hb, -⟩ | ⟨-, -, hb, -⟩ | ⟨l, y, hfs, -, -, rfl, hto⟩)
  · simp at hb
  · exact absurd hb (by decide)
  · exact absurd hb (by decide)
  have hyl : y = hdf fA [12, 300] := by
    have h1 := List.append_inj' hfs rfl
    have := h1.2
    simp only [List.cons.injEq, and_true] at this
    exact this.symm
  subst hyl
  obtain ⟨F19, hA19⟩ := HA18.out.to hto
  have HA19 := hide_ hA19
  clear hfs hto hA19 HA18
  have HSl : Hid (Calls Try.prog 20 #[.pointer (some ⟨w.heap.size, 0, none⟩)] w19 fun e w' => e = .returned (.int .i64 3) ∧ Below w19.heap.size w19 w') := hide_ (by
    have h := slots_any w19 w.heap.size F19 w.heap.size (l ++ [hdf (hdf fA [12, 300]) ((hdf fA [12, 300]).T ++ [301])]) 2 2 (hide_ HA19.out.st)
    rw [lastT_app] at h
    exact h)
  go_wp2_with (go_at_call 10; refine (HNum.out _ _).mono ?_; rintro e w' ⟨rfl, rfl⟩)
  refine HSl.out.mono ?_
  rintro e w20 ⟨rfl, hB20⟩
  have HBf := hide_ (below_to HA19.out.bl hB20)
  clear hB20
  go_wp2_with fail
  go_ret
  exact ⟨rfl, HBf.out⟩
end Go.Proofs.Ytcmkdkocponpiaa
