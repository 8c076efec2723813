/- Parse's answer. -/
import Derived.Test.YtokepgimjdalaaaSo
namespace Go.Proofs.Ytokepgimjdalaaa
open Go.RowKit
set_option linter.unusedVariables false

theorem cut_few (s : ByteArray) : (cutT s).1.length ≤ 65536 := by
  have key : ∀ (l : List UInt8) (p : Nat), (cut l p).1.length ≤ l.length := by
    intro l p
    refine cut_ind (fun l p => (cut l p).1.length ≤ l.length) ?_ ?_ ?_ ?_ ?_ ?_ l p
    · intro p; simp [cut_nil]
    · intro c r p hb ih; rw [cut_blank r p hb]; simp; omega
    · intro c r p hs h2; rw [cut_end p hs h2]; simp
    · intro c r d s p hs h2 h3 ih; rw [cut_rem p hs h2 h3]; simp; omega
    · intro c r p hb hs he; rw [cut_bad r p hb hs he]; simp
    · intro w s p hw ho ih
      rw [cut_word hw ho p]
      have := hw.pos
      unfold app
      split
      · simp; omega
      · simp; omega
  unfold cutT
  split
  · simp
  · have := key s.data.toList 0
    rw [← Lib.size_eq] at this
    omega
/-- Parse's answer: the source, in new memory, and the fault. -/
def PrsTo (s : ByteArray) (w : World) (e : Ending) (w' : World) : Prop :=
  ∃ vd vs, e = .returned (.tuple #[.agg #[vd], .agg #[.int .i64 (prsT s).2.1, .int .i64 (prsT s).2.2]]) ∧ Hid (Src w' w.heap.size vd (prsT s).1 vs ∧ (prsT s).1.length ≤ 256) ∧ Hid (Below w.heap.size w w')
theorem retP {R : Ending → World → Prop} {tmps : Array Value} {b1 b2 : Nat} {w : World} {v x y : Value} (hp : tmps.getD 2 undef = .pointer (some ⟨b1, 0, none⟩)) (hq : tmps.getD 3 undef = .pointer (some ⟨b2, 0, none⟩)) (h1 : Blk w b1 25 [v]) (h2 : Blk w b2 28 [x, y]) (hR : R (.returned (.tuple #[.agg #[v], .agg #[x, y]])) w) :
    Leaves Try.prog Try.f10 tmps R [] .returning w :=
  ⟨_, results_cells rfl _ _ _ _ #[v] #[x, y] _ _ _ _ hp hq h1 h2 Try.underlying25 rfl (by show _ = some 1; kernel_rfl) Try.underlying28 rfl (by show _ = some 2; kernel_rfl), hR⟩
theorem own_base {w : World} {B B' n c : Nat} {e : TypeId} {v : Value} {xs : List Value} (h : w.ownsRow B e c v n xs) (hb : B' ≤ B) : w.ownsRow B' e c v n xs := by
  refine ⟨h.1, ?_⟩
  rcases h.2 with h | ⟨g, cap, cur, rfl, hg, rest⟩
  · exact .inl h
  · exact .inr ⟨g, cap, cur, rfl, Nat.le_trans hb hg, rest⟩
theorem prs_bad {s : ByteArray} (h : (cutT s).2.1 ≠ 0) : prsT s = ([], (cutT s).2.1, (cutT s).2.2) := by unfold prsT; rw [if_neg h]
theorem prs_ok {s : ByteArray} (h : (cutT s).2.1 = 0) {D : List Df} (hr : srcP ((cutT s).1.map core) 257 [] 0 = .ok D) : prsT s = (D.map (dfP (cutT s).1 s.size), 0, 0) := by unfold prsT prsP; rw [if_pos h, hr]
theorem prs_err {s : ByteArray} (h : (cutT s).2.1 = 0) {y : Nat × Nat} (hr : srcP ((cutT s).1.map core) 257 [] 0 = .error y) : prsT s = ([], y.1, plc (cutT s).1 s.size y.2) := by unfold prsT prsP; rw [if_pos h, hr]
theorem below_set {B : Nat} {w w' : World} (h : Below B w w') (b i : Nat) (v : Value) (hb : B ≤ b) : Below B w (w'.setCell ⟨b, i, none⟩ v) := h.setCell hb v
theorem par_new {w : World} {B : Nat} {v : Value} {ts : List Tk} (h : w.ownsRow B 42 5 v ts.length (cellsT ts)) (hB : B ≤ w.heap.size) (hl : ts.length ≤ 65536) (L : Nat) :
    Par (w.alloc (.cells #[v, .int .i64 0, .int .i64 L, .slice none 0 0] 64)) B w.heap.size v ts L 0 (.slice none 0 0) [] :=
  ⟨Blk.newA w #[v, .int .i64 0, .int .i64 L, .slice none 0 0] 64, ownS_upd h (Upd.of_below (S := fun _ => False) ((Below.refl _ _).alloc (Nat.le_refl _) _)) (fun _ _ h => h), World.ownsRow_nil _ _ _ _, hB, Nat.zero_le _, hl⟩
set_option maxRecDepth 100000 in
set_option maxHeartbeats 8000000 in
theorem parse_any (s : ByteArray) (w : World) : Calls Try.prog 10 #[.string s] w fun e w' => PrsTo s w e w' := by
  have hmf : ∀ (fn : Fn) (first cap : Array Value) (w : World), (Instr.makeFunc fn first cap).run Try.prog w = .ok (.func fn first cap) w := fun _ _ _ _ => rfl
  obtain ⟨wa, hwa⟩ : ∃ wa, wa = (w.alloc (.cells #[.slice none 0 0] 25)).alloc (.cells #[.int .i64 0, .int .i64 0] 28) := ⟨_, rfl⟩
  have k1 : Blk wa w.heap.size 25 [.slice none 0 0] := by rw [hwa]; exact (Blk.newA w #[.slice none 0 0] 25).alloc _
  have k2 : Blk wa (w.heap.size + 1) 28 [.int .i64 0, .int .i64 0] := by
    have h := Blk.newA (w.alloc (.cells #[.slice none 0 0] 25)) #[.int .i64 0, .int .i64 0] 28
    rw [hwa]
    simpa using h
  have hBa : Below w.heap.size w wa := by rw [hwa]; exact ((Below.refl _ _).alloc (Nat.le_refl _) _).alloc (by simp) _
  have hsz : wa.heap.size = w.heap.size + 2 := by rw [hwa]; simp
  have HCt := hide_ (cut_any s wa)
  have hfew := cut_few s
  by_cases hE : (cutT s).2.1 = 0
  · obtain ⟨ts, E, A, hc⟩ : ∃ ts E A, cutT s = (ts, E, A) := ⟨_, _, _, rfl⟩
    have HC := hide_ hc
    have hE0 : E = 0 := by rw [hc] at hE; exact hE
    have hA0 : A = 0 := by
      have h := (cut_form s.data.toList 0).2
      unfold cutT at hc
      split at hc
      · injection hc with h1 h2
        injection h2 with h2 h3
        exact h3.symm
      · rw [hc] at h
        exact h hE0
    subst hE0 hA0
    have HPr : Hid ((∀ D, srcP (ts.map core) 257 [] 0 = .ok D → prsT s = (D.map (dfP ts s.size), 0, 0)) ∧ ∀ y, srcP (ts.map core) 257 [] 0 = .error y → prsT s = ([], y.1, plc ts s.size y.2)) := ⟨fun D h => by have h2 := prs_ok hE (D := D) (by rw [hc]; exact h); rw [hc] at h2; exact h2, fun y h => by have h2 := prs_err hE (y := y) (by rw [hc]; exact h); rw [hc] at h2; exact h2⟩
    have HK1 := hide_ k1; have HK2 := hide_ k2; have HB := hide_ hBa; have HS := hide_ hsz
    have hts : ts.length ≤ 65536 := by rw [hc] at hfew; exact hfew
    clear k1 k2 hBa hsz hc hE hfew
    go_enter_defers Try.func10, Try.ntmps10
    go_wp2_with fail
    rw [← hwa]
    clear hwa
    refine HCt.out.mono ?_; rintro e w2 ⟨v, rfl, HV, HB2⟩
    rw [HC.out] at HV ⊢
    have K1 := hide_ (HK1.out.later HB2.out)
    have K2 := hide_ (HK2.out.later HB2.out)
    have HBb := hide_ (HB.out.trans (HB2.out.mono HB.out.size))
    have c0 := K2.out.cell 0; have c1 := K2.out.cell 1
    have z0 := K2.out.frozen 0; have z1 := K2.out.frozen 1
    simp at c0 c1
    have n1 : ¬ w.heap.size = w.heap.size + 1 := by omega
    have n2 : ¬ w.heap.size + 1 = w.heap.size := by omega
    obtain ⟨va, vc, hva⟩ := own_slice HV.out
    have HVb := hide_ (own_base (B' := w.heap.size) HV.out (by rw [HS.out]; omega))
    have K1c := hide_ ((K1.out.other ⟨w.heap.size + 1, 0, none⟩ (.int .i64 0) n1).other ⟨w.heap.size + 1, 1, none⟩ (.int .i64 0) n1)
    have K2c := hide_ ((K2.out.set 0 (.int .i64 0)).set 1 (.int .i64 0))
    have hU : Upd (fun k => k = w.heap.size + 1) w2 ((w2.setCell ⟨w.heap.size + 1, 0, none⟩ (.int .i64 0)).setCell ⟨w.heap.size + 1, 1, none⟩ (.int .i64 0)) := ((Upd.refl (fun k => k = w.heap.size + 1) w2).set ⟨w.heap.size + 1, 0, none⟩ _ (.inl rfl)).set ⟨w.heap.size + 1, 1, none⟩ _ (.inl rfl)
    have HVc := hide_ (ownS_upd HVb.out hU (fun k hk e => by
      obtain ⟨ys, hy⟩ := ownS_type HVb.out hk
      subst e
      exact absurd (blk_type hy K2.out) (by decide)))
    have hle : w.heap.size ≤ w.heap.size + 1 := by omega
    have HBc := hide_ (below_set (below_set HBb.out (w.heap.size + 1) 0 (.int .i64 0) hle) (w.heap.size + 1) 1 (.int .i64 0) hle)
    have hs2 := K2.out.lt
    obtain ⟨w3, hw3⟩ : ∃ w3, w3 = (w2.setCell ⟨w.heap.size + 1, 0, none⟩ (.int .i64 0)).setCell ⟨w.heap.size + 1, 1, none⟩ (.int .i64 0) := ⟨_, rfl⟩
    have HS3 : Hid (w3.heap.size = w2.heap.size) := by show _ = _; rw [hw3]; simp
    rw [← hw3] at K1c K2c HVc HBc
    have HPp := par_new HVc.out HBc.out.size hts s.size
    have K1d := hide_ (K1c.out.alloc (.cells #[v, .int .i64 0, .int .i64 s.size, .slice none 0 0] 64))
    have K2d := hide_ (K2c.out.alloc (.cells #[v, .int .i64 0, .int .i64 s.size, .slice none 0 0] 64))
    have HBd := hide_ (HBc.out.alloc HBc.out.size (.cells #[v, .int .i64 0, .int .i64 s.size, .slice none 0 0] 64))
    subst hva
    obtain ⟨w4, hw4⟩ : ∃ w4, w4 = w3.alloc (.cells #[.slice va ts.length vc, .int .i64 0, .int .i64 s.size, .slice none 0 0] 64) := ⟨_, rfl⟩
    rw [← hw4] at HPp K1d K2d HBd
    have HPh := hide_ HPp
    have HSr := hide_ (source_any HPh)
    obtain ⟨r, hr⟩ : ∃ r, srcP (ts.map core) 257 [] 0 = r := ⟨_, rfl⟩
    rw [hr] at HSr HPr
    clear hU hr HPp
    have HW4 := hide_ hw4
    clear hw4
    go_upto_region 2 with fail
    rw [← hw3]
    clear hw3
    have e0 := K2c.out.cell 0; have e1 := K2c.out.cell 1
    simp at e0 e1
    go_wp2_with fail
    rw [← HW4.out]
    have hd1 := K1d.out.lt
    have hgl := HPh.out.1.lt
    have hs3' := HS3.out
    refine HSr.out.mono ?_; rintro e w5 (⟨D, vd, vs, hD, rfl, HS5, HU5⟩ | ⟨y, hy, rfl, HU5⟩)
    · have hP := HPr.out.1 D hD
      have HP := hide_ hP
      clear hP hD
      have K15 := hide_ (K1d.out.upd HU5.out (by show ¬ w.heap.size = w3.heap.size; omega))
      have K25 := hide_ (K2d.out.upd HU5.out (by show ¬ w.heap.size + 1 = w3.heap.size; omega))
      have HB5 := hide_ (HBd.out.trans (HU5.out.below w.heap.size HBd.out.size (fun k hk => by omega)))
      have c0 := K15.out.cell 0; have x0 := K15.out.frozen 0
      have d0 := K25.out.cell 0; have d1 := K25.out.cell 1
      have y0 := K25.out.frozen 0; have y1 := K25.out.frozen 1
      simp at c0 d0 d1
      clear hs3'
      obtain ⟨da, dc, hdv⟩ := own_slice HS5.out.1.2.1
      subst hdv
      go_wp2
      refine leaves_cons (f := 19) (args := #[.pointer (some ⟨w.heap.size, 0, none⟩), .pointer (some ⟨w.heap.size + 1, 0, none⟩)]) (by simp) (by simp [go_sem]) ?_
      refine (catch_idle _ _ _).mono ?_
      rintro e u' w6 ⟨rfl, rfl, rfl⟩
      have q1 := ((K15.out.set 0 (.slice da (D.map (dfP ts s.size)).length dc)).other ⟨w.heap.size + 1, 0, none⟩ (.int .i64 0) n1).other ⟨w.heap.size + 1, 1, none⟩ (.int .i64 0) n1
      have q2 := ((K25.out.other ⟨w.heap.size, 0, none⟩ (.slice da (D.map (dfP ts s.size)).length dc) n2).set 0 (.int .i64 0)).set 1 (.int .i64 0)
      have hb := below_set (below_set (below_set HB5.out w.heap.size 0 (.slice da (D.map (dfP ts s.size)).length dc) (Nat.le_refl _)) (w.heap.size + 1) 0 (.int .i64 0) hle) (w.heap.size + 1) 1 (.int .i64 0) hle
      have hu1 : Upd (fun k => k = w.heap.size) w5 (w5.setCell ⟨w.heap.size, 0, none⟩ (.slice da (D.map (dfP ts s.size)).length dc)) := (Upd.refl (fun k => k = w.heap.size) w5).set ⟨w.heap.size, 0, none⟩ _ (.inl rfl)
      have hS1 := HS5.out.1.other hu1 K15.out (by decide) (by decide)
      have kf := K25.out.other ⟨w.heap.size, 0, none⟩ (.slice da (D.map (dfP ts s.size)).length dc) n2
      have hu2 : Upd (fun k => k = w.heap.size + 1) (w5.setCell ⟨w.heap.size, 0, none⟩ (.slice da (D.map (dfP ts s.size)).length dc)) (((w5.setCell ⟨w.heap.size, 0, none⟩ (.slice da (D.map (dfP ts s.size)).length dc)).setCell ⟨w.heap.size + 1, 0, none⟩ (.int .i64 0)).setCell ⟨w.heap.size + 1, 1, none⟩ (.int .i64 0)) := ((Upd.refl (fun k => k = w.heap.size + 1) _).set ⟨w.heap.size + 1, 0, none⟩ _ (.inl rfl)).set ⟨w.heap.size + 1, 1, none⟩ _ (.inl rfl)
      have hS2 := hS1.other hu2 kf (by decide) (by decide)
      rw [List.length_map] at q1 q2 hb hS2
      show Leaves _ _ _ _ [] .returning _
      exact retP rfl rfl q1 q2 ⟨_, vs, by rw [HP.out]; rfl, hide_ (by rw [HP.out]; exact ⟨hS2, by rw [List.length_map]; exact HS5.out.2⟩), hb⟩
    · have hP := HPr.out.2 y hy
      have HP := hide_ hP
      clear hP hy
      have K15 := hide_ (K1d.out.upd HU5.out (by show ¬ w.heap.size = w3.heap.size; omega))
      have K25 := hide_ (K2d.out.upd HU5.out (by show ¬ w.heap.size + 1 = w3.heap.size; omega))
      have HB5 := hide_ (HBd.out.trans (HU5.out.below w.heap.size HBd.out.size (fun k hk => by omega)))
      clear hs3'
      unfold Flt
      go_wp2
      refine leaves_cons (f := 19) (args := #[.pointer (some ⟨w.heap.size, 0, none⟩), .pointer (some ⟨w.heap.size + 1, 0, none⟩)]) (by simp) (by simp [go_sem]) ?_
      refine (catch_panic _ _ _ _ _ _ _ _ K15.out K25.out).mono ?_
      rintro e u' w6 ⟨rfl, rfl, rfl⟩
      have q1 := (((K15.out.set 0 (.slice none 0 0)).other ⟨w.heap.size + 1, 0, none⟩ (.int .i64 y.1) n1).other ⟨w.heap.size + 1, 1, none⟩ (.int .i64 (plc ts s.size y.2)) n1).drew
      have q2 := (((K25.out.other ⟨w.heap.size, 0, none⟩ (.slice none 0 0) n2).set 0 (.int .i64 y.1)).set 1 (.int .i64 (plc ts s.size y.2))).drew
      have hb := (below_set (below_set (below_set HB5.out w.heap.size 0 (.slice none 0 0) (Nat.le_refl _)) (w.heap.size + 1) 0 (.int .i64 y.1) hle) (w.heap.size + 1) 1 (.int .i64 (plc ts s.size y.2)) hle).drew
      show Leaves _ _ _ _ [] .returning _
      exact retP rfl rfl q1 q2 ⟨_, [], by rw [HP.out], hide_ (by rw [HP.out]; exact ⟨Src.nil _ _, Nat.zero_le _⟩), hb⟩
  · have HX := hide_ (prs_bad hE)
    obtain ⟨ts, E, A, hc⟩ : ∃ ts E A, cutT s = (ts, E, A) := ⟨_, _, _, rfl⟩
    have HC := hide_ hc
    have hE' : ((E : Int) != 0) = true := by rw [hc] at hE; simp; exact hE
    have HK1 := hide_ k1; have HK2 := hide_ k2; have HB := hide_ hBa; have HS := hide_ hsz
    clear k1 k2 hBa hsz hc hE
    go_enter_defers Try.func10, Try.ntmps10
    go_wp2_with fail
    rw [← hwa]
    clear hwa
    refine HCt.out.mono ?_; rintro e w2 ⟨v, rfl, HV, HB2⟩
    rw [HC.out]
    have K1 := hide_ (HK1.out.later HB2.out)
    have K2 := hide_ (HK2.out.later HB2.out)
    have HBb := hide_ (HB.out.trans (HB2.out.mono HB.out.size))
    have c0 := K2.out.cell 0; have c1 := K2.out.cell 1
    have z0 := K2.out.frozen 0; have z1 := K2.out.frozen 1
    have d0 := K1.out.cell 0; have y0 := K1.out.frozen 0
    simp at c0 c1 d0
    have n1 : ¬ w.heap.size = w.heap.size + 1 := by omega
    have n2 : ¬ w.heap.size + 1 = w.heap.size := by omega
    go_wp2_with fail
    go_region
    go_wp2
    have q1 := (((((K1.out.other ⟨w.heap.size + 1, 0, none⟩ (.int .i64 E) n1).other ⟨w.heap.size + 1, 1, none⟩ (.int .i64 A) n1).set 0 (.slice none 0 0)).other ⟨w.heap.size + 1, 0, none⟩ (.int .i64 E) n1).other ⟨w.heap.size + 1, 1, none⟩ (.int .i64 A) n1).drew
    have q2 := (((((K2.out.set 0 (.int .i64 E)).set 1 (.int .i64 A)).other ⟨w.heap.size, 0, none⟩ (.slice none 0 0) n2).set 0 (.int .i64 E)).set 1 (.int .i64 A)).drew
    have hle : w.heap.size ≤ w.heap.size + 1 := by omega
    have hb := (below_set (below_set (below_set (below_set (below_set HBb.out (w.heap.size + 1) 0 (.int .i64 E) hle) (w.heap.size + 1) 1 (.int .i64 A) hle) w.heap.size 0 (.slice none 0 0) (Nat.le_refl _)) (w.heap.size + 1) 0 (.int .i64 E) hle) (w.heap.size + 1) 1 (.int .i64 A) hle).drew
    have hX := HX.out
    rw [HC.out] at hX
    exact retP rfl rfl q1 q2 ⟨_, [], by rw [hX], hide_ (by rw [hX]; exact ⟨Src.nil _ _, Nat.zero_le _⟩), hb⟩
end Go.Proofs.Ytokepgimjdalaaa
