import Derived.Test.YtjamfbpdepahnaaGreatPart23
namespace Go.Proofs.YtjamfbpdepahnaaGreat
open Go.RowKit
set_option linter.unusedVariables false
set_option linter.unusedSimpArgs false
structure Fm (w w' : World) (gs b : Nat) (vp vp' : Value) : Prop where
  upd : Upd (fun q => q = gs ∨ q = b ∨ vp.ownBlock = some q) w w'
  own : ∀ q, vp'.ownBlock = some q → vp.ownBlock = some q ∨ w.heap.size ≤ q
theorem Fm.of_below {w w' : World} {gs b : Nat} {vp : Value} (h : Below w.heap.size w w') : Fm w w' gs b vp vp := ⟨Upd.of_below h, fun q e => .inl e⟩
theorem Fm.trans {w w1 w2 : World} {gs b : Nat} {vp vp1 vp2 : Value} (h : Fm w w1 gs b vp vp1) (k : Fm w1 w2 gs b vp1 vp2) : Fm w w2 gs b vp vp2 := by
  refine ⟨h.upd.trans k.upd (fun q hq e => ?_), fun q e => ?_⟩
  · rcases e with e | e | e
    · exact .inl e
    · exact .inr (.inl e)
    · rcases h.own q e with e | e
      · exact .inr (.inr e)
      · omega
  · rcases k.own q e with e | e
    · exact h.own q e
    · have := h.upd.size
      exact .inr (by omega)
section
variable {w0 w w' : World} {b gs bc oc cc : Nat} {enc : Bool} {C : List In} {r : Int} {S : List St} {P : List Int} {vp : Value}
theorem LkS.pushed (h : LkS w0 w b gs bc oc cc enc C r S P vp) {x : Int} {e : Ending} (hu : HuTo w b 4 w0.heap.size vp P x e w') : e = .returned (.tuple #[]) ∧ ∃ vp', LkS w0 w' b gs bc oc cc enc C r S (pushH P x) vp' ∧ Fm w w' gs b vp vp' := by
  obtain ⟨g, c, rfl, -, hg, hn, hU, hK⟩ := hu
  refine ⟨rfl, _, ⟨below_to2 h.old hU (fun q e => ?_), h.hb, h.hgs, h.code, ?_, h.st.upd hU (fun e => ?_), h.len, hn.own⟩, ⟨hU.mono (fun q _ e => ?_), fun q e => ?_⟩⟩
  · rcases e with e | e
    · exact (h.pend.lies e).1
    · rw [e]; exact h.hb
  · have := hK _ _ h.blk
    simpa using this
  · rcases e with e | e
    · exact h.pend.neB h.st (by decide) e
    · exact h.bg e.symm
  · rcases e with e | e
    · exact .inr (.inr e)
    · exact .inr (.inl e)
  · injection e with e
    subst e
    exact hg
theorem LkS.popped {g n c : Nat} {vp' : Value} {P' : List Int} (h : LkS w0 w b gs bc oc cc enc C r S P (.slice (some ⟨g, 0, none⟩) n c)) (hn : NmS w' b 4 w0.heap.size vp' P') (hU : Upd (fun k => k = g ∨ k = b) w w') (hK : Kps w w' b 4 vp') : LkS w0 w' b gs bc oc cc enc C r S P' vp' := by
  refine ⟨below_to2 h.old hU (fun q e => ?_), h.hb, h.hgs, h.code, ?_, h.st.upd hU (fun e => ?_), h.len, hn.own⟩
  · rcases e with e | e
    · rw [e]; exact (h.pend.lies rfl).1
    · rw [e]; exact h.hb
  · have := hK _ _ h.blk
    simpa using this
  · rcases e with e | e
    · exact h.pend.neB h.st (by decide) (by rw [e]; rfl)
    · exact h.bg e.symm
end
def HdTo (w0 w : World) (vp : Value) (b gs bc oc cc : Nat) (enc : Bool) (C : List In) (r : Int) (S : List St) (P : List Int) (k : Nat) (s : St) (e : Ending) (w' : World) : Prop := ∃ vp', e = .returned (.bool (handP enc C r S P k s).1) ∧ LkS w0 w' b gs bc oc cc enc C r (handP enc C r S P k s).2.1 (handP enc C r S P k s).2.2 vp' ∧ Fm w w' gs b vp vp'
set_option maxRecDepth 100000 in
set_option maxHeartbeats 8000000 in
theorem handed_any (w0 : World) (b gs bc oc cc : Nat) (enc : Bool) (C : List In) (r : Int) (S : List St) (P : List Int) (vp : Value) (k : Nat) (s : St) (w : World) (hk : k < C.length) (hcc : C.length ≤ cc) (hcl : cc ≤ 9223372036854775807) (hC : Hid (CdOk enc C)) (hs : Hid (SOk s)) (hS : Hid (∀ j, j < C.length → SOk (stA S j))) (hP : P.length ≤ 3000000) (h : Hid (LkS w0 w b gs bc oc cc enc C r S P vp)) :
    Calls Tryz.prog 51 #[.pointer (some ⟨b, 0, none⟩), .int .i64 (k : Int), stv s] w fun e w' => HdTo w0 w vp b gs bc oc cc enc C r S P k s e w' := by
  obtain ⟨t, ht⟩ : ∃ t, S[k]? = some t := ⟨_, List.getElem?_eq_getElem (by rw [h.out.len]; exact hk)⟩
  have htA : stA S k = t := stA_at ht
  have HT : Hid (SOk t) := hide_ (by have := hS.out k hk; rw [htA] at this; exact this)
  have HtA := hide_ htA
  obtain ⟨x, hx⟩ : ∃ x, C[k]? = some x := ⟨_, List.getElem?_eq_getElem hk⟩
  have hxA : inA C k = x := inA_at hx
  have HxA := hide_ hxA
  have Hx : Hid (XOk enc x) := hide_ (by have := hC.out.ok k hk; rw [hxA] at this; exact this)
  obtain ⟨w1, hw1⟩ : ∃ wx, w.alloc (.cells #[.int .i64 s.pl, .int .u64 (s.ki : Int), .int .i64 s.tb, .int .i64 s.pa, .int .i64 s.fr, .int .i64 s.le, .bool s.su] 101) = wx := ⟨_, rfl⟩
  have hB1 : Below w.heap.size w w1 := by rw [← hw1]; exact below1 _ _
  have K1 : Blk w1 w.heap.size 101 (stc s) := by rw [← hw1]; exact Blk.newA w _ _
  obtain ⟨w2, hw2⟩ : ∃ wx, w1.alloc (.cells #[.int .i64 t.pl, .int .u64 (t.ki : Int), .int .i64 t.tb, .int .i64 t.pa, .int .i64 t.fr, .int .i64 t.le, .bool t.su] 101) = wx := ⟨_, rfl⟩
  have hB2 : Below w1.heap.size w1 w2 := by rw [← hw2]; exact below1 _ _
  have K2 : Blk w2 w1.heap.size 101 (stc t) := by rw [← hw2]; exact Blk.newA w1 _ _
  have K1' := K1.later hB2
  have L1 := h.out.later hB1
  have L2 := L1.later hB2
  obtain ⟨c0, c1, c2, c3, c4⟩ := L1.cells
  obtain ⟨t0, t1, t2, t3, t4, t5, t6⟩ := L1.at ht
  obtain ⟨d0, d1, d2, d3, d4, d5, d6⟩ := K1'.cs
  obtain ⟨e0, e1, e2, e3, e4, e5, e6⟩ := K2.cs
  have hkc : (k : Int) < (C.length : Int) := by omega
  have HL2 := hide_ L2
  have HB02 := hide_ (below_to hB1 hB2)
  have HK1 := hide_ K1'
  have HK2 := hide_ K2
  have hz : w0.heap.size ≤ w.heap.size := h.out.old.size
  have Hg1 : Hid (w.heap.size ≠ gs ∧ w1.heap.size ≠ gs) := hide_ (by
    have h1 := h.out.st.lt
    have h2 := hB1.size
    omega)
  clear hB1 K1 hB2 K2 K1' L1 L2 ht hx hxA htA h
  unfold stv
  go_enter Tryz.func51, Tryz.ntmps51
  go_upto_region 1 with fail
  try rw [hw1]
  clear hw1
  go_upto_region 2 with fail
  try rw [hw2]
  clear hw2 c0 c1 c2 c3 c4 t0 t1 t2 t3 t4 t5 t6
  obtain ⟨d, hd⟩ : ∃ d, stEq t s = d := ⟨_, rfl⟩
  have Hd := hide_ hd
  clear hd
  go_cut [17] from 15 to 17 (fun x17 wc => x17 = .bool d ∧ w2 = wc)
  case first =>
    rcases eq7g t s with q | q | q | q | q | q | q | q
    all_goals
      try obtain ⟨q0, q⟩ := q
      try obtain ⟨q1, q⟩ := q
      try obtain ⟨q2, q⟩ := q
      try obtain ⟨q3, q⟩ := q
      try obtain ⟨q4, q⟩ := q
      try obtain ⟨q5, q⟩ := q
      try obtain ⟨q6, q⟩ := q
      rw [Hd.out] at q
      have Hq := hide_ q
      clear q
      go_wp2_with fail
      go_meet
      case rel => exact ⟨by rw [Hq.out], rfl⟩
  case rest =>
  obtain ⟨rfl, rfl⟩ := hcut
  cases d
  · by_cases hp : t.pl = 0
    · have HH : Hid (handP enc C r S P k s = (true, S.set k s, pushH P (k : Int))) := hide_ (by unfold handP; rw [HtA.out, Hd.out]; simp [hp])
      have f0 : (t.pl == 0) = true := by simpa using hp
      clear hp
      obtain ⟨LP, UP⟩ := HL2.out.put hk s
      have HLP := hide_ LP
      have HFP : Hid (Fm w (putAt w2 gs (k * 7) s).drew gs b vp vp) := hide_ ((Fm.of_below HB02.out).trans ⟨(UP.mono (fun q _ e => .inl e)).then ((Below.refl _ _).drew), fun q e => .inl e⟩)
      obtain ⟨g0, g1, g2, g3, g4⟩ := HL2.out.cells
      have hst := fun i => HL2.out.st.frozen i
      obtain ⟨u0, u1, u2, u3, u4, u5, u6⟩ := HL2.out.at (k := k) (s := t) (by
        have := HtA.out
        have hl := HL2.out.len
        rw [List.getElem?_eq_getElem (by omega), ← this]; simp [stA, List.getD, show k < S.length by omega])
      have HS5 : Hid ((fun w' => w'.cell? ⟨b, 3, none⟩ = some (.slice (some ⟨gs, 0, none⟩) C.length C.length) ∧ w'.cell? ⟨w.heap.size, 0, none⟩ = some (.int .i64 s.pl) ∧ w'.cell? ⟨w.heap.size, 1, none⟩ = some (.int .u64 (s.ki : Int)) ∧ w'.cell? ⟨w.heap.size, 2, none⟩ = some (.int .i64 s.tb) ∧ w'.cell? ⟨w.heap.size, 3, none⟩ = some (.int .i64 s.pa) ∧ w'.cell? ⟨w.heap.size, 4, none⟩ = some (.int .i64 s.fr) ∧ w'.cell? ⟨w.heap.size, 5, none⟩ = some (.int .i64 s.le) ∧ w'.cell? ⟨w.heap.size, 6, none⟩ = some (.bool s.su)) w2.drew) := hide_ ⟨g3, d0, d1, d2, d3, d4, d5, d6⟩
      clear LP UP g0 g1 g2 g4
      go_wp2_with fail
      refine wp_region_last 7 (fun w' => w'.cell? ⟨b, 3, none⟩ = some (.slice (some ⟨gs, 0, none⟩) C.length C.length) ∧ w'.cell? ⟨w.heap.size, 0, none⟩ = some (.int .i64 s.pl) ∧ w'.cell? ⟨w.heap.size, 1, none⟩ = some (.int .u64 (s.ki : Int)) ∧ w'.cell? ⟨w.heap.size, 2, none⟩ = some (.int .i64 s.tb) ∧ w'.cell? ⟨w.heap.size, 3, none⟩ = some (.int .i64 s.pa) ∧ w'.cell? ⟨w.heap.size, 4, none⟩ = some (.int .i64 s.fr) ∧ w'.cell? ⟨w.heap.size, 5, none⟩ = some (.int .i64 s.le) ∧ w'.cell? ⟨w.heap.size, 6, none⟩ = some (.bool s.su)) (by kernel_rfl) (HS5.out) (fun hHeld => ?_)
      refine wpAnyF_take [7] (by kernel_rfl) (i := 0) (v := ?vp1) rfl (by kernel_rfl) (by kernel_rfl) (by kernel_rfl) (fun _ _ _ h => h) (Or.inl ⟨by kernel_rfl, ?hyp1⟩) hHeld ?restp1
      case hyp1 => intro w' hSw; (try dsimp only at hSw); go_simp; try with_reducible rfl
      simp only [Act.put]
      try dsimp only
      refine wpAnyF_take [7] (by kernel_rfl) (i := 1) (v := ?vp2) rfl (by kernel_rfl) (by kernel_rfl) (by kernel_rfl) (fun _ _ _ h => h) (Or.inl ⟨by kernel_rfl, ?hyp2⟩) hHeld ?restp2
      case hyp2 => intro w' hSw; (try dsimp only at hSw); go_simp; try with_reducible rfl
      simp only [Act.put]
      try dsimp only
      refine wpAnyF_take [7] (by kernel_rfl) (i := 2) (v := ?vp3) rfl (by kernel_rfl) (by kernel_rfl) (by kernel_rfl) (fun _ _ _ h => h) (Or.inl ⟨by kernel_rfl, ?hyp3⟩) hHeld ?restp3
      case hyp3 => intro w' hSw; (try dsimp only at hSw); go_simp; try with_reducible rfl
      simp only [Act.put]
      try dsimp only
      refine wpAnyF_take [7] (by kernel_rfl) (i := 3) (v := ?vp4) rfl (by kernel_rfl) (by kernel_rfl) (by kernel_rfl) (fun _ _ _ h => h) (Or.inl ⟨by kernel_rfl, ?hyp4⟩) hHeld ?restp4
      case hyp4 => intro w' hSw; (try dsimp only at hSw); go_simp; try with_reducible rfl
      simp only [Act.put]
      try dsimp only
      refine wpAnyF_take [7] (by kernel_rfl) (i := 4) (v := ?vp5) rfl (by kernel_rfl) (by kernel_rfl) (by kernel_rfl) (fun _ _ _ h => h) (Or.inl ⟨by kernel_rfl, ?hyp5⟩) hHeld ?restp5
      case hyp5 => intro w' hSw; (try dsimp only at hSw); go_simp; try with_reducible rfl
      simp only [Act.put]
      try dsimp only
      refine wpAnyF_take [7] (by kernel_rfl) (i := 5) (v := ?vp6) rfl (by kernel_rfl) (by kernel_rfl) (by kernel_rfl) (fun _ _ _ h => h) (Or.inl ⟨by kernel_rfl, ?hyp6⟩) hHeld ?restp6
      case hyp6 => intro w' hSw; (try dsimp only at hSw); go_simp; try with_reducible rfl
      simp only [Act.put]
      try dsimp only
      refine wpAnyF_take [7] (by kernel_rfl) (i := 6) (v := ?vp7) rfl (by kernel_rfl) (by kernel_rfl) (by kernel_rfl) (fun _ _ _ h => h) (Or.inl ⟨by kernel_rfl, ?hyp7⟩) hHeld ?restp7
      case hyp7 => intro w' hSw; (try dsimp only at hSw); go_simp; try with_reducible rfl
      simp only [Act.put]
      try dsimp only
      refine wpAnyF_ready (rs := [7]) (by kernel_rfl) (by simp) ?_
      refine AllReadyF.last rfl (fun K hK => ?_)
      go_simp
      refine hK.out _ _ ?_
      clear hK K
      refine wpAnyF_done (by kernel_rfl) ?_ _
      go_wp2_with fail
      have HLd := hide_ (HLP.out.later (w' := (putAt w2 gs (k * 7) s).drew) ((Below.refl _ _).drew))
      refine (hPush_any b 4 w0.heap.size vp P (k : Int) (putAt w2 gs (k * 7) s).drew (by omega) HLd.out.old.size (hide_ HLd.out.nm)).mono ?_
      rintro e w7 hu
      obtain ⟨rfl, vp', hL7, hF7⟩ := HLd.out.pushed hu
      have HL7 := hide_ hL7
      have HF7 := hide_ (HFP.out.trans hF7)
      clear hu hL7 hF7
      go_wp2_with fail
      go_ret
      unfold HdTo
      rw [HH.out]
      exact ⟨vp', rfl, HL7.out, HF7.out⟩
    · have f0 : (t.pl == 0) = false := by simpa using hp
      have HH : Hid (handP enc C r S P k s = (mSt enc s x r && sameH enc C k t s, S, P)) := hide_ (by unfold handP; rw [HtA.out, Hd.out, HxA.out]; simp [hp])
      clear hp
      have HSt : Hid (∀ w, Calls Tryz.prog (fSt enc) #[.agg #[], stv s, inv x, .int .i64 r] w fun e w' => e = .returned (.bool (mSt enc s x r)) ∧ Below w.heap.size w w') := hide_ (fun w => mstands_any enc s x r w Hx.out hs.out)
      have HSm : Hid (∀ w3, Below w2.heap.size w2 w3 → Calls Tryz.prog 78 #[.pointer (some ⟨b, 0, none⟩), .int .i64 (k : Int), stv t, stv s] w3 fun e w' => e = .returned (.bool (sameH enc C k t s)) ∧ Below w3.heap.size w3 w') := hide_ (fun w3 hB => sameH_any b bc oc cc enc C k t s w3 hk hcc hcl hC HT hs (hide_ (HL2.out.later hB).rd))
      have HS8 : Hid (∀ w3, Below w2.heap.size w2 w3 → (fun w' => w'.cell? ⟨b, 0, none⟩ = some (.iface (mTy enc) (.agg #[])) ∧ w'.cell? ⟨b, 1, none⟩ = some (.slice (some ⟨bc, oc, none⟩) C.length cc) ∧ w'.cell? ⟨b, 2, none⟩ = some (.int .i64 r) ∧ w'.cell? ⟨w.heap.size, 0, none⟩ = some (.int .i64 s.pl) ∧ w'.cell? ⟨w.heap.size, 1, none⟩ = some (.int .u64 (s.ki : Int)) ∧ w'.cell? ⟨w.heap.size, 2, none⟩ = some (.int .i64 s.tb) ∧ w'.cell? ⟨w.heap.size, 3, none⟩ = some (.int .i64 s.pa) ∧ w'.cell? ⟨w.heap.size, 4, none⟩ = some (.int .i64 s.fr) ∧ w'.cell? ⟨w.heap.size, 5, none⟩ = some (.int .i64 s.le) ∧ w'.cell? ⟨w.heap.size, 6, none⟩ = some (.bool s.su) ∧ w'.cell? ⟨w1.heap.size, 0, none⟩ = some (.int .i64 t.pl) ∧ w'.cell? ⟨w1.heap.size, 1, none⟩ = some (.int .u64 (t.ki : Int)) ∧ w'.cell? ⟨w1.heap.size, 2, none⟩ = some (.int .i64 t.tb) ∧ w'.cell? ⟨w1.heap.size, 3, none⟩ = some (.int .i64 t.pa) ∧ w'.cell? ⟨w1.heap.size, 4, none⟩ = some (.int .i64 t.fr) ∧ w'.cell? ⟨w1.heap.size, 5, none⟩ = some (.int .i64 t.le) ∧ w'.cell? ⟨w1.heap.size, 6, none⟩ = some (.bool t.su) ∧ w'.cell? ⟨bc, oc + k * 4, none⟩ = some (.int .i64 x.op) ∧ w'.cell? ⟨bc, oc + k * 4 + 1, none⟩ = some (.int .i64 x.a) ∧ w'.cell? ⟨bc, oc + k * 4 + 2, none⟩ = some (.int .i64 x.b) ∧ w'.cell? ⟨bc, oc + k * 4 + 3, none⟩ = some (.int .i64 x.c)) w3) := hide_ (fun w3 hB => by
        have a1 := (HK1.out.later hB).cs
        have a2 := (HK2.out.later hB).cs
        have a3 := (HL2.out.later hB).cells
        have a4 := (HL2.out.later hB).rd.code.at (i := k) (x := x) (by rw [List.getElem?_eq_getElem hk, ← HxA.out]; simp [inA, List.getD, hk])
        exact ⟨a3.1, a3.2.1, a3.2.2.1, a1.1, a1.2.1, a1.2.2.1, a1.2.2.2.1, a1.2.2.2.2.1, a1.2.2.2.2.2.1, a1.2.2.2.2.2.2, a2.1, a2.2.1, a2.2.2.1, a2.2.2.2.1, a2.2.2.2.2.1, a2.2.2.2.2.2.1, a2.2.2.2.2.2.2, a4⟩)
      obtain ⟨q, hq⟩ : ∃ q, mSt enc s x r = q := ⟨_, rfl⟩
      rw [hq] at HSt HH
      have HF : Hid (∀ e w', e = .returned (.bool (q && sameH enc C k t s)) → Below w2.heap.size w2 w' → HdTo w0 w vp b gs bc oc cc enc C r S P k s e w') := hide_ (fun e w' h1 hB => by
        rw [h1]
        unfold HdTo
        rw [HH.out]
        exact ⟨vp, rfl, HL2.out.later hB, Fm.of_below (below_to HB02.out hB)⟩)
      clear hq HH
      cases q
      · go_wp2_with fail
        refine wp_region_last 26 (fun w' => w'.cell? ⟨b, 0, none⟩ = some (.iface (mTy enc) (.agg #[])) ∧ w'.cell? ⟨b, 1, none⟩ = some (.slice (some ⟨bc, oc, none⟩) C.length cc) ∧ w'.cell? ⟨b, 2, none⟩ = some (.int .i64 r) ∧ w'.cell? ⟨w.heap.size, 0, none⟩ = some (.int .i64 s.pl) ∧ w'.cell? ⟨w.heap.size, 1, none⟩ = some (.int .u64 (s.ki : Int)) ∧ w'.cell? ⟨w.heap.size, 2, none⟩ = some (.int .i64 s.tb) ∧ w'.cell? ⟨w.heap.size, 3, none⟩ = some (.int .i64 s.pa) ∧ w'.cell? ⟨w.heap.size, 4, none⟩ = some (.int .i64 s.fr) ∧ w'.cell? ⟨w.heap.size, 5, none⟩ = some (.int .i64 s.le) ∧ w'.cell? ⟨w.heap.size, 6, none⟩ = some (.bool s.su) ∧ w'.cell? ⟨w1.heap.size, 0, none⟩ = some (.int .i64 t.pl) ∧ w'.cell? ⟨w1.heap.size, 1, none⟩ = some (.int .u64 (t.ki : Int)) ∧ w'.cell? ⟨w1.heap.size, 2, none⟩ = some (.int .i64 t.tb) ∧ w'.cell? ⟨w1.heap.size, 3, none⟩ = some (.int .i64 t.pa) ∧ w'.cell? ⟨w1.heap.size, 4, none⟩ = some (.int .i64 t.fr) ∧ w'.cell? ⟨w1.heap.size, 5, none⟩ = some (.int .i64 t.le) ∧ w'.cell? ⟨w1.heap.size, 6, none⟩ = some (.bool t.su) ∧ w'.cell? ⟨bc, oc + k * 4, none⟩ = some (.int .i64 x.op) ∧ w'.cell? ⟨bc, oc + k * 4 + 1, none⟩ = some (.int .i64 x.a) ∧ w'.cell? ⟨bc, oc + k * 4 + 2, none⟩ = some (.int .i64 x.b) ∧ w'.cell? ⟨bc, oc + k * 4 + 3, none⟩ = some (.int .i64 x.c)) (by kernel_rfl) (HS8.out _ ((Below.refl _ w2).drew)) (fun hHeld => ?_)
        refine wpAnyF_take [26] (by kernel_rfl) (i := 0) (v := ?vq1) rfl (by kernel_rfl) (by kernel_rfl) (by kernel_rfl) (fun _ _ _ h => h) (Or.inl ⟨by kernel_rfl, ?hyq1⟩) hHeld ?restq1
        case hyq1 => intro w' hSw; (try dsimp only at hSw); go_simp; try with_reducible rfl
        simp only [Act.put]
        try dsimp only
        refine wpAnyF_take [26] (by kernel_rfl) (i := 1) (v := ?vq2) rfl (by kernel_rfl) (by kernel_rfl) (by kernel_rfl) (fun _ _ _ h => h) (Or.inl ⟨by kernel_rfl, ?hyq2⟩) hHeld ?restq2
        case hyq2 => intro w' hSw; (try dsimp only at hSw); go_simp; try with_reducible rfl
        simp only [Act.put]
        try dsimp only
        refine wpAnyF_take [26] (by kernel_rfl) (i := 2) (v := ?vq3) rfl (by kernel_rfl) (by kernel_rfl) (by kernel_rfl) (fun _ _ _ h => h) (Or.inl ⟨by kernel_rfl, ?hyq3⟩) hHeld ?restq3
        case hyq3 => intro w' hSw; (try dsimp only at hSw); go_simp; try with_reducible rfl
        simp only [Act.put]
        try dsimp only
        refine wpAnyF_take [26] (by kernel_rfl) (i := 3) (v := ?vq4) rfl (by kernel_rfl) (by kernel_rfl) (by kernel_rfl) (fun _ _ _ h => h) (Or.inl ⟨by kernel_rfl, ?hyq4⟩) hHeld ?restq4
        case hyq4 => intro w' hSw; (try dsimp only at hSw); go_simp; try with_reducible rfl
        simp only [Act.put]
        try dsimp only
        refine wpAnyF_take [26] (by kernel_rfl) (i := 4) (v := ?vq5) rfl (by kernel_rfl) (by kernel_rfl) (by kernel_rfl) (fun _ _ _ h => h) (Or.inl ⟨by kernel_rfl, ?hyq5⟩) hHeld ?restq5
        case hyq5 => intro w' hSw; (try dsimp only at hSw); go_simp; try with_reducible rfl
        simp only [Act.put]
        try dsimp only
        refine wpAnyF_take [26] (by kernel_rfl) (i := 5) (v := ?vq6) rfl (by kernel_rfl) (by kernel_rfl) (by kernel_rfl) (fun _ _ _ h => h) (Or.inl ⟨by kernel_rfl, ?hyq6⟩) hHeld ?restq6
        case hyq6 => intro w' hSw; (try dsimp only at hSw); go_simp; try with_reducible rfl
        simp only [Act.put]
        try dsimp only
        refine wpAnyF_take [26] (by kernel_rfl) (i := 6) (v := ?vq7) rfl (by kernel_rfl) (by kernel_rfl) (by kernel_rfl) (fun _ _ _ h => h) (Or.inl ⟨by kernel_rfl, ?hyq7⟩) hHeld ?restq7
        case hyq7 => intro w' hSw; (try dsimp only at hSw); go_simp; try with_reducible rfl
        simp only [Act.put]
        try dsimp only
        refine wpAnyF_take [26] (by kernel_rfl) (i := 7) (v := ?vq8) rfl (by kernel_rfl) (by kernel_rfl) (by kernel_rfl) (fun _ _ _ h => h) (Or.inl ⟨by kernel_rfl, ?hyq8⟩) hHeld ?restq8
        case hyq8 => intro w' hSw; (try dsimp only at hSw); go_simp; try with_reducible rfl
        simp only [Act.put]
        try dsimp only
        refine wpAnyF_take [26] (by kernel_rfl) (i := 8) (v := ?vq9) rfl (by kernel_rfl) (by kernel_rfl) (by kernel_rfl) (fun _ _ _ h => h) (Or.inl ⟨by kernel_rfl, ?hyq9⟩) hHeld ?restq9
        case hyq9 => intro w' hSw; (try dsimp only at hSw); go_simp; try with_reducible rfl
        simp only [Act.put]
        try dsimp only
        refine wpAnyF_take [26] (by kernel_rfl) (i := 9) (v := ?vq10) rfl (by kernel_rfl) (by kernel_rfl) (by kernel_rfl) (fun _ _ _ h => h) (Or.inl ⟨by kernel_rfl, ?hyq10⟩) hHeld ?restq10
        case hyq10 => intro w' hSw; (try dsimp only at hSw); go_simp; try with_reducible rfl
        simp only [Act.put]
        try dsimp only
        refine wpAnyF_take [26] (by kernel_rfl) (i := 10) (v := ?vq11) rfl (by kernel_rfl) (by kernel_rfl) (by kernel_rfl) (fun _ _ _ h => h) (Or.inl ⟨by kernel_rfl, ?hyq11⟩) hHeld ?restq11
        case hyq11 => intro w' hSw; (try dsimp only at hSw); go_simp; try with_reducible rfl
        simp only [Act.put]
        try dsimp only
        refine wpAnyF_take [26] (by kernel_rfl) (i := 11) (v := ?vq12) rfl (by kernel_rfl) (by kernel_rfl) (by kernel_rfl) (fun _ _ _ h => h) (Or.inl ⟨by kernel_rfl, ?hyq12⟩) hHeld ?restq12
        case hyq12 => intro w' hSw; (try dsimp only at hSw); go_simp; try with_reducible rfl
        simp only [Act.put]
        try dsimp only
        refine wpAnyF_take [26] (by kernel_rfl) (i := 12) (v := ?vq13) rfl (by kernel_rfl) (by kernel_rfl) (by kernel_rfl) (fun _ _ _ h => h) (Or.inl ⟨by kernel_rfl, ?hyq13⟩) hHeld ?restq13
        case hyq13 => intro w' hSw; (try dsimp only at hSw); go_simp; try with_reducible rfl
        simp only [Act.put]
        try dsimp only
        refine wpAnyF_take [26] (by kernel_rfl) (i := 13) (v := ?vq14) rfl (by kernel_rfl) (by kernel_rfl) (by kernel_rfl) (fun _ _ _ h => h) (Or.inl ⟨by kernel_rfl, ?hyq14⟩) hHeld ?restq14
        case hyq14 => intro w' hSw; (try dsimp only at hSw); go_simp; try with_reducible rfl
        simp only [Act.put]
        try dsimp only
        refine wpAnyF_take [26] (by kernel_rfl) (i := 14) (v := ?vq15) rfl (by kernel_rfl) (by kernel_rfl) (by kernel_rfl) (fun _ _ _ h => h) (Or.inl ⟨by kernel_rfl, ?hyq15⟩) hHeld ?restq15
        case hyq15 => intro w' hSw; (try dsimp only at hSw); go_simp; try with_reducible rfl
        simp only [Act.put]
        try dsimp only
        refine wpAnyF_take [26] (by kernel_rfl) (i := 15) (v := ?vq16) rfl (by kernel_rfl) (by kernel_rfl) (by kernel_rfl) (fun _ _ _ h => h) (Or.inl ⟨by kernel_rfl, ?hyq16⟩) hHeld ?restq16
        case hyq16 => intro w' hSw; (try dsimp only at hSw); go_simp; try with_reducible rfl
        simp only [Act.put]
        try dsimp only
        refine wpAnyF_take [26] (by kernel_rfl) (i := 16) (v := ?vq17) rfl (by kernel_rfl) (by kernel_rfl) (by kernel_rfl) (fun _ _ _ h => h) (Or.inl ⟨by kernel_rfl, ?hyq17⟩) hHeld ?restq17
        case hyq17 => intro w' hSw; (try dsimp only at hSw); go_simp; try with_reducible rfl
        simp only [Act.put]
        try dsimp only
        refine wpAnyF_take [26] (by kernel_rfl) (i := 17) (v := ?vq18) rfl (by kernel_rfl) (by kernel_rfl) (by kernel_rfl) (fun _ _ _ h => h) (Or.inl ⟨by kernel_rfl, ?hyq18⟩) hHeld ?restq18
        case hyq18 => intro w' hSw; (try dsimp only at hSw); go_simp; try with_reducible rfl
        simp only [Act.put]
        try dsimp only
        refine wpAnyF_ready (rs := [18]) (by kernel_rfl) (by simp) ?_
        refine AllReadyF.cons rfl (fun K hK => ?_) AllReadyF.nil
        have mH := mtSt enc 281 w2.drew
        have eH := enSt enc
        go_simp
        refine (HSt.out w2.drew).mono ?_
        rintro e w3 ⟨rfl, hB3⟩
        have HB3 := hide_ (below_to ((Below.refl _ w2).drew) hB3)
        have hS3 := HS8.out w3 HB3.out
        clear hB3 mH eH
        go_simp
        refine hK.out _ _ (hS3) (fun hHeld => ?_)
        clear hK K
        refine wpAnyF_take [26] (by kernel_rfl) (i := 19) (v := ?vq19) rfl (by kernel_rfl) (by kernel_rfl) (by kernel_rfl) (fun _ _ _ h => h) (Or.inl ⟨by kernel_rfl, ?hyq19⟩) hHeld ?restq19
        case hyq19 => intro w' hSw; (try dsimp only at hSw); go_simp; try with_reducible rfl
        simp only [Act.put]
        try dsimp only
        refine wpAnyF_take [26] (by kernel_rfl) (i := 20) (v := undef) rfl (by kernel_rfl) (by kernel_rfl) (by kernel_rfl) (fun _ _ _ h => h) (Or.inr ⟨by rfl, rfl⟩) hHeld ?_
        simp only [Act.put]
        try dsimp only
        refine wpAnyF_take [26] (by kernel_rfl) (i := 21) (v := undef) rfl (by kernel_rfl) (by kernel_rfl) (by kernel_rfl) (fun _ _ _ h => h) (Or.inr ⟨by rfl, rfl⟩) hHeld ?_
        simp only [Act.put]
        try dsimp only
        refine wpAnyF_take [26] (by kernel_rfl) (i := 22) (v := undef) rfl (by kernel_rfl) (by kernel_rfl) (by kernel_rfl) (fun _ _ _ h => h) (Or.inr ⟨by rfl, rfl⟩) hHeld ?_
        simp only [Act.put]
        try dsimp only
        refine wpAnyF_take [26] (by kernel_rfl) (i := 23) (v := undef) rfl (by kernel_rfl) (by kernel_rfl) (by kernel_rfl) (fun _ _ _ h => h) (Or.inr ⟨by rfl, rfl⟩) hHeld ?_
        simp only [Act.put]
        try dsimp only
        refine wpAnyF_take [26] (by kernel_rfl) (i := 24) (v := undef) rfl (by kernel_rfl) (by kernel_rfl) (by kernel_rfl) (fun _ _ _ h => h) (Or.inr ⟨by rfl, rfl⟩) hHeld ?_
        simp only [Act.put]
        try dsimp only
        refine wpAnyF_take [26] (by kernel_rfl) (i := 25) (v := ?vq20) rfl (by kernel_rfl) (by kernel_rfl) (by kernel_rfl) (fun _ _ _ h => h) (Or.inl ⟨by kernel_rfl, ?hyq20⟩) hHeld ?restq20
        case hyq20 => intro w' hSw; (try dsimp only at hSw); go_simp; try with_reducible rfl
        simp only [Act.put]
        try dsimp only
        refine wpAnyF_ready (rs := [26]) (by kernel_rfl) (by simp) ?_
        refine AllReadyF.last rfl (fun K hK => ?_)
        go_simp
        refine hK.out _ _ ?_
        clear hK K
        refine wpAnyF_done (by kernel_rfl) ?_ _
        go_wp2_with fail
        go_ret
        exact HF.out _ _ rfl HB3.out
      · go_wp2_with fail
        refine wp_region_last 26 (fun w' => w'.cell? ⟨b, 0, none⟩ = some (.iface (mTy enc) (.agg #[])) ∧ w'.cell? ⟨b, 1, none⟩ = some (.slice (some ⟨bc, oc, none⟩) C.length cc) ∧ w'.cell? ⟨b, 2, none⟩ = some (.int .i64 r) ∧ w'.cell? ⟨w.heap.size, 0, none⟩ = some (.int .i64 s.pl) ∧ w'.cell? ⟨w.heap.size, 1, none⟩ = some (.int .u64 (s.ki : Int)) ∧ w'.cell? ⟨w.heap.size, 2, none⟩ = some (.int .i64 s.tb) ∧ w'.cell? ⟨w.heap.size, 3, none⟩ = some (.int .i64 s.pa) ∧ w'.cell? ⟨w.heap.size, 4, none⟩ = some (.int .i64 s.fr) ∧ w'.cell? ⟨w.heap.size, 5, none⟩ = some (.int .i64 s.le) ∧ w'.cell? ⟨w.heap.size, 6, none⟩ = some (.bool s.su) ∧ w'.cell? ⟨w1.heap.size, 0, none⟩ = some (.int .i64 t.pl) ∧ w'.cell? ⟨w1.heap.size, 1, none⟩ = some (.int .u64 (t.ki : Int)) ∧ w'.cell? ⟨w1.heap.size, 2, none⟩ = some (.int .i64 t.tb) ∧ w'.cell? ⟨w1.heap.size, 3, none⟩ = some (.int .i64 t.pa) ∧ w'.cell? ⟨w1.heap.size, 4, none⟩ = some (.int .i64 t.fr) ∧ w'.cell? ⟨w1.heap.size, 5, none⟩ = some (.int .i64 t.le) ∧ w'.cell? ⟨w1.heap.size, 6, none⟩ = some (.bool t.su) ∧ w'.cell? ⟨bc, oc + k * 4, none⟩ = some (.int .i64 x.op) ∧ w'.cell? ⟨bc, oc + k * 4 + 1, none⟩ = some (.int .i64 x.a) ∧ w'.cell? ⟨bc, oc + k * 4 + 2, none⟩ = some (.int .i64 x.b) ∧ w'.cell? ⟨bc, oc + k * 4 + 3, none⟩ = some (.int .i64 x.c)) (by kernel_rfl) (HS8.out _ ((Below.refl _ w2).drew)) (fun hHeld => ?_)
        refine wpAnyF_take [26] (by kernel_rfl) (i := 0) (v := ?vr1) rfl (by kernel_rfl) (by kernel_rfl) (by kernel_rfl) (fun _ _ _ h => h) (Or.inl ⟨by kernel_rfl, ?hyr1⟩) hHeld ?restr1
        case hyr1 => intro w' hSw; (try dsimp only at hSw); go_simp; try with_reducible rfl
        simp only [Act.put]
        try dsimp only
        refine wpAnyF_take [26] (by kernel_rfl) (i := 1) (v := ?vr2) rfl (by kernel_rfl) (by kernel_rfl) (by kernel_rfl) (fun _ _ _ h => h) (Or.inl ⟨by kernel_rfl, ?hyr2⟩) hHeld ?restr2
        case hyr2 => intro w' hSw; (try dsimp only at hSw); go_simp; try with_reducible rfl
        simp only [Act.put]
        try dsimp only
        refine wpAnyF_take [26] (by kernel_rfl) (i := 2) (v := ?vr3) rfl (by kernel_rfl) (by kernel_rfl) (by kernel_rfl) (fun _ _ _ h => h) (Or.inl ⟨by kernel_rfl, ?hyr3⟩) hHeld ?restr3
        case hyr3 => intro w' hSw; (try dsimp only at hSw); go_simp; try with_reducible rfl
        simp only [Act.put]
        try dsimp only
        refine wpAnyF_take [26] (by kernel_rfl) (i := 3) (v := ?vr4) rfl (by kernel_rfl) (by kernel_rfl) (by kernel_rfl) (fun _ _ _ h => h) (Or.inl ⟨by kernel_rfl, ?hyr4⟩) hHeld ?restr4
        case hyr4 => intro w' hSw; (try dsimp only at hSw); go_simp; try with_reducible rfl
        simp only [Act.put]
        try dsimp only
        refine wpAnyF_take [26] (by kernel_rfl) (i := 4) (v := ?vr5) rfl (by kernel_rfl) (by kernel_rfl) (by kernel_rfl) (fun _ _ _ h => h) (Or.inl ⟨by kernel_rfl, ?hyr5⟩) hHeld ?restr5
        case hyr5 => intro w' hSw; (try dsimp only at hSw); go_simp; try with_reducible rfl
        simp only [Act.put]
        try dsimp only
        refine wpAnyF_take [26] (by kernel_rfl) (i := 5) (v := ?vr6) rfl (by kernel_rfl) (by kernel_rfl) (by kernel_rfl) (fun _ _ _ h => h) (Or.inl ⟨by kernel_rfl, ?hyr6⟩) hHeld ?restr6
        case hyr6 => intro w' hSw; (try dsimp only at hSw); go_simp; try with_reducible rfl
        simp only [Act.put]
        try dsimp only
        refine wpAnyF_take [26] (by kernel_rfl) (i := 6) (v := ?vr7) rfl (by kernel_rfl) (by kernel_rfl) (by kernel_rfl) (fun _ _ _ h => h) (Or.inl ⟨by kernel_rfl, ?hyr7⟩) hHeld ?restr7
        case hyr7 => intro w' hSw; (try dsimp only at hSw); go_simp; try with_reducible rfl
        simp only [Act.put]
        try dsimp only
        refine wpAnyF_take [26] (by kernel_rfl) (i := 7) (v := ?vr8) rfl (by kernel_rfl) (by kernel_rfl) (by kernel_rfl) (fun _ _ _ h => h) (Or.inl ⟨by kernel_rfl, ?hyr8⟩) hHeld ?restr8
        case hyr8 => intro w' hSw; (try dsimp only at hSw); go_simp; try with_reducible rfl
        simp only [Act.put]
        try dsimp only
        refine wpAnyF_take [26] (by kernel_rfl) (i := 8) (v := ?vr9) rfl (by kernel_rfl) (by kernel_rfl) (by kernel_rfl) (fun _ _ _ h => h) (Or.inl ⟨by kernel_rfl, ?hyr9⟩) hHeld ?restr9
        case hyr9 => intro w' hSw; (try dsimp only at hSw); go_simp; try with_reducible rfl
        simp only [Act.put]
        try dsimp only
        refine wpAnyF_take [26] (by kernel_rfl) (i := 9) (v := ?vr10) rfl (by kernel_rfl) (by kernel_rfl) (by kernel_rfl) (fun _ _ _ h => h) (Or.inl ⟨by kernel_rfl, ?hyr10⟩) hHeld ?restr10
        case hyr10 => intro w' hSw; (try dsimp only at hSw); go_simp; try with_reducible rfl
        simp only [Act.put]
        try dsimp only
        refine wpAnyF_take [26] (by kernel_rfl) (i := 10) (v := ?vr11) rfl (by kernel_rfl) (by kernel_rfl) (by kernel_rfl) (fun _ _ _ h => h) (Or.inl ⟨by kernel_rfl, ?hyr11⟩) hHeld ?restr11
        case hyr11 => intro w' hSw; (try dsimp only at hSw); go_simp; try with_reducible rfl
        simp only [Act.put]
        try dsimp only
        refine wpAnyF_take [26] (by kernel_rfl) (i := 11) (v := ?vr12) rfl (by kernel_rfl) (by kernel_rfl) (by kernel_rfl) (fun _ _ _ h => h) (Or.inl ⟨by kernel_rfl, ?hyr12⟩) hHeld ?restr12
        case hyr12 => intro w' hSw; (try dsimp only at hSw); go_simp; try with_reducible rfl
        simp only [Act.put]
        try dsimp only
        refine wpAnyF_take [26] (by kernel_rfl) (i := 12) (v := ?vr13) rfl (by kernel_rfl) (by kernel_rfl) (by kernel_rfl) (fun _ _ _ h => h) (Or.inl ⟨by kernel_rfl, ?hyr13⟩) hHeld ?restr13
        case hyr13 => intro w' hSw; (try dsimp only at hSw); go_simp; try with_reducible rfl
        simp only [Act.put]
        try dsimp only
        refine wpAnyF_take [26] (by kernel_rfl) (i := 13) (v := ?vr14) rfl (by kernel_rfl) (by kernel_rfl) (by kernel_rfl) (fun _ _ _ h => h) (Or.inl ⟨by kernel_rfl, ?hyr14⟩) hHeld ?restr14
        case hyr14 => intro w' hSw; (try dsimp only at hSw); go_simp; try with_reducible rfl
        simp only [Act.put]
        try dsimp only
        refine wpAnyF_take [26] (by kernel_rfl) (i := 14) (v := ?vr15) rfl (by kernel_rfl) (by kernel_rfl) (by kernel_rfl) (fun _ _ _ h => h) (Or.inl ⟨by kernel_rfl, ?hyr15⟩) hHeld ?restr15
        case hyr15 => intro w' hSw; (try dsimp only at hSw); go_simp; try with_reducible rfl
        simp only [Act.put]
        try dsimp only
        refine wpAnyF_take [26] (by kernel_rfl) (i := 15) (v := ?vr16) rfl (by kernel_rfl) (by kernel_rfl) (by kernel_rfl) (fun _ _ _ h => h) (Or.inl ⟨by kernel_rfl, ?hyr16⟩) hHeld ?restr16
        case hyr16 => intro w' hSw; (try dsimp only at hSw); go_simp; try with_reducible rfl
        simp only [Act.put]
        try dsimp only
        refine wpAnyF_take [26] (by kernel_rfl) (i := 16) (v := ?vr17) rfl (by kernel_rfl) (by kernel_rfl) (by kernel_rfl) (fun _ _ _ h => h) (Or.inl ⟨by kernel_rfl, ?hyr17⟩) hHeld ?restr17
        case hyr17 => intro w' hSw; (try dsimp only at hSw); go_simp; try with_reducible rfl
        simp only [Act.put]
        try dsimp only
        refine wpAnyF_take [26] (by kernel_rfl) (i := 17) (v := ?vr18) rfl (by kernel_rfl) (by kernel_rfl) (by kernel_rfl) (fun _ _ _ h => h) (Or.inl ⟨by kernel_rfl, ?hyr18⟩) hHeld ?restr18
        case hyr18 => intro w' hSw; (try dsimp only at hSw); go_simp; try with_reducible rfl
        simp only [Act.put]
        try dsimp only
        refine wpAnyF_ready (rs := [18]) (by kernel_rfl) (by simp) ?_
        refine AllReadyF.cons rfl (fun K hK => ?_) AllReadyF.nil
        have mH := mtSt enc 281 w2.drew
        have eH := enSt enc
        go_simp
        refine (HSt.out w2.drew).mono ?_
        rintro e w3 ⟨rfl, hB3⟩
        have HB3 := hide_ (below_to ((Below.refl _ w2).drew) hB3)
        have hS3 := HS8.out w3 HB3.out
        clear hB3 mH eH
        go_simp
        refine hK.out _ _ (hS3) (fun hHeld => ?_)
        clear hK K
        refine wpAnyF_take [26] (by kernel_rfl) (i := 19) (v := ?vr19) rfl (by kernel_rfl) (by kernel_rfl) (by kernel_rfl) (fun _ _ _ h => h) (Or.inl ⟨by kernel_rfl, ?hyr19⟩) hHeld ?restr19
        case hyr19 => intro w' hSw; (try dsimp only at hSw); go_simp; try with_reducible rfl
        simp only [Act.put]
        try dsimp only
        refine wpAnyF_take [26] (by kernel_rfl) (i := 20) (v := ?vr20) rfl (by kernel_rfl) (by kernel_rfl) (by kernel_rfl) (fun _ _ _ h => h) (Or.inl ⟨by kernel_rfl, ?hyr20⟩) hHeld ?restr20
        case hyr20 => intro w' hSw; (try dsimp only at hSw); go_simp; try with_reducible rfl
        simp only [Act.put]
        try dsimp only
        refine wpAnyF_take [26] (by kernel_rfl) (i := 21) (v := ?vr21) rfl (by kernel_rfl) (by kernel_rfl) (by kernel_rfl) (fun _ _ _ h => h) (Or.inl ⟨by kernel_rfl, ?hyr21⟩) hHeld ?restr21
        case hyr21 => intro w' hSw; (try dsimp only at hSw); go_simp; try with_reducible rfl
        simp only [Act.put]
        try dsimp only
        refine wpAnyF_take [26] (by kernel_rfl) (i := 22) (v := ?vr22) rfl (by kernel_rfl) (by kernel_rfl) (by kernel_rfl) (fun _ _ _ h => h) (Or.inl ⟨by kernel_rfl, ?hyr22⟩) hHeld ?restr22
        case hyr22 => intro w' hSw; (try dsimp only at hSw); go_simp; try with_reducible rfl
        simp only [Act.put]
        try dsimp only
        refine wpAnyF_take [26] (by kernel_rfl) (i := 23) (v := ?vr23) rfl (by kernel_rfl) (by kernel_rfl) (by kernel_rfl) (fun _ _ _ h => h) (Or.inl ⟨by kernel_rfl, ?hyr23⟩) hHeld ?restr23
        case hyr23 => intro w' hSw; (try dsimp only at hSw); go_simp; try with_reducible rfl
        simp only [Act.put]
        try dsimp only
        refine wpAnyF_ready (rs := [24]) (by kernel_rfl) (by simp) ?_
        refine AllReadyF.cons rfl (fun K hK => ?_) AllReadyF.nil
        go_simp
        refine (HSm.out w3 HB3.out).mono ?_
        rintro e w4 ⟨rfl, hB4⟩
        have HB4 := hide_ (below_to HB3.out hB4)
        have hS4 := HS8.out w4 HB4.out
        clear hB4
        go_simp
        refine hK.out _ _ (hS4) (fun hHeld => ?_)
        clear hK K
        refine wpAnyF_take [26] (by kernel_rfl) (i := 25) (v := ?vr24) rfl (by kernel_rfl) (by kernel_rfl) (by kernel_rfl) (fun _ _ _ h => h) (Or.inl ⟨by kernel_rfl, ?hyr24⟩) hHeld ?restr24
        case hyr24 => intro w' hSw; (try dsimp only at hSw); go_simp; try with_reducible rfl
        simp only [Act.put]
        try dsimp only
        refine wpAnyF_ready (rs := [26]) (by kernel_rfl) (by simp) ?_
        refine AllReadyF.last rfl (fun K hK => ?_)
        go_simp
        refine hK.out _ _ ?_
        clear hK K
        refine wpAnyF_done (by kernel_rfl) ?_ _
        go_wp2_with fail
        go_ret
        exact HF.out _ _ rfl HB4.out
  · have HH : Hid (handP enc C r S P k s = (true, S, P)) := hide_ (by unfold handP; rw [HtA.out, Hd.out]; simp)
    go_wp2_with fail
    go_ret
    unfold HdTo
    rw [HH.out]
    exact ⟨vp, rfl, HL2.out, Fm.of_below HB02.out⟩
end Go.Proofs.YtjamfbpdepahnaaGreat
