import Derived.Test.YtokepgimjdalaaaBr

/- Writer.expr: the walk. -/
namespace Go.Proofs.Ytokepgimjdalaaa
open Go.RowKit
set_option linter.unusedVariables false

theorem dig_at (n : Nat) (m : Int) (X : ByteArray) (hm : m = (n : Int)) (hX : X = ⟨(dec n).toArray⟩) (hn : n ≤ 2147483647) (w : World) : Calls Try.prog 25 #[.int .i64 m] w fun e w' => e = .returned (.string X) ∧ Below w.heap.size w w' := by
  subst hm hX
  exact digits_dec n w hn
theorem dec8 : dec 8 = [56] := by decide
theorem dec16 : dec 16 = [49, 54] := by decide
theorem dec32 : dec 32 = [51, 50] := by decide
theorem dec64 : dec 64 = [54, 52] := by decide
/-- A node's one kid. -/
theorem wq_one {fu d : Nat} {k : Int} (h7 : k ≠ 7) (h8 : k ≠ 8) {A : List Nd} {p : Nat} {P : List (Q × List UInt8)} {A' : List Nd} (h : WQ stB fu d k 1 A p P A') :
    ∃ f z A1 PA A1', fu = f + 1 ∧ A = z :: A1 ∧ ndE z k d = 0 ∧ WQ stB f (d + 1) z.k z.kids.toNat A1 (p + (txtP (opnS stB z)).length) PA A1' ∧ P = opnS stB z ++ (PA ++ clsS stB z) ∧ A' = { z with a := (p : Int) } :: A1' := by
  cases fu with
  | zero => exact absurd h.1 (by decide)
  | succ f =>
    obtain ⟨z, A1, B, PA, PB, A1', B', rfl, h2, hA, hB, rfl, rfl⟩ := h
    obtain ⟨rfl, rfl, rfl⟩ := hB.zero
    have hh : hdS stB k z = [] := by unfold hdS; rw [if_neg h7, if_neg h8]
    have hs : sepS k 0 = [] := by unfold sepS; rw [if_neg (by omega)]
    rw [hh] at hA ⊢
    rw [hs]
    exact ⟨f, z, A1, PA, A1', rfl, by simp, h2, by simpa using hA, by simp, by simp⟩
/-- Kids are as many behind as ahead. -/
theorem wq_len {st : Sty} : ∀ (fu d : Nat) (k : Int) (n : Nat) (N : List Nd) (p : Nat) (P : List (Q × List UInt8)) (N' : List Nd), WQ st fu d k n N p P N' → N'.length = N.length
  | 0, d, k, n, N, p, P, N', h => by rw [h.2.1, h.2.2.2]
  | fu + 1, d, k, 0, N, p, P, N', h => by rw [h.1, h.2.2]
  | fu + 1, d, k, n + 1, N, p, P, N', h => by
    obtain ⟨x, A, B, PA, PB, A', B', h1, h2, hA, hB, h5, h6⟩ := h
    rw [h1, h6]
    simp [wq_len fu _ _ _ _ _ _ _ hA, wq_len fu _ _ _ _ _ _ _ hB]
/-- The comma ahead of a kid. -/
def sp (r m : Nat) : List UInt8 := if 0 < r ∧ r < m then [44] else []
/-- Ahead of a node's kid number r: what is written, and what is left. -/
def KidR (fu d m : Nat) (k : Int) (T1 : List UInt8) (NF post : List Nd) (r : Nat) (bb : List UInt8) (pr Rm : List Nd) : Prop :=
  ∃ f PB RB, f ≤ fu ∧ WQ stB f d k (m - r) Rm ((bb ++ sp r m).length) PB RB ∧ bb ++ sp r m ++ txtP PB = T1 ∧ pr ++ (RB ++ post) = NF
section
variable {fu d m : Nat} {k : Int} {T1 : List UInt8} {NF post : List Nd} {r : Nat} {bb : List UInt8} {pr Rm : List Nd}
theorem KidR.done (h : KidR fu d m k T1 NF post m bb pr Rm) : bb = T1 ∧ pr ++ post = NF ∧ Rm = [] := by
  obtain ⟨f, PB, RB, hf, hQ, h1, h2⟩ := h
  rw [Nat.sub_self] at hQ
  obtain ⟨rfl, rfl, rfl⟩ := hQ.zero
  have hs : sp m m = [] := by unfold sp; rw [if_neg (by omega)]
  rw [hs] at h1
  exact ⟨by simpa [txtP] using h1, by simpa using h2, rfl⟩
theorem KidR.step (hk : k = 7 ∨ k = 8) (hr : r < m) (h : KidR fu d m k T1 NF post r bb pr Rm) :
    ∃ f z A1 Rm2 PA A1', f < fu ∧ Rm = z :: (A1 ++ Rm2) ∧ ndE z k d = 0 ∧ A1'.length = A1.length ∧
      WQ stB f (d + 1) z.k z.kids.toNat A1 ((bb ++ sp r m ++ txtP (hdS stB k z)).length + (txtP (opnS stB z)).length) PA A1' ∧
      KidR fu d m k T1 NF post (r + 1) (bb ++ sp r m ++ txtP (hdS stB k z) ++ txtP (opnS stB z ++ (PA ++ clsS stB z))) (pr ++ ({ z with a := ((bb ++ sp r m).length : Int) } :: A1')) Rm2 ∧
      (bb ++ sp r m ++ txtP (hdS stB k z)).length + (txtP (opnS stB z ++ (PA ++ clsS stB z))).length ≤ T1.length := by
  obtain ⟨f, PB, RB, hf, hQ, h1, h2⟩ := h
  have hn : m - r = (m - (r + 1)) + 1 := by omega
  rw [hn] at hQ
  cases f with
  | zero => exact absurd hQ.1 (by omega)
  | succ f =>
    obtain ⟨z, A1, B, PA, PB2, A1', B', rfl, hz, hA, hB, rfl, rfl⟩ := hQ
    have hs : txtP (sepS k (m - (r + 1))) = sp (r + 1) m := by
      unfold sepS sp
      by_cases hl : r + 1 < m
      · rw [if_pos ⟨hk, by omega⟩, if_pos ⟨by omega, hl⟩]; simp [txtP, wb_m]
      · rw [if_neg (by omega), if_neg (by omega)]; rfl
    refine ⟨f, z, A1, B, PA, A1', by omega, rfl, hz, wq_len _ _ _ _ _ _ _ _ hA, ?_, ⟨f, PB2, B', by omega, ?_, ?_, ?_⟩, ?_⟩
    · have e : (bb ++ sp r m).length + (txtP (hdS stB k z ++ opnS stB z)).length = (bb ++ sp r m ++ txtP (hdS stB k z)).length + (txtP (opnS stB z)).length := by simp only [txtP_app, List.length_append]; omega
      rw [e] at hA
      exact hA
    · have e : (bb ++ sp r m).length + (txtP (hdS stB k z ++ (opnS stB z ++ (PA ++ (clsS stB z ++ sepS k (m - (r + 1))))))).length = (bb ++ sp r m ++ txtP (hdS stB k z) ++ txtP (opnS stB z ++ (PA ++ clsS stB z)) ++ sp (r + 1) m).length := by simp only [txtP_app, List.length_append, hs]; omega
      rw [e] at hB
      exact hB
    · rw [← h1, ← hs]; simp only [txtP_app, List.append_assoc]
    · rw [← h2]; simp
    · rw [← h1]; simp only [txtP_app, List.length_append]; omega
end
set_option maxRecDepth 100000 in
set_option maxHeartbeats 8000000 in
theorem ex_step (fu : Nat) (H : Hid (∀ f, f < fu → ExB f)) : ExB fu := by
  intro w B g gn cn b d k x A pre post P A' ins T h2 hQ HW hlen hT hTb
  obtain ⟨i, hi⟩ : ∃ i, pre.length = i := ⟨_, rfl⟩
  have hx := mid_at pre x (A ++ post)
  have hset := mid_set pre x (atO x ins b.length) (A ++ post)
  rw [hi] at hx hset
  have hiT : i < T := by rw [← hT, ← hi]; simp
  have hiT' : (i : Int) < T := by omega
  obtain ⟨hBn, hlc, hcm, _⟩ := HW.out.2
  have hTc : T ≤ cn := by rw [← hT]; exact hlc
  have hcn : cn ≤ 9223372036854775807 := hcm
  have hib : (i : Int) ≤ 100000000 := by omega
  have kx := Blk.newA w #[.int .i64 x.k, .int .i64 x.n, .string x.name, .string x.label, .int .i64 x.tag, .int .i64 x.kids, .int .i64 x.a] 40
  have hBx : Below w.heap.size w (w.alloc (.cells #[.int .i64 x.k, .int .i64 x.n, .string x.name, .string x.label, .int .i64 x.tag, .int .i64 x.kids, .int .i64 x.a] 40)) := (Below.refl _ _).alloc (Nat.le_refl _) _
  obtain ⟨wx, hwx⟩ : ∃ wx, wx = w.alloc (.cells #[.int .i64 x.k, .int .i64 x.n, .string x.name, .string x.label, .int .i64 x.tag, .int .i64 x.kids, .int .i64 x.a] 40) := ⟨_, rfl⟩
  rw [← hwx] at kx hBx
  have HWx := hide_ (HW.out.later hBx)
  have HKx := hide_ kx
  have HUx : Hid (UpdE B g gn w wx) := hide_ (UpdE.of_below hBx)
  have c0 := HW.out.2.at hx 0 (by decide); have c1 := HW.out.2.at hx 1 (by decide); have c2 := HW.out.2.at hx 2 (by decide); have c3 := HW.out.2.at hx 3 (by decide); have c4 := HW.out.2.at hx 4 (by decide); have c5 := HW.out.2.at hx 5 (by decide); have c6 := HW.out.2.at hx 6 (by decide)
  simp [ndc] at c0 c1 c2 c3 c4 c5 c6
  obtain ⟨hBg, vb, hKg, hR⟩ := HWx.out.1
  obtain ⟨a, cap, hvb⟩ := hR.form
  subst hvb
  have g0 := hKg.cell 0
  simp at g0
  have e6 := HWx.out.2.at hx 6 (by decide)
  simp [ndc] at e6
  have z6 := HWx.out.2.frozen (i * 7 + 6)
  have HSet : Hid (WrS (wx.setCell ⟨gn, i * 7 + 6, none⟩ (.int .i64 (b.length : Int))) B g gn cn b (pre ++ (atO x false b.length :: (A ++ post)))) := hide_ (by
    have h := HWx.out.setA hx (b.length : Int)
    have e : (pre ++ (x :: (A ++ post))).set i { x with a := (b.length : Int) } = pre ++ (atO x false b.length :: (A ++ post)) := by rw [← hi]; exact mid_set _ _ _ _
    rw [e] at h
    exact h)
  have HKs : Hid (Blk (wx.setCell ⟨gn, i * 7 + 6, none⟩ (.int .i64 (b.length : Int))) w.heap.size 40 [.int .i64 x.k, .int .i64 x.n, .string x.name, .string x.label, .int .i64 x.tag, .int .i64 x.kids, .int .i64 x.a]) := hide_ (kx.other _ _ (by
    obtain ⟨ys, hK, _⟩ := HW.out.2.2.2.2
    have := hK.lt
    show w.heap.size ≠ gn
    omega))
  have HUs : Hid (UpdE B g gn w (wx.setCell ⟨gn, i * 7 + 6, none⟩ (.int .i64 (b.length : Int)))) := hide_ (HUx.out.trans (set_upd B g gn wx _ _))
  have hxx : atO x true b.length = x := by cases x; rfl
  have hbl : (b.length : Int) ≤ 800000000 := by omega
  have HLt : Hid (g < w.heap.size ∧ gn < w.heap.size) := hide_ (by
    obtain ⟨_, vb, hKw, _⟩ := HW.out.1
    obtain ⟨ys, hK, _⟩ := HW.out.2.2.2.2
    exact ⟨hKw.lt, hK.lt⟩)
  have HQ := hide_ hQ
  have HLn := hide_ hlen
  have Hi := hide_ hi
  have HT := hide_ hT
  have H2 := hide_ h2
  rw [hi]
  clear kx hBx hQ hlen hi hT h2 hset hx hKg hR hBg hBn hlc hcm HW
  go_enter Try.func18, Try.ntmps18
  go_upto_region 4 with fail
  rw [← hwx]
  clear hwx c0 c1 c2 c3 c4 c5 c6
  go_upto_if 25 with fail
  go_cut [3] from 13 to 34 (fun x3 wc => x3 = .bool ins ∧ ∃ w1, w1 = wc ∧ Hid (WrS w1 B g gn cn b (pre ++ (atO x ins b.length :: (A ++ post)))) ∧ Hid (Blk w1 w.heap.size 40 [.int .i64 x.k, .int .i64 x.n, .string x.name, .string x.label, .int .i64 x.tag, .int .i64 x.kids, .int .i64 x.a]) ∧ Hid (UpdE B g gn w w1))
  case first =>
    cases ins with
    | true =>
      go_wp2
      go_meet
      case rel => exact ⟨rfl, _, rfl, by rw [hxx]; exact HWx, HKx, HUx⟩
    | false =>
      go_wp2
      go_meet
      case rel => exact ⟨rfl, _, rfl, HSet, HKs, HUs⟩
  case rest =>
  obtain ⟨rfl, w1, rfl, HW1, HK1, HU1⟩ := hcut
  clear HWx HKx HUx HSet HKs HUs hxx g0 e6 z6
  obtain ⟨y, hy⟩ : ∃ y, atO x ins b.length = y := ⟨_, rfl⟩
  rw [hy] at HW1
  have Hy := hide_ hy
  clear hy
  have x0 := HK1.out.cell 0; have x1 := HK1.out.cell 1; have x2 := HK1.out.cell 2
  simp at x0 x1 x2
  have hLn := HLn.out
  rcases kinds H2.out with ⟨k9, n0, kd0, hnm⟩ | ⟨k9, hnm, h4⟩
  · obtain ⟨rfl, rfl, rfl⟩ := (show A = [] ∧ P = [] ∧ A' = [] from by have h := HQ.out; rw [kd0] at h; exact h.zero)
    rw [List.nil_append] at HW1
    have hcl : clsS stB x = [] := by unfold clsS; rw [if_neg (by omega), if_neg (by omega), if_neg (by omega)]
    have hop : opnS stB x = [(qw (wordT x), [])] := by unfold opnS; rw [if_neg (by omega), if_neg (by omega)]
    have hwt : wordT x = x.name := by unfold wordT; rw [if_neg (by omega), if_neg (by omega), if_neg (by omega), if_neg (by omega), if_neg (by omega), if_neg (by omega), if_neg (by omega), if_neg (by omega)]
    have HTx : Hid (txtP (opnS stB x ++ ([] ++ clsS stB x)) = x.name.data.toList) := hide_ (by rw [hop, hcl, hwt]; simp [txtP, wb_w])
    have hns : x.name.size ≤ 32 := (of_decide_eq_true hnm).2.1
    rw [k9] at x0
    clear hop hcl hwt hLn hnm n0 kd0
    go_wp2_with fail
    refine (putS_any g B gn cn b (pre ++ (y :: post)) x.name w1 HW1 (by omega) (by omega)).mono ?_; rintro e w2 ⟨rfl, HW2, HU2⟩
    have HUf := hide_ (HU1.out.trans HU2.out)
    go_wp2
    go_ret
    exact ⟨by simp, by rw [HTx.out, Hy.out]; exact HW2, HUf⟩
  · rcases h4 with ⟨hk, kd0, hb⟩ | ⟨hk, kd1, hb⟩ | ⟨hk, kd1, n0, hb⟩ | ⟨hk, kdp, n0, hb⟩
    · obtain ⟨rfl, rfl, rfl⟩ := (show A = [] ∧ P = [] ∧ A' = [] from by have h := HQ.out; rw [kd0] at h; exact h.zero)
      rw [List.nil_append] at HW1
      have hcl : clsS stB x = [] := by unfold clsS; rw [if_neg (by omega), if_neg (by omega), if_neg (by omega)]
      have hop : opnS stB x = [(qw (wordT x), [])] := by unfold opnS; rw [if_neg (by omega), if_neg (by omega)]
      have hkk : (x.k = 2 ∨ x.k = 3) ∨ (x.k = 1 ∧ (x.n = 1 ∨ x.n = 2 ∨ x.n = 4 ∨ x.n = 8)) := by
        rcases hk with e | e | e
        · refine .inr ⟨e, ?_⟩
          have h1 := (nd_ok H2.out).2.1
          rw [e] at h1
          unfold kindOk at h1
          rw [if_pos rfl] at h1
          exact (of_decide_eq_true h1).1
        · exact .inl (.inl e)
        · exact .inl (.inr e)
      rcases hkk with (e | e) | ⟨e, hn⟩
      · have HTx : Hid (txtP (opnS stB x ++ ([] ++ clsS stB x)) = (⟨#[98, 111, 111, 108]⟩ : ByteArray).data.toList) := hide_ (by rw [hop, hcl]; unfold wordT; rw [if_neg (by omega), if_pos e]; rfl)
        rw [e] at x0
        clear hop hcl hLn hb hk e kd0 k9
        go_wp2_with fail
        refine (putS_any g B gn cn b (pre ++ (y :: post)) ⟨#[98, 111, 111, 108]⟩ w1 HW1 (by omega) (by decide)).mono ?_; rintro e w2 ⟨rfl, HW2, HU2⟩
        have HUf := hide_ (HU1.out.trans HU2.out)
        go_wp2
        go_ret
        exact ⟨by simp, by rw [HTx.out, Hy.out]; exact HW2, HUf⟩
      · have HTx : Hid (txtP (opnS stB x ++ ([] ++ clsS stB x)) = (⟨#[118, 97, 114, 105, 110, 116]⟩ : ByteArray).data.toList) := hide_ (by rw [hop, hcl]; unfold wordT; rw [if_neg (by omega), if_neg (by omega), if_pos e]; rfl)
        rw [e] at x0
        clear hop hcl hLn hb hk e kd0 k9
        go_wp2_with fail
        refine (putS_any g B gn cn b (pre ++ (y :: post)) ⟨#[118, 97, 114, 105, 110, 116]⟩ w1 HW1 (by omega) (by decide)).mono ?_; rintro e w2 ⟨rfl, HW2, HU2⟩
        have HUf := hide_ (HU1.out.trans HU2.out)
        go_wp2
        go_ret
        exact ⟨by simp, by rw [HTx.out, Hy.out]; exact HW2, HUf⟩
      · rcases hn with hn | hn | hn | hn
        · have HTx : Hid (txtP (opnS stB x ++ ([] ++ clsS stB x)) = (⟨#[117]⟩ ++ ⟨#[56]⟩ : ByteArray).data.toList) := hide_ (by rw [hop, hcl]; unfold wordT; rw [if_pos e, hn]; simp [txtP, wb_w, wordN])
          have HDg : Hid (Calls Try.prog 25 #[.int .i64 8] w1 fun e w' => e = .returned (.string ⟨#[56]⟩) ∧ Below w1.heap.size w1 w') := hide_ (dig_at 8 8 _ rfl (by rw [dec8]) (by decide) w1)
          rw [e] at x0
          rw [hn] at x1
          clear hop hcl hLn hb hk e kd0 k9 hn
          go_wp2_with fail
          refine HDg.out.mono ?_; rintro e w2 ⟨rfl, hB2⟩
          have HW2 := hide_ (HW1.out.later hB2)
          have HU2 : Hid (UpdE B g gn w w2) := hide_ (HU1.out.trans (UpdE.of_below hB2))
          clear hB2 HDg
          go_wp2_with fail
          generalize hU8 : ((⟨#[117]⟩ : ByteArray) ++ _) = U8 at HTx ⊢
          have hU8s : U8.size ≤ 100 := by rw [← hU8, ByteArray.size_append]; decide
          clear hU8
          refine (putS_any g B gn cn b (pre ++ (y :: post)) U8 w2 HW2 (by omega) (by omega)).mono ?_; rintro e w3 ⟨rfl, HW3, HU3⟩
          have HUf := hide_ (HU2.out.trans HU3.out)
          go_wp2
          go_ret
          exact ⟨by simp, by rw [HTx.out, Hy.out]; exact HW3, HUf⟩
        · have HTx : Hid (txtP (opnS stB x ++ ([] ++ clsS stB x)) = (⟨#[117]⟩ ++ ⟨#[49, 54]⟩ : ByteArray).data.toList) := hide_ (by rw [hop, hcl]; unfold wordT; rw [if_pos e, hn]; simp [txtP, wb_w, wordN])
          have HDg : Hid (Calls Try.prog 25 #[.int .i64 16] w1 fun e w' => e = .returned (.string ⟨#[49, 54]⟩) ∧ Below w1.heap.size w1 w') := hide_ (dig_at 16 16 _ rfl (by rw [dec16]) (by decide) w1)
          rw [e] at x0
          rw [hn] at x1
          clear hop hcl hLn hb hk e kd0 k9 hn
          go_wp2_with fail
          refine HDg.out.mono ?_; rintro e w2 ⟨rfl, hB2⟩
          have HW2 := hide_ (HW1.out.later hB2)
          have HU2 : Hid (UpdE B g gn w w2) := hide_ (HU1.out.trans (UpdE.of_below hB2))
          clear hB2 HDg
          go_wp2_with fail
          generalize hU8 : ((⟨#[117]⟩ : ByteArray) ++ _) = U8 at HTx ⊢
          have hU8s : U8.size ≤ 100 := by rw [← hU8, ByteArray.size_append]; decide
          clear hU8
          refine (putS_any g B gn cn b (pre ++ (y :: post)) U8 w2 HW2 (by omega) (by omega)).mono ?_; rintro e w3 ⟨rfl, HW3, HU3⟩
          have HUf := hide_ (HU2.out.trans HU3.out)
          go_wp2
          go_ret
          exact ⟨by simp, by rw [HTx.out, Hy.out]; exact HW3, HUf⟩
        · have HTx : Hid (txtP (opnS stB x ++ ([] ++ clsS stB x)) = (⟨#[117]⟩ ++ ⟨#[51, 50]⟩ : ByteArray).data.toList) := hide_ (by rw [hop, hcl]; unfold wordT; rw [if_pos e, hn]; simp [txtP, wb_w, wordN])
          have HDg : Hid (Calls Try.prog 25 #[.int .i64 32] w1 fun e w' => e = .returned (.string ⟨#[51, 50]⟩) ∧ Below w1.heap.size w1 w') := hide_ (dig_at 32 32 _ rfl (by rw [dec32]) (by decide) w1)
          rw [e] at x0
          rw [hn] at x1
          clear hop hcl hLn hb hk e kd0 k9 hn
          go_wp2_with fail
          refine HDg.out.mono ?_; rintro e w2 ⟨rfl, hB2⟩
          have HW2 := hide_ (HW1.out.later hB2)
          have HU2 : Hid (UpdE B g gn w w2) := hide_ (HU1.out.trans (UpdE.of_below hB2))
          clear hB2 HDg
          go_wp2_with fail
          generalize hU8 : ((⟨#[117]⟩ : ByteArray) ++ _) = U8 at HTx ⊢
          have hU8s : U8.size ≤ 100 := by rw [← hU8, ByteArray.size_append]; decide
          clear hU8
          refine (putS_any g B gn cn b (pre ++ (y :: post)) U8 w2 HW2 (by omega) (by omega)).mono ?_; rintro e w3 ⟨rfl, HW3, HU3⟩
          have HUf := hide_ (HU2.out.trans HU3.out)
          go_wp2
          go_ret
          exact ⟨by simp, by rw [HTx.out, Hy.out]; exact HW3, HUf⟩
        · have HTx : Hid (txtP (opnS stB x ++ ([] ++ clsS stB x)) = (⟨#[117]⟩ ++ ⟨#[54, 52]⟩ : ByteArray).data.toList) := hide_ (by rw [hop, hcl]; unfold wordT; rw [if_pos e, hn]; simp [txtP, wb_w, wordN])
          have HDg : Hid (Calls Try.prog 25 #[.int .i64 64] w1 fun e w' => e = .returned (.string ⟨#[54, 52]⟩) ∧ Below w1.heap.size w1 w') := hide_ (dig_at 64 64 _ rfl (by rw [dec64]) (by decide) w1)
          rw [e] at x0
          rw [hn] at x1
          clear hop hcl hLn hb hk e kd0 k9 hn
          go_wp2_with fail
          refine HDg.out.mono ?_; rintro e w2 ⟨rfl, hB2⟩
          have HW2 := hide_ (HW1.out.later hB2)
          have HU2 : Hid (UpdE B g gn w w2) := hide_ (HU1.out.trans (UpdE.of_below hB2))
          clear hB2 HDg
          go_wp2_with fail
          generalize hU8 : ((⟨#[117]⟩ : ByteArray) ++ _) = U8 at HTx ⊢
          have hU8s : U8.size ≤ 100 := by rw [← hU8, ByteArray.size_append]; decide
          clear hU8
          refine (putS_any g B gn cn b (pre ++ (y :: post)) U8 w2 HW2 (by omega) (by omega)).mono ?_; rintro e w3 ⟨rfl, HW3, HU3⟩
          have HUf := hide_ (HU2.out.trans HU3.out)
          go_wp2
          go_ret
          exact ⟨by simp, by rw [HTx.out, Hy.out]; exact HW3, HUf⟩
    · have hne : x.k ≠ 7 ∧ x.k ≠ 8 := by omega
      have hq := HQ.out
      rw [kd1] at hq
      obtain ⟨f, z, A1, PA, A1', rfl, rfl, hz, hQ1, rfl, rfl⟩ := wq_one hne.1 hne.2 hq
      have hnum := nd_num H2.out hk
      have hnb := of_decide_eq_true hnum
      obtain ⟨n, hn⟩ : ∃ n : Nat, x.n = (n : Int) := ⟨x.n.toNat, by omega⟩
      have hnn : n ≤ 2147483647 := by omega
      obtain ⟨W, hW, hWs⟩ : ∃ W : ByteArray, txtP (opnS stB x) = W.data.toList ∧ ((x.k = 4 ∧ W = ⟨#[118, 101, 99, 116, 111, 114, 60]⟩) ∨ (x.k = 5 ∧ W = ⟨#[108, 105, 115, 116, 32, 60]⟩)) := by
        rcases hk with e | e
        · exact ⟨⟨#[118, 101, 99, 116, 111, 114, 60]⟩, by simp [opnS, wordT, e, txtP, wb_w, wb_m], .inl ⟨e, rfl⟩⟩
        · exact ⟨⟨#[108, 105, 115, 116, 32, 60]⟩, by simp [opnS, wordT, e, txtP, wb_w, wb_m, stB], .inr ⟨e, rfl⟩⟩
      have hcl : txtP (clsS stB x) = [44, 32] ++ (dec n ++ [62]) := by unfold clsS; rw [if_pos hk, hn]; simp [txtP, wb_m, wb_n, stB]
      have hW7 : W.size ≤ 7 := by rcases hWs with ⟨_, rfl⟩ | ⟨_, rfl⟩ <;> decide
      have hl1 : (b ++ W.data.toList).length = b.length + (txtP (opnS stB x)).length := by rw [List.length_append, hW]
      rw [← hl1] at hQ1
      simp only [txtP_app, List.length_append] at hLn
      have hbW : (b ++ W.data.toList).length ≤ 800000000 := by rw [List.length_append, ← hW]; omega
      have hlk : (b ++ W.data.toList).length + (txtP (opnS stB z ++ (PA ++ clsS stB z))).length ≤ 800000000 := by simp only [txtP_app, List.length_append, ← hW]; omega
      have hTz : ((pre ++ [y]) ++ (z :: (A1 ++ post))).length = T := by rw [← HT.out]; simp
      have hpl : (((pre ++ [y]).length : Nat) : Int) = (i : Int) + 1 := by rw [List.length_append, Hi.out]; simp
      have HEx : Hid (∀ w2 : World, Hid (WrS w2 B g gn cn (b ++ W.data.toList) ((pre ++ [y]) ++ (z :: (A1 ++ post)))) → Calls Try.prog 18 #[.pointer (some ⟨g, 0, none⟩), .slice (some ⟨gn, 0, none⟩) T cn, .int .i64 ((i : Int) + 1), .bool false] w2 fun e w' => ExTo w2 B g gn cn (b ++ W.data.toList ++ txtP (opnS stB z ++ (PA ++ clsS stB z))) ((pre ++ [y]) ++ (atO z false (b ++ W.data.toList).length :: (A1' ++ post))) ((pre ++ [y]).length + 1 + A1.length) e w') := hide_ (fun w2 h => by
        have h3 := H.out f (by omega) w2 B g gn cn (b ++ W.data.toList) (d + 1) x.k z A1 (pre ++ [y]) post PA A1' false T hz hQ1 h hlk hTz hTb
        rw [hpl] at h3
        exact h3)
      have HLast : Hid (∀ X : List UInt8, b ++ W.data.toList ++ txtP (opnS stB z ++ (PA ++ clsS stB z)) ++ ([44, 32] ++ (dec n ++ [62])) = b ++ txtP (opnS stB x ++ ((opnS stB z ++ (PA ++ clsS stB z)) ++ clsS stB x))) := hide_ (fun _ => by rw [txtP_app (opnS stB x), txtP_app (opnS stB z ++ _) (clsS stB x), hW, hcl]; simp)
      have HLk := hide_ hlk
      have HL1 := hide_ hl1
      clear hcl hl1 hLn hbW hlk hTz hpl hQ1 hW hq HQ HLn hnum hb hz
      rcases hWs with ⟨e, rfl⟩ | ⟨e, rfl⟩
      · rw [e] at x0
        have hW7' := hW7
        generalize hWW : (⟨#[118, 101, 99, 116, 111, 114, 60]⟩ : ByteArray) = W at *
        go_wp2_with fail
        clear hWW
        refine (putS_any g B gn cn b (pre ++ (y :: (z :: (A1 ++ post)))) W w1 HW1 (by omega) (by omega)).mono ?_; rintro e w2 ⟨rfl, HW2, HU2⟩
        have HW2' : Hid (WrS w2 B g gn cn (b ++ W.data.toList) ((pre ++ [y]) ++ (z :: (A1 ++ post)))) := by rw [List.append_assoc]; exact HW2
        have HU2' := hide_ (HU1.out.trans HU2.out)
        have HK2 := hide_ (HK1.out.upd HU2.out (by
          rintro (e | e | ⟨-, zs, e⟩)
          · have := HLt.out.1; omega
          · have := HLt.out.2; omega
          · exact absurd (blk_type HK1.out e) (by decide)))
        clear HW2 HU2 HW1 HU1 x0 x1 x2
        obtain ⟨r2, hr2⟩ : ∃ r2, (pre ++ [y]).length + 1 + A1.length = r2 := ⟨_, rfl⟩
        have HEx2 := HEx.out w2 HW2'
        rw [hr2] at HEx2
        have HEx2 := hide_ HEx2
        have Hr2 : Hid ((r2 : Int) = ((i + 1 + (z :: A1).length : Nat) : Int)) := hide_ (by rw [← hr2, List.length_append, Hi.out]; simp; omega)
        clear hr2 HEx HW2'
        go_wp2_with fail
        refine HEx2.out.mono ?_; rintro e w3 ⟨rfl, HW3, HU3⟩
        have HU3' := hide_ (HU2'.out.trans HU3.out)
        have HK3 := hide_ (HK2.out.upd HU3.out (by
          rintro (e | e | ⟨-, zs, e⟩)
          · have := HLt.out.1; omega
          · have := HLt.out.2; omega
          · exact absurd (blk_type HK2.out e) (by decide)))
        have x1 := HK3.out.cell 1
        simp at x1
        rw [hn] at x1
        clear HEx2 HU3 HU2' HK2
        go_wp2_with fail
        refine (digits_dec n w3 hnn).mono ?_; rintro e w4 ⟨rfl, hB4⟩
        have HW4 := hide_ (HW3.out.later hB4)
        have HU4 := hide_ (HU3'.out.trans (UpdE.of_below (B := B) (g := g) (gn := gn) hB4))
        have hX : (⟨(dec n).toArray⟩ : ByteArray).size ≤ 20 := by rw [Lib.size_eq]; have := decF_len 20 n; simpa [dec] using this
        have HXd : Hid ((⟨(dec n).toArray⟩ : ByteArray).data.toList = dec n) := hide_ (by simp)
        generalize (⟨(dec n).toArray⟩ : ByteArray) = X at *
        clear hB4 HW3 HU3' x1
        go_wp2_with fail
        generalize hY : ((⟨#[44, 32]⟩ : ByteArray) ++ X ++ _) = Y
        have hYs : Y.size ≤ 30 := by rw [← hY, ByteArray.size_append, ByteArray.size_append]; show 2 + X.size + 1 ≤ 30; omega
        have HYd : Hid (Y.data.toList = [44, 32] ++ (dec n ++ [62])) := hide_ (by rw [← hY]; simp [HXd.out])
        have hb3 : (b ++ W.data.toList ++ txtP (opnS stB z ++ (PA ++ clsS stB z))).length ≤ 800000000 := by rw [List.length_append]; exact HLk.out
        clear hY
        refine (putS_any g B gn cn _ _ Y w4 HW4 (by omega) (by omega)).mono ?_; rintro e w5 ⟨rfl, HW5, HU5⟩
        have HUf := hide_ (HU4.out.trans HU5.out)
        have HWf : Hid (WrS w5 B g gn cn (b ++ txtP (opnS stB x ++ ((opnS stB z ++ (PA ++ clsS stB z)) ++ clsS stB x))) (pre ++ (atO x ins b.length :: (({ z with a := ((b.length + (txtP (opnS stB x)).length : Nat) : Int) } :: A1') ++ post)))) := hide_ (by
          have h := HW5.out
          rw [HYd.out, HLast.out []] at h
          rw [Hy.out, ← HL1.out]
          simpa [atO] using h)
        clear HW5 HU5 HW4 HU4 HLast HYd
        go_wp2
        go_ret
        exact ⟨by rw [← Hr2.out]; rfl, HWf, HUf⟩
      · rw [e] at x0
        have hW7' := hW7
        generalize hWW : (⟨#[108, 105, 115, 116, 32, 60]⟩ : ByteArray) = W at *
        go_wp2_with fail
        clear hWW
        refine (putS_any g B gn cn b (pre ++ (y :: (z :: (A1 ++ post)))) W w1 HW1 (by omega) (by omega)).mono ?_; rintro e w2 ⟨rfl, HW2, HU2⟩
        have HW2' : Hid (WrS w2 B g gn cn (b ++ W.data.toList) ((pre ++ [y]) ++ (z :: (A1 ++ post)))) := by rw [List.append_assoc]; exact HW2
        have HU2' := hide_ (HU1.out.trans HU2.out)
        have HK2 := hide_ (HK1.out.upd HU2.out (by
          rintro (e | e | ⟨-, zs, e⟩)
          · have := HLt.out.1; omega
          · have := HLt.out.2; omega
          · exact absurd (blk_type HK1.out e) (by decide)))
        clear HW2 HU2 HW1 HU1 x0 x1 x2
        obtain ⟨r2, hr2⟩ : ∃ r2, (pre ++ [y]).length + 1 + A1.length = r2 := ⟨_, rfl⟩
        have HEx2 := HEx.out w2 HW2'
        rw [hr2] at HEx2
        have HEx2 := hide_ HEx2
        have Hr2 : Hid ((r2 : Int) = ((i + 1 + (z :: A1).length : Nat) : Int)) := hide_ (by rw [← hr2, List.length_append, Hi.out]; simp; omega)
        clear hr2 HEx HW2'
        go_wp2_with fail
        refine HEx2.out.mono ?_; rintro e w3 ⟨rfl, HW3, HU3⟩
        have HU3' := hide_ (HU2'.out.trans HU3.out)
        have HK3 := hide_ (HK2.out.upd HU3.out (by
          rintro (e | e | ⟨-, zs, e⟩)
          · have := HLt.out.1; omega
          · have := HLt.out.2; omega
          · exact absurd (blk_type HK2.out e) (by decide)))
        have x1 := HK3.out.cell 1
        simp at x1
        rw [hn] at x1
        clear HEx2 HU3 HU2' HK2
        go_wp2_with fail
        refine (digits_dec n w3 hnn).mono ?_; rintro e w4 ⟨rfl, hB4⟩
        have HW4 := hide_ (HW3.out.later hB4)
        have HU4 := hide_ (HU3'.out.trans (UpdE.of_below (B := B) (g := g) (gn := gn) hB4))
        have hX : (⟨(dec n).toArray⟩ : ByteArray).size ≤ 20 := by rw [Lib.size_eq]; have := decF_len 20 n; simpa [dec] using this
        have HXd : Hid ((⟨(dec n).toArray⟩ : ByteArray).data.toList = dec n) := hide_ (by simp)
        generalize (⟨(dec n).toArray⟩ : ByteArray) = X at *
        clear hB4 HW3 HU3' x1
        go_wp2_with fail
        generalize hY : ((⟨#[44, 32]⟩ : ByteArray) ++ X ++ _) = Y
        have hYs : Y.size ≤ 30 := by rw [← hY, ByteArray.size_append, ByteArray.size_append]; show 2 + X.size + 1 ≤ 30; omega
        have HYd : Hid (Y.data.toList = [44, 32] ++ (dec n ++ [62])) := hide_ (by rw [← hY]; simp [HXd.out])
        have hb3 : (b ++ W.data.toList ++ txtP (opnS stB z ++ (PA ++ clsS stB z))).length ≤ 800000000 := by rw [List.length_append]; exact HLk.out
        clear hY
        refine (putS_any g B gn cn _ _ Y w4 HW4 (by omega) (by omega)).mono ?_; rintro e w5 ⟨rfl, HW5, HU5⟩
        have HUf := hide_ (HU4.out.trans HU5.out)
        have HWf : Hid (WrS w5 B g gn cn (b ++ txtP (opnS stB x ++ ((opnS stB z ++ (PA ++ clsS stB z)) ++ clsS stB x))) (pre ++ (atO x ins b.length :: (({ z with a := ((b.length + (txtP (opnS stB x)).length : Nat) : Int) } :: A1') ++ post)))) := hide_ (by
          have h := HW5.out
          rw [HYd.out, HLast.out []] at h
          rw [Hy.out, ← HL1.out]
          simpa [atO] using h)
        clear HW5 HU5 HW4 HU4 HLast HYd
        go_wp2
        go_ret
        exact ⟨by rw [← Hr2.out]; rfl, HWf, HUf⟩
    · have hq := HQ.out
      rw [kd1] at hq
      obtain ⟨f, z, A1, PA, A1', rfl, rfl, hz, hQ1, rfl, rfl⟩ := wq_one (by omega) (by omega) hq
      obtain ⟨W, hWW⟩ : ∃ W : ByteArray, (⟨#[111, 112, 116, 105, 111, 110, 60]⟩ : ByteArray) = W := ⟨_, rfl⟩
      have hW : txtP (opnS stB x) = W.data.toList := by rw [← hWW]; simp [opnS, wordT, hk, txtP, wb_w, wb_m]
      have hcl : txtP (clsS stB x) = [62] := by unfold clsS; rw [if_neg (by omega), if_pos hk]; simp [txtP, wb_m]
      have hW7 : W.size ≤ 7 := by rw [← hWW]; decide
      have hl1 : (b ++ W.data.toList).length = b.length + (txtP (opnS stB x)).length := by rw [List.length_append, hW]
      rw [← hl1] at hQ1
      simp only [txtP_app, List.length_append] at hLn
      have hlk : (b ++ W.data.toList).length + (txtP (opnS stB z ++ (PA ++ clsS stB z))).length ≤ 800000000 := by simp only [txtP_app, List.length_append, ← hW]; omega
      have hTz : ((pre ++ [y]) ++ (z :: (A1 ++ post))).length = T := by rw [← HT.out]; simp
      have hpl : (((pre ++ [y]).length : Nat) : Int) = (i : Int) + 1 := by rw [List.length_append, Hi.out]; simp
      obtain ⟨r2, hr2⟩ : ∃ r2, (pre ++ [y]).length + 1 + A1.length = r2 := ⟨_, rfl⟩
      have HEx : Hid (∀ w2 : World, Hid (WrS w2 B g gn cn (b ++ W.data.toList) ((pre ++ [y]) ++ (z :: (A1 ++ post)))) → Calls Try.prog 18 #[.pointer (some ⟨g, 0, none⟩), .slice (some ⟨gn, 0, none⟩) T cn, .int .i64 ((i : Int) + 1), .bool false] w2 fun e w' => ExTo w2 B g gn cn (b ++ W.data.toList ++ txtP (opnS stB z ++ (PA ++ clsS stB z))) ((pre ++ [y]) ++ (atO z false (b ++ W.data.toList).length :: (A1' ++ post))) r2 e w') := hide_ (fun w2 h => by
        have h3 := H.out f (by omega) w2 B g gn cn (b ++ W.data.toList) (d + 1) x.k z A1 (pre ++ [y]) post PA A1' false T hz hQ1 h hlk hTz hTb
        rw [hpl, hr2] at h3
        exact h3)
      have HLast : Hid (b ++ W.data.toList ++ txtP (opnS stB z ++ (PA ++ clsS stB z)) ++ [62] = b ++ txtP (opnS stB x ++ ((opnS stB z ++ (PA ++ clsS stB z)) ++ clsS stB x))) := hide_ (by rw [txtP_app (opnS stB x), txtP_app (opnS stB z ++ _) (clsS stB x), hW, hcl]; simp)
      have Hr2 : Hid ((r2 : Int) = ((i + 1 + (z :: A1).length : Nat) : Int)) := hide_ (by rw [← hr2, List.length_append, Hi.out]; simp; omega)
      have HLk := hide_ hlk
      have HL1 := hide_ hl1
      rw [hk] at x0
      clear hcl hl1 hLn hlk hTz hpl hQ1 hW hq HQ HLn hb hz hr2
      go_wp2_with fail
      clear hWW
      refine (putS_any g B gn cn b (pre ++ (y :: (z :: (A1 ++ post)))) W w1 HW1 (by omega) (by omega)).mono ?_; rintro e w2 ⟨rfl, HW2, HU2⟩
      have HW2' : Hid (WrS w2 B g gn cn (b ++ W.data.toList) ((pre ++ [y]) ++ (z :: (A1 ++ post)))) := by rw [List.append_assoc]; exact HW2
      have HU2' := hide_ (HU1.out.trans HU2.out)
      have HEx2 := hide_ (HEx.out w2 HW2')
      clear HW2 HU2 HW1 HU1 x0 x1 x2 HEx HW2'
      go_wp2_with fail
      refine HEx2.out.mono ?_; rintro e w3 ⟨rfl, HW3, HU3⟩
      have HU3' := hide_ (HU2'.out.trans HU3.out)
      clear HEx2 HU3 HU2'
      have hb3 : (b ++ W.data.toList ++ txtP (opnS stB z ++ (PA ++ clsS stB z))).length ≤ 800000000 := by rw [List.length_append]; exact HLk.out
      go_wp2_with fail
      refine (putS_any g B gn cn _ _ ⟨#[62]⟩ w3 HW3 (by omega) (by decide)).mono ?_; rintro e w5 ⟨rfl, HW5, HU5⟩
      have HUf := hide_ (HU3'.out.trans HU5.out)
      have HWf : Hid (WrS w5 B g gn cn (b ++ txtP (opnS stB x ++ ((opnS stB z ++ (PA ++ clsS stB z)) ++ clsS stB x))) (pre ++ (atO x ins b.length :: (({ z with a := ((b.length + (txtP (opnS stB x)).length : Nat) : Int) } :: A1') ++ post)))) := hide_ (by
        have h := HW5.out
        rw [show (⟨#[62]⟩ : ByteArray).data.toList = [62] from rfl, HLast.out] at h
        rw [Hy.out, ← HL1.out]
        simpa [atO] using h)
      clear HW5 HU5 HW3 HU3' HLast
      go_wp2
      go_ret
      exact ⟨by rw [← Hr2.out]; rfl, HWf, HUf⟩
    · obtain ⟨m, hm⟩ : ∃ m : Nat, x.kids.toNat = m := ⟨_, rfl⟩
      have hmk : x.kids = (m : Int) := by omega
      have hm64 : m ≤ 64 := by have := (nd_ok H2.out).2.2.2.2.2; omega
      obtain ⟨T1, hT1⟩ : ∃ T1, b ++ txtP (opnS stB x ++ P) = T1 := ⟨_, rfl⟩
      obtain ⟨NF, hNF⟩ : ∃ NF, pre ++ (y :: (A' ++ post)) = NF := ⟨_, rfl⟩
      have hT1l : T1.length ≤ 800000000 := by rw [← hT1]; simp only [txtP_app, List.length_append] at hLn ⊢; omega
      have hq := HQ.out
      rw [hm] at hq
      have hAl := wq_len _ _ _ _ _ _ _ _ hq
      have hS0 : ∀ W : ByteArray, txtP (opnS stB x) = W.data.toList → KidR fu (d + 1) m x.k T1 NF post 0 (b ++ W.data.toList) (pre ++ [y]) A := fun W hW => by
        have hs : sp 0 m = [] := by unfold sp; rw [if_neg (by omega)]
        refine ⟨fu, P, A', Nat.le_refl _, ?_, ?_, ?_⟩
        · rw [hs, List.append_nil, List.length_append, ← hW]; exact hq
        · rw [hs, ← hT1, txtP_app, hW]; simp
        · rw [← hNF]; simp
      have HEnd : Hid (∀ pr : List Nd, pr ++ post = NF → pr.length = i + 1 + A.length) := hide_ (fun pr h => by
        have h2 := congrArg List.length (h.trans hNF.symm)
        simp [hAl, Hi.out] at h2
        omega)
      have hcl : txtP (clsS stB x) = [125] := by unfold clsS; rw [if_neg (by omega), if_neg (by omega), if_pos hk]; simp [txtP, wb_m]
      have HFin : Hid (T1 ++ [125] = b ++ txtP (opnS stB x ++ (P ++ clsS stB x))) := hide_ (by rw [← hT1, ← List.append_assoc (opnS stB x), txtP_app _ (clsS stB x), hcl]; simp)
      have HNF : Hid (NF = pre ++ (atO x ins b.length :: (A' ++ post))) := hide_ (by rw [← hNF, Hy.out])
      have hLe0 : (pre ++ [y]).length + (A.length + post.length) = T := by rw [← HT.out]; simp; omega
      have hn0 : (pre ++ [y]).length = i + 1 := by simp [Hi.out]
      have x5 := HK1.out.cell 5
      simp at x5
      rw [hmk] at x5
      clear hcl hAl hq hLn HLn HQ hT1 hNF hb
      rcases hk with e7 | e7
      · obtain ⟨W, hWW⟩ : ∃ W : ByteArray, (⟨#[117, 110, 105, 111, 110, 123]⟩ : ByteArray) = W := ⟨_, rfl⟩
        have hW : txtP (opnS stB x) = W.data.toList := by rw [← hWW]; simp [opnS, wordT, e7, txtP, wb_w, wb_m]
        have hS := hS0 W hW
        rw [e7] at hS
        have HS := hide_ hS
        have hW7 : W.size ≤ 8 := by rw [← hWW]; decide
        rw [e7] at x0
        clear hS hS0 hW
        go_wp2_with fail
        clear hWW
        refine (putS_any g B gn cn b (pre ++ (y :: (A ++ post))) W w1 HW1 (by omega) (by omega)).mono ?_; rintro e w2 ⟨rfl, HW2, HU2⟩
        have HW2' : Hid (WrS w2 B g gn cn (b ++ W.data.toList) ((pre ++ [y]) ++ (A ++ post))) := by rw [List.append_assoc]; exact HW2
        have HU2' := hide_ (HU1.out.trans HU2.out)
        have HK2 := hide_ (HK1.out.upd HU2.out (by
          rintro (e | e | ⟨-, zs, e⟩)
          · have := HLt.out.1; omega
          · have := HLt.out.2; omega
          · exact absurd (blk_type HK1.out e) (by decide)))
        clear HW2 HU2 HW1 HU1 x0 x1 x2 x5 HK1
        go_wp2_with fail
        go_loopw [10, 12] (fun x10 x12 wr => ∃ (n r : Nat) (bb : List UInt8) (pr Rm : List Nd), x10 = .int .i64 (n : Int) ∧ x12 = .int .i64 (r : Int) ∧ r ≤ m ∧ n ≤ T ∧ Hid (pr.length = n) ∧ Hid (KidR fu (d + 1) m 7 T1 NF post r bb pr Rm) ∧ Hid (n + (Rm.length + post.length) = T) ∧ Hid (WrS wr B g gn cn bb (pr ++ (Rm ++ post))) ∧ Hid (UpdE B g gn w wr) ∧ Hid (Blk wr w.heap.size 40 [.int .i64 x.k, .int .i64 x.n, .string x.name, .string x.label, .int .i64 x.tag, .int .i64 x.kids, .int .i64 x.a])) (fun _ x12 _ => m - (intOf x12).toNat)
        case atStart => exact ⟨i + 1, 0, _, _, _, by go_num, rfl, Nat.zero_le _, by omega, hide_ hn0, HS, hide_ (by rw [← hn0]; exact hLe0), HW2', HU2', HK2⟩
        case round =>
          obtain ⟨n, r, bb, pr, Rm, rfl, rfl, hrm, hnT, Hn, HKd, HLe, HWr, HUr, HKr⟩ := hrel
          generalize wr = wz at *
          have x0 := HKr.out.cell 0; have x5 := HKr.out.cell 5
          simp at x0 x5
          rw [e7] at x0
          rw [hmk] at x5
          clear HW2' HU2' HK2 HS hn0 hLe0
          by_cases hr : r < m
          · have hr' : (r : Int) < m := by omega
            obtain ⟨f, z, A1, Rm2, PA, A1', hf, rfl, hz, hAl, hQ1, hKd2, hLb⟩ := HKd.out.step (.inl rfl) hr
            have htg := of_decide_eq_true (nd_tag hz)
            obtain ⟨tg, htn⟩ : ∃ tg : Nat, z.tag = (tg : Int) := ⟨z.tag.toNat, by omega⟩
            have htl : tg ≤ 2147483647 := by omega
            have Hhd : Hid (txtP (hdS stB 7 z) = dec tg ++ [58]) := hide_ (by unfold hdS; rw [if_pos rfl, htn]; simp [txtP, wb_n, wb_m, stB])
            obtain ⟨b1, hb1⟩ : ∃ b1, bb ++ sp r m = b1 := ⟨_, rfl⟩
            rw [hb1] at hQ1 hKd2 hLb
            obtain ⟨z', hz'⟩ : ∃ z' : Nd, { z with a := (b1.length : Int) } = z' := ⟨_, rfl⟩
            obtain ⟨b2, hb2⟩ : ∃ b2, b1 ++ txtP (hdS stB 7 z) = b2 := ⟨_, rfl⟩
            rw [hb2] at hQ1 hKd2 hLb
            rw [hz'] at hKd2
            obtain ⟨b3, hb3⟩ : ∃ b3, b2 ++ txtP (opnS stB z ++ (PA ++ clsS stB z)) = b3 := ⟨_, rfl⟩
            rw [hb3] at hKd2
            have hle := HLe.out
            simp only [List.length_cons, List.length_append] at hle
            have hnT' : (n : Int) < T := by omega
            have hb12 : b1.length ≤ b2.length := by rw [← hb2, List.length_append]; omega
            have hb1l : b1.length ≤ 800000000 := by omega
            have hbbl : bb.length ≤ 800000000 := by
              have : bb.length ≤ b1.length := by rw [← hb1, List.length_append]; omega
              omega
            have hlb2 : b2.length + (txtP (opnS stB z ++ (PA ++ clsS stB z))).length ≤ 800000000 := by omega
            have hop : opnS stB z' = opnS stB z := by rw [← hz']; rfl
            have hcl : clsS stB z' = clsS stB z := by rw [← hz']; rfl
            have hat : atO z' true b2.length = z' := by cases z'; rfl
            obtain ⟨n2, hn2⟩ : ∃ n2, n + 1 + A1.length = n2 := ⟨_, rfl⟩
            have HEx : Hid (∀ w6 : World, Hid (WrS w6 B g gn cn b2 (pr ++ (z' :: (A1 ++ (Rm2 ++ post))))) → Calls Try.prog 18 #[.pointer (some ⟨g, 0, none⟩), .slice (some ⟨gn, 0, none⟩) T cn, .int .i64 (n : Int), .bool true] w6 fun e w' => ExTo w6 B g gn cn b3 (pr ++ (z' :: (A1' ++ (Rm2 ++ post)))) n2 e w') := hide_ (fun w6 h => by
              have h3 := H.out f hf w6 B g gn cn b2 (d + 1) 7 z' A1 pr (Rm2 ++ post) PA A1' true T (by rw [← hz']; exact hz) (by rw [hop]; rw [← hz']; exact hQ1) h (by rw [hop, hcl]; exact hlb2) (by simp [Hn.out]; omega) hTb
              rw [hop, hcl, hat, hb3, Hn.out, hn2] at h3
              exact h3)
            have HKd2 := hide_ hKd2
            have HLe2 : Hid (n2 + (Rm2.length + post.length) = T) := hide_ (by omega)
            have Hn2 : Hid ((pr ++ (z' :: A1')).length = n2) := hide_ (by rw [List.length_append, List.length_cons, Hn.out, hAl]; omega)
            have hn2T : n2 ≤ T := by omega
            have HWr' : Hid (WrS wz B g gn cn bb (pr ++ (z :: (A1 ++ (Rm2 ++ post))))) := hide_ (by
              have h := HWr.out
              rw [List.cons_append, List.append_assoc] at h
              exact h)
            have Hb1 := hide_ hb1
            have Hb2 := hide_ hb2
            have Hz' := hide_ hz'
            clear HWr hop hcl hat hb3 hlb2 hb12 hle hKd2 hQ1 hLb hz hz' hb1 hb2 hn2 hf HKd HLe
            go_upto_if 58 with fail
            go_cut [12] from 57 to 60 (fun x12 wc => x12 = .int .i64 (r : Int) ∧ ∃ w3, w3 = wc ∧ Hid (WrS w3 B g gn cn b1 (pr ++ (z :: (A1 ++ (Rm2 ++ post))))) ∧ Hid (Blk w3 w.heap.size 40 [.int .i64 x.k, .int .i64 x.n, .string x.name, .string x.label, .int .i64 x.tag, .int .i64 x.kids, .int .i64 x.a]) ∧ Hid (UpdE B g gn w w3))
            case first =>
              rcases Nat.eq_zero_or_pos r with h0 | h0
              · subst h0
                have hbb : bb = b1 := by rw [← Hb1.out]; simp [sp]
                go_wp2
                go_meet
                case rel => exact ⟨rfl, _, rfl, by rw [← hbb]; exact HWr', HKr, HUr⟩
              · have h0' : (0 : Int) < r := by omega
                have hbb : bb ++ (⟨#[44]⟩ : ByteArray).data.toList = b1 := by rw [← Hb1.out]; unfold sp; rw [if_pos ⟨h0, hr⟩]
                have Hbb := hide_ hbb
                clear hbb
                go_wp2_with fail
                refine (putS_any g B gn cn bb _ ⟨#[44]⟩ wz HWr' (by omega) (by decide)).mono ?_; rintro e w3 ⟨rfl, HW3, HU3⟩
                have HK3 := hide_ (HKr.out.upd HU3.out (by
                  rintro (e | e | ⟨-, zs, e⟩)
                  · have := HLt.out.1; omega
                  · have := HLt.out.2; omega
                  · exact absurd (blk_type HKr.out e) (by decide)))
                have HU3' := hide_ (HUr.out.trans HU3.out)
                rw [Hbb.out] at HW3
                clear HU3
                go_wp2
                go_meet
                case rel => exact ⟨rfl, _, rfl, HW3, HK3, HU3'⟩
            case rest =>
            obtain ⟨rfl, w3, rfl, HW3, HK3, HU3⟩ := hcut
            clear x0 x5 HWr' HKr HUr
            have hx : (pr ++ (z :: (A1 ++ (Rm2 ++ post))))[n]? = some z := by have h := mid_at pr z (A1 ++ (Rm2 ++ post)); rw [Hn.out] at h; exact h
            have hx' : (pr ++ (z' :: (A1 ++ (Rm2 ++ post))))[n]? = some z' := by have h := mid_at pr z' (A1 ++ (Rm2 ++ post)); rw [Hn.out] at h; exact h
            obtain ⟨hBg, vb, hKg, hR⟩ := HW3.out.1
            obtain ⟨a, cap, hvb⟩ := hR.form
            subst hvb
            have g0 := hKg.cell 0
            simp at g0
            have e6 := HW3.out.2.at hx 6 (by decide)
            simp [ndc] at e6
            have z6 := HW3.out.2.frozen (n * 7 + 6)
            have HW4 : Hid (WrS (w3.setCell ⟨gn, n * 7 + 6, none⟩ (.int .i64 (b1.length : Int))) B g gn cn b1 (pr ++ (z' :: (A1 ++ (Rm2 ++ post))))) := hide_ (by
              have h := HW3.out.setA hx (b1.length : Int)
              have e : (pr ++ (z :: (A1 ++ (Rm2 ++ post)))).set n { z with a := (b1.length : Int) } = pr ++ (z' :: (A1 ++ (Rm2 ++ post))) := by rw [← Hn.out, Hz'.out]; exact mid_set _ _ _ _
              rw [e] at h
              exact h)
            have HK4 : Hid (Blk (w3.setCell ⟨gn, n * 7 + 6, none⟩ (.int .i64 (b1.length : Int))) w.heap.size 40 [.int .i64 x.k, .int .i64 x.n, .string x.name, .string x.label, .int .i64 x.tag, .int .i64 x.kids, .int .i64 x.a]) := hide_ (HK3.out.other _ _ (by
              have := HLt.out.2
              show w.heap.size ≠ gn
              omega))
            have HU4 : Hid (UpdE B g gn w (w3.setCell ⟨gn, n * 7 + 6, none⟩ (.int .i64 (b1.length : Int)))) := hide_ (HU3.out.trans (set_upd B g gn w3 _ _))
            obtain ⟨w4, hw4⟩ : ∃ w4, w4 = w3.setCell ⟨gn, n * 7 + 6, none⟩ (.int .i64 (b1.length : Int)) := ⟨_, rfl⟩
            rw [← hw4] at HW4 HK4 HU4
            clear hKg hR hBg hx
            go_upto_region 18 with fail
            rw [← hw4]
            clear hw4 g0 e6 z6 HW3 HK3 HU3
            have y0 := HK4.out.cell 0
            simp at y0
            rw [e7] at y0
            have y4 := HW4.out.2.at hx' 4 (by decide)
            simp [ndc] at y4
            rw [show z'.tag = (tg : Int) from by rw [← Hz'.out]; exact htn] at y4
            clear hx'
            go_wp2_with fail
            refine (digits_dec tg w4 htl).mono ?_; rintro e w5 ⟨rfl, hB5⟩
            have HW5 := hide_ (HW4.out.later hB5)
            have HK5 := hide_ (HK4.out.later hB5)
            have HU5 := hide_ (HU4.out.trans (UpdE.of_below (B := B) (g := g) (gn := gn) hB5))
            have hX : (⟨(dec tg).toArray⟩ : ByteArray).size ≤ 20 := by rw [Lib.size_eq]; have := decF_len 20 tg; simpa [dec] using this
            have HXd : Hid ((⟨(dec tg).toArray⟩ : ByteArray).data.toList = dec tg) := hide_ (by simp)
            generalize (⟨(dec tg).toArray⟩ : ByteArray) = X at *
            clear hB5 HW4 HU4 HK4 y4
            go_wp2_with fail
            generalize hY : (X ++ (⟨#[58]⟩ : ByteArray)) = Y
            have hYs : Y.size ≤ 30 := by rw [← hY, ByteArray.size_append]; show X.size + 1 ≤ 30; omega
            have HY2 : Hid (b1 ++ Y.data.toList = b2) := hide_ (by rw [← Hb2.out, Hhd.out, ← hY]; simp [HXd.out])
            clear hY
            refine (putS_any g B gn cn b1 _ Y w5 HW5 (by omega) (by omega)).mono ?_; rintro e w6 ⟨rfl, HW6, HU6⟩
            have HK6 := hide_ (HK5.out.upd HU6.out (by
              rintro (e | e | ⟨-, zs, e⟩)
              · have := HLt.out.1; omega
              · have := HLt.out.2; omega
              · exact absurd (blk_type HK5.out e) (by decide)))
            have HU6' := hide_ (HU5.out.trans HU6.out)
            have HW6' : Hid (WrS w6 B g gn cn b2 (pr ++ (z' :: (A1 ++ (Rm2 ++ post))))) := by rw [← HY2.out]; exact HW6
            have HEx2 := hide_ (HEx.out w6 HW6')
            clear HW6 HU6 HW6' HEx HU5 HK5 HW5 y0
            go_wp2_with fail
            refine HEx2.out.mono ?_; rintro e w7 ⟨rfl, HW7, HU7⟩
            have HK7 := hide_ (HK6.out.upd HU7.out (by
              rintro (e | e | ⟨-, zs, e⟩)
              · have := HLt.out.1; omega
              · have := HLt.out.2; omega
              · exact absurd (blk_type HK6.out e) (by decide)))
            have HU7' := hide_ (HU6'.out.trans HU7.out)
            have HW7' : Hid (WrS w7 B g gn cn b3 ((pr ++ (z' :: A1')) ++ (Rm2 ++ post))) := hide_ (by
              have h := HW7.out
              rw [List.append_assoc, List.cons_append]
              exact h)
            clear HEx2 HU7 HW7 HU6' HK6
            go_wp2
            go_roundw
            case rel => exact ⟨n2, r + 1, b3, pr ++ (z' :: A1'), Rm2, rfl, by go_num, by omega, hn2T, Hn2, HKd2, HLe2, HW7', HU7', HK7⟩
            case measure => simp [intOf]; omega
          · obtain rfl : r = m := by omega
            obtain ⟨rfl, hpr, rfl⟩ := HKd.out.done
            have hrn := HEnd.out pr hpr
            rw [Hn.out] at hrn
            have Hrn := hide_ hrn
            have Hpr := hide_ hpr
            rw [List.nil_append] at HWr
            have HWr' : Hid (WrS wz B g gn cn bb NF) := by rw [← Hpr.out]; exact HWr
            clear hrn hpr HKd HLe
            go_wp2_with fail
            refine (putS_any g B gn cn bb _ ⟨#[125]⟩ wz HWr' (by omega) (by decide)).mono ?_; rintro e w5 ⟨rfl, HW5, HU5⟩
            have HUf := hide_ (HUr.out.trans HU5.out)
            have HWf : Hid (WrS w5 B g gn cn (b ++ txtP (opnS stB x ++ (P ++ clsS stB x))) (pre ++ (atO x ins b.length :: (A' ++ post)))) := hide_ (by
              have h := HW5.out
              rw [show (⟨#[125]⟩ : ByteArray).data.toList = [125] from rfl, HFin.out, HNF.out] at h
              exact h)
            clear HW5 HU5
            go_wp2
            go_ret
            exact ⟨by rw [← Hrn.out]; rfl, HWf, HUf⟩
      · obtain ⟨W, hWW⟩ : ∃ W : ByteArray, (⟨#[115, 116, 114, 117, 99, 116, 32, 123]⟩ : ByteArray) = W := ⟨_, rfl⟩
        have hW : txtP (opnS stB x) = W.data.toList := by rw [← hWW]; simp [opnS, wordT, e7, txtP, wb_w, wb_m, stB]
        have hS := hS0 W hW
        rw [e7] at hS
        have HS := hide_ hS
        have hW7 : W.size ≤ 8 := by rw [← hWW]; decide
        rw [e7] at x0
        clear hS hS0 hW
        go_wp2_with fail
        clear hWW
        refine (putS_any g B gn cn b (pre ++ (y :: (A ++ post))) W w1 HW1 (by omega) (by omega)).mono ?_; rintro e w2 ⟨rfl, HW2, HU2⟩
        have HW2' : Hid (WrS w2 B g gn cn (b ++ W.data.toList) ((pre ++ [y]) ++ (A ++ post))) := by rw [List.append_assoc]; exact HW2
        have HU2' := hide_ (HU1.out.trans HU2.out)
        have HK2 := hide_ (HK1.out.upd HU2.out (by
          rintro (e | e | ⟨-, zs, e⟩)
          · have := HLt.out.1; omega
          · have := HLt.out.2; omega
          · exact absurd (blk_type HK1.out e) (by decide)))
        clear HW2 HU2 HW1 HU1 x0 x1 x2 x5 HK1
        go_wp2_with fail
        go_loopw [10, 12] (fun x10 x12 wr => ∃ (n r : Nat) (bb : List UInt8) (pr Rm : List Nd), x10 = .int .i64 (n : Int) ∧ x12 = .int .i64 (r : Int) ∧ r ≤ m ∧ n ≤ T ∧ Hid (pr.length = n) ∧ Hid (KidR fu (d + 1) m 8 T1 NF post r bb pr Rm) ∧ Hid (n + (Rm.length + post.length) = T) ∧ Hid (WrS wr B g gn cn bb (pr ++ (Rm ++ post))) ∧ Hid (UpdE B g gn w wr) ∧ Hid (Blk wr w.heap.size 40 [.int .i64 x.k, .int .i64 x.n, .string x.name, .string x.label, .int .i64 x.tag, .int .i64 x.kids, .int .i64 x.a])) (fun _ x12 _ => m - (intOf x12).toNat)
        case atStart => exact ⟨i + 1, 0, _, _, _, by go_num, rfl, Nat.zero_le _, by omega, hide_ hn0, HS, hide_ (by rw [← hn0]; exact hLe0), HW2', HU2', HK2⟩
        case round =>
          obtain ⟨n, r, bb, pr, Rm, rfl, rfl, hrm, hnT, Hn, HKd, HLe, HWr, HUr, HKr⟩ := hrel
          generalize wr = wz at *
          have x0 := HKr.out.cell 0; have x5 := HKr.out.cell 5
          simp at x0 x5
          rw [e7] at x0
          rw [hmk] at x5
          clear HW2' HU2' HK2 HS hn0 hLe0
          by_cases hr : r < m
          · have hr' : (r : Int) < m := by omega
            obtain ⟨f, z, A1, Rm2, PA, A1', hf, rfl, hz, hAl, hQ1, hKd2, hLb⟩ := HKd.out.step (.inr rfl) hr
            have hlbl : z.label.size ≤ 32 := by
              have h := (nd_ok hz).2.2.2.1
              exact (of_decide_eq_true (show isName z.label = true from h)).2.1
            have Hhd : Hid (txtP (hdS stB 8 z) = z.label.data.toList ++ [58, 32]) := hide_ (by unfold hdS; rw [if_neg (by decide), if_pos rfl]; simp [txtP, wb_w, wb_m, stB])
            obtain ⟨b1, hb1⟩ : ∃ b1, bb ++ sp r m = b1 := ⟨_, rfl⟩
            rw [hb1] at hQ1 hKd2 hLb
            obtain ⟨z', hz'⟩ : ∃ z' : Nd, { z with a := (b1.length : Int) } = z' := ⟨_, rfl⟩
            obtain ⟨b2, hb2⟩ : ∃ b2, b1 ++ txtP (hdS stB 8 z) = b2 := ⟨_, rfl⟩
            rw [hb2] at hQ1 hKd2 hLb
            rw [hz'] at hKd2
            obtain ⟨b3, hb3⟩ : ∃ b3, b2 ++ txtP (opnS stB z ++ (PA ++ clsS stB z)) = b3 := ⟨_, rfl⟩
            rw [hb3] at hKd2
            have hle := HLe.out
            simp only [List.length_cons, List.length_append] at hle
            have hnT' : (n : Int) < T := by omega
            have hb12 : b1.length ≤ b2.length := by rw [← hb2, List.length_append]; omega
            have hb1l : b1.length ≤ 800000000 := by omega
            have hbbl : bb.length ≤ 800000000 := by
              have : bb.length ≤ b1.length := by rw [← hb1, List.length_append]; omega
              omega
            have hlb2 : b2.length + (txtP (opnS stB z ++ (PA ++ clsS stB z))).length ≤ 800000000 := by omega
            have hop : opnS stB z' = opnS stB z := by rw [← hz']; rfl
            have hcl : clsS stB z' = clsS stB z := by rw [← hz']; rfl
            have hat : atO z' true b2.length = z' := by cases z'; rfl
            obtain ⟨n2, hn2⟩ : ∃ n2, n + 1 + A1.length = n2 := ⟨_, rfl⟩
            have HEx : Hid (∀ w6 : World, Hid (WrS w6 B g gn cn b2 (pr ++ (z' :: (A1 ++ (Rm2 ++ post))))) → Calls Try.prog 18 #[.pointer (some ⟨g, 0, none⟩), .slice (some ⟨gn, 0, none⟩) T cn, .int .i64 (n : Int), .bool true] w6 fun e w' => ExTo w6 B g gn cn b3 (pr ++ (z' :: (A1' ++ (Rm2 ++ post)))) n2 e w') := hide_ (fun w6 h => by
              have h3 := H.out f hf w6 B g gn cn b2 (d + 1) 8 z' A1 pr (Rm2 ++ post) PA A1' true T (by rw [← hz']; exact hz) (by rw [hop]; rw [← hz']; exact hQ1) h (by rw [hop, hcl]; exact hlb2) (by simp [Hn.out]; omega) hTb
              rw [hop, hcl, hat, hb3, Hn.out, hn2] at h3
              exact h3)
            have HKd2 := hide_ hKd2
            have HLe2 : Hid (n2 + (Rm2.length + post.length) = T) := hide_ (by omega)
            have Hn2 : Hid ((pr ++ (z' :: A1')).length = n2) := hide_ (by rw [List.length_append, List.length_cons, Hn.out, hAl]; omega)
            have hn2T : n2 ≤ T := by omega
            have HWr' : Hid (WrS wz B g gn cn bb (pr ++ (z :: (A1 ++ (Rm2 ++ post))))) := hide_ (by
              have h := HWr.out
              rw [List.cons_append, List.append_assoc] at h
              exact h)
            have Hb1 := hide_ hb1
            have Hb2 := hide_ hb2
            have Hz' := hide_ hz'
            clear HWr hop hcl hat hb3 hlb2 hb12 hle hKd2 hQ1 hLb hz hz' hb1 hb2 hn2 hf HKd HLe
            go_upto_if 58 with fail
            go_cut [12] from 57 to 60 (fun x12 wc => x12 = .int .i64 (r : Int) ∧ ∃ w3, w3 = wc ∧ Hid (WrS w3 B g gn cn b1 (pr ++ (z :: (A1 ++ (Rm2 ++ post))))) ∧ Hid (Blk w3 w.heap.size 40 [.int .i64 x.k, .int .i64 x.n, .string x.name, .string x.label, .int .i64 x.tag, .int .i64 x.kids, .int .i64 x.a]) ∧ Hid (UpdE B g gn w w3))
            case first =>
              rcases Nat.eq_zero_or_pos r with h0 | h0
              · subst h0
                have hbb : bb = b1 := by rw [← Hb1.out]; simp [sp]
                go_wp2
                go_meet
                case rel => exact ⟨rfl, _, rfl, by rw [← hbb]; exact HWr', HKr, HUr⟩
              · have h0' : (0 : Int) < r := by omega
                have hbb : bb ++ (⟨#[44]⟩ : ByteArray).data.toList = b1 := by rw [← Hb1.out]; unfold sp; rw [if_pos ⟨h0, hr⟩]
                have Hbb := hide_ hbb
                clear hbb
                go_wp2_with fail
                refine (putS_any g B gn cn bb _ ⟨#[44]⟩ wz HWr' (by omega) (by decide)).mono ?_; rintro e w3 ⟨rfl, HW3, HU3⟩
                have HK3 := hide_ (HKr.out.upd HU3.out (by
                  rintro (e | e | ⟨-, zs, e⟩)
                  · have := HLt.out.1; omega
                  · have := HLt.out.2; omega
                  · exact absurd (blk_type HKr.out e) (by decide)))
                have HU3' := hide_ (HUr.out.trans HU3.out)
                rw [Hbb.out] at HW3
                clear HU3
                go_wp2
                go_meet
                case rel => exact ⟨rfl, _, rfl, HW3, HK3, HU3'⟩
            case rest =>
            obtain ⟨rfl, w3, rfl, HW3, HK3, HU3⟩ := hcut
            clear x0 x5 HWr' HKr HUr
            have hx : (pr ++ (z :: (A1 ++ (Rm2 ++ post))))[n]? = some z := by have h := mid_at pr z (A1 ++ (Rm2 ++ post)); rw [Hn.out] at h; exact h
            have hx' : (pr ++ (z' :: (A1 ++ (Rm2 ++ post))))[n]? = some z' := by have h := mid_at pr z' (A1 ++ (Rm2 ++ post)); rw [Hn.out] at h; exact h
            obtain ⟨hBg, vb, hKg, hR⟩ := HW3.out.1
            obtain ⟨a, cap, hvb⟩ := hR.form
            subst hvb
            have g0 := hKg.cell 0
            simp at g0
            have e6 := HW3.out.2.at hx 6 (by decide)
            simp [ndc] at e6
            have z6 := HW3.out.2.frozen (n * 7 + 6)
            have HW4 : Hid (WrS (w3.setCell ⟨gn, n * 7 + 6, none⟩ (.int .i64 (b1.length : Int))) B g gn cn b1 (pr ++ (z' :: (A1 ++ (Rm2 ++ post))))) := hide_ (by
              have h := HW3.out.setA hx (b1.length : Int)
              have e : (pr ++ (z :: (A1 ++ (Rm2 ++ post)))).set n { z with a := (b1.length : Int) } = pr ++ (z' :: (A1 ++ (Rm2 ++ post))) := by rw [← Hn.out, Hz'.out]; exact mid_set _ _ _ _
              rw [e] at h
              exact h)
            have HK4 : Hid (Blk (w3.setCell ⟨gn, n * 7 + 6, none⟩ (.int .i64 (b1.length : Int))) w.heap.size 40 [.int .i64 x.k, .int .i64 x.n, .string x.name, .string x.label, .int .i64 x.tag, .int .i64 x.kids, .int .i64 x.a]) := hide_ (HK3.out.other _ _ (by
              have := HLt.out.2
              show w.heap.size ≠ gn
              omega))
            have HU4 : Hid (UpdE B g gn w (w3.setCell ⟨gn, n * 7 + 6, none⟩ (.int .i64 (b1.length : Int)))) := hide_ (HU3.out.trans (set_upd B g gn w3 _ _))
            obtain ⟨w4, hw4⟩ : ∃ w4, w4 = w3.setCell ⟨gn, n * 7 + 6, none⟩ (.int .i64 (b1.length : Int)) := ⟨_, rfl⟩
            rw [← hw4] at HW4 HK4 HU4
            clear hKg hR hBg hx
            go_upto_region 18 with fail
            rw [← hw4]
            clear hw4 g0 e6 z6 HW3 HK3 HU3
            have y0 := HK4.out.cell 0
            simp at y0
            rw [e7] at y0
            have y3 := HW4.out.2.at hx' 3 (by decide)
            simp [ndc] at y3
            rw [show z'.label = z.label from by rw [← Hz'.out]] at y3
            clear hx'
            obtain ⟨w5, hw5⟩ : ∃ w5, w4 = w5 := ⟨_, rfl⟩
            subst hw5
            have HW5 := HW4
            have HK5 := HK4
            have HU5 := HU4
            clear HW4 HU4 HK4
            generalize z.label = X at *
            go_wp2_with fail
            generalize hY : (X ++ (⟨#[58, 32]⟩ : ByteArray)) = Y
            have hYs : Y.size ≤ 40 := by rw [← hY, ByteArray.size_append]; show X.size + 2 ≤ 40; omega
            have HY2 : Hid (b1 ++ Y.data.toList = b2) := hide_ (by rw [← Hb2.out, Hhd.out, ← hY]; simp)
            clear hY y3
            refine (putS_any g B gn cn b1 _ Y w4 HW5 (by omega) (by omega)).mono ?_; rintro e w6 ⟨rfl, HW6, HU6⟩
            have HK6 := hide_ (HK5.out.upd HU6.out (by
              rintro (e | e | ⟨-, zs, e⟩)
              · have := HLt.out.1; omega
              · have := HLt.out.2; omega
              · exact absurd (blk_type HK5.out e) (by decide)))
            have HU6' := hide_ (HU5.out.trans HU6.out)
            have HW6' : Hid (WrS w6 B g gn cn b2 (pr ++ (z' :: (A1 ++ (Rm2 ++ post))))) := by rw [← HY2.out]; exact HW6
            have HEx2 := hide_ (HEx.out w6 HW6')
            clear HW6 HU6 HW6' HEx HU5 HK5 HW5 y0
            go_wp2_with fail
            refine HEx2.out.mono ?_; rintro e w7 ⟨rfl, HW7, HU7⟩
            have HK7 := hide_ (HK6.out.upd HU7.out (by
              rintro (e | e | ⟨-, zs, e⟩)
              · have := HLt.out.1; omega
              · have := HLt.out.2; omega
              · exact absurd (blk_type HK6.out e) (by decide)))
            have HU7' := hide_ (HU6'.out.trans HU7.out)
            have HW7' : Hid (WrS w7 B g gn cn b3 ((pr ++ (z' :: A1')) ++ (Rm2 ++ post))) := hide_ (by
              have h := HW7.out
              rw [List.append_assoc, List.cons_append]
              exact h)
            clear HEx2 HU7 HW7 HU6' HK6
            go_wp2
            go_roundw
            case rel => exact ⟨n2, r + 1, b3, pr ++ (z' :: A1'), Rm2, rfl, by go_num, by omega, hn2T, Hn2, HKd2, HLe2, HW7', HU7', HK7⟩
            case measure => simp [intOf]; omega
          · obtain rfl : r = m := by omega
            obtain ⟨rfl, hpr, rfl⟩ := HKd.out.done
            have hrn := HEnd.out pr hpr
            rw [Hn.out] at hrn
            have Hrn := hide_ hrn
            have Hpr := hide_ hpr
            rw [List.nil_append] at HWr
            have HWr' : Hid (WrS wz B g gn cn bb NF) := by rw [← Hpr.out]; exact HWr
            clear hrn hpr HKd HLe
            go_wp2_with fail
            refine (putS_any g B gn cn bb _ ⟨#[125]⟩ wz HWr' (by omega) (by decide)).mono ?_; rintro e w5 ⟨rfl, HW5, HU5⟩
            have HUf := hide_ (HUr.out.trans HU5.out)
            have HWf : Hid (WrS w5 B g gn cn (b ++ txtP (opnS stB x ++ (P ++ clsS stB x))) (pre ++ (atO x ins b.length :: (A' ++ post)))) := hide_ (by
              have h := HW5.out
              rw [show (⟨#[125]⟩ : ByteArray).data.toList = [125] from rfl, HFin.out, HNF.out] at h
              exact h)
            clear HW5 HU5
            go_wp2
            go_ret
            exact ⟨by rw [← Hrn.out]; rfl, HWf, HUf⟩
end Go.Proofs.Ytokepgimjdalaaa
