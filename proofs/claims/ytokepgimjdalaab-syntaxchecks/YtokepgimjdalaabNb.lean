/- The document's Check: a type expression. -/
import Derived.Test.YtokepgimjdalaabNa
import Derived.Test.YtokepgimjdalaabWd
namespace Go.Proofs.Ytokepgimjdalaab
open Go.RowKit
set_option linter.unusedVariables false

/-- The stack in a block of its own: what lies above it is whatever it was. -/
def StD (w : World) (g cap : Nat) (L : List (Int × Int)) (ys : List Value) : Prop := Blk w g 66 ys ∧ ys.length = cap * 2 ∧ L.length ≤ cap ∧ cap ≤ maxLen ∧ ys.take (L.length * 2) = cellsP L
theorem StD.own {w : World} {B g cap : Nat} {L : List (Int × Int)} {ys : List Value} (h : StD w g cap L ys) (hb : B ≤ g) : w.ownsRow B 66 2 (.slice (some ⟨g, 0, none⟩) L.length cap) L.length (cellsP L) := by
  have k := ownS_of_blk (n := L.length) (B := B) h.1 hb h.2.1 h.2.2.1 h.2.2.2.1
  rw [h.2.2.2.2] at k
  exact k
theorem StD.of_own {w : World} {B g cap : Nat} {L : List (Int × Int)} (h : w.ownsRow B 66 2 (.slice (some ⟨g, 0, none⟩) L.length cap) L.length (cellsP L)) (h0 : 0 < L.length) : B ≤ g ∧ ∃ ys, StD w g cap L ys := by
  obtain ⟨g', cap', ys, hv, hb, hn, hm, hl, ht, hK⟩ := ownS_blk h h0
  injection hv with e1 e2 e3
  injection e1 with e1
  injection e1 with e1
  subst e1 e3
  exact ⟨hb, ys, hK, hl, hn, hm, ht⟩
theorem StD.cut {w : World} {g cap : Nat} {L : List (Int × Int)} {p : Int × Int} {ys : List Value} (h : StD w g cap (L ++ [p]) ys) : StD w g cap L ys := by
  obtain ⟨h1, h2, h3, h4, h5⟩ := h
  refine ⟨h1, h2, by simp at h3; omega, h4, ?_⟩
  have := congrArg (List.take (L.length * 2)) h5
  rw [List.take_take, cellsP_app, List.take_append_of_le_length (by rw [cellsP_len]; exact Nat.le_refl _), List.take_of_length_le (l := cellsP L) (by rw [cellsP_len]; exact Nat.le_refl _)] at this
  rw [← this]
  congr 1
  simp
theorem StD.top {w : World} {g cap : Nat} {L : List (Int × Int)} {p : Int × Int} {ys : List Value} (h : StD w g cap (L ++ [p]) ys) : w.cell? ⟨g, L.length * 2, none⟩ = some (.int .i64 p.1) ∧ w.cell? ⟨g, L.length * 2 + 1, none⟩ = some (.int .i64 p.2) := by
  obtain ⟨h1, h2, h3, h4, h5⟩ := h
  have e : ∀ j, j < 2 → ys[L.length * 2 + j]? = (prc p)[j]? := fun j hj => by
    have : ys[L.length * 2 + j]? = (ys.take ((L ++ [p]).length * 2))[L.length * 2 + j]? := by rw [List.getElem?_take, if_pos (by simp; omega)]
    rw [this, h5, cellsP_app, List.getElem?_append_right (by rw [cellsP_len]; omega), cellsP_len]
    have e : L.length * 2 + j - L.length * 2 = j := by omega
    rw [e]
    simp [cellsP]
  have h0 := e 0 (by decide)
  have h1' := e 1 (by decide)
  simp [prc] at h0 h1'
  exact ⟨by rw [h1.cell]; exact h0, by rw [h1.cell]; exact h1'⟩
theorem StD.later {w w' : World} {g cap : Nat} {L : List (Int × Int)} {ys : List Value} (h : StD w g cap L ys) (hB : Below w.heap.size w w') : StD w' g cap L ys := ⟨h.1.later hB, h.2⟩
theorem StD.dec {w : World} {g cap : Nat} {L : List (Int × Int)} {p : Int × Int} {ys : List Value} (h : StD w g cap (L ++ [p]) ys) (q : Int) :
    StD (w.setCell ⟨g, L.length * 2 + 1, none⟩ (.int .i64 q)) g cap (L ++ [(p.1, q)]) (ys.set (L.length * 2 + 1) (.int .i64 q)) := by
  obtain ⟨h1, h2, h3, h4, h5⟩ := h
  refine ⟨h1.set _ _, by simpa using h2, by simpa using h3, h4, ?_⟩
  have e : (L ++ [(p.1, q)]).length = (L ++ [p]).length := by simp
  rw [e, List.take_set, h5, cellsP_app, cellsP_app, List.set_append_right _ _ (by rw [cellsP_len]; omega), cellsP_len]
  have e2 : L.length * 2 + 1 - L.length * 2 = 1 := by omega
  rw [e2]
  rfl
theorem bldO (a b : Int) (w : World) : (Instr.build 66 #[(0, .int .i64 a), (1, .int .i64 b)]).run Try.prog w = .ok (.agg #[.int .i64 a, .int .i64 b]) w := by kernel_rfl
set_option maxRecDepth 100000 in
set_option maxHeartbeats 8000000 in
theorem nodes_any (va : Option Addr) (vc : Nat) (N : List Nd) (w : World) (hN : N.length ≤ 9223372036854775806) (hr : Hid (NRow w va N)) :
    Calls Try.prog 15 #[.slice va N.length vc] w fun e w' => e = .returned (.tuple #[.int .i64 (ct N 0 [(0, 1)]).1, .int .i64 (ct N 0 [(0, 1)]).2]) ∧ Below w.heap.size w w' := by
  obtain ⟨R, hR⟩ : ∃ R, ct N 0 [(0, 1)] = R := ⟨_, rfl⟩
  have HR := hide_ hR
  rw [hR]
  clear hR
  have hb2 := bldO
  have hk0 := Blk.newA w #[.int .i64 0, .int .i64 1] 66
  have HS0 : Hid (StD (w.alloc (.cells #[.int .i64 0, .int .i64 1] 66)) w.heap.size 1 [(0, 1)] [.int .i64 0, .int .i64 1]) := ⟨hk0, rfl, Nat.le_refl _, by decide, rfl⟩
  have HB0 : Hid (Below w.heap.size w (w.alloc (.cells #[.int .i64 0, .int .i64 1] 66))) := (Below.refl _ _).alloc (Nat.le_refl _) _
  clear hk0
  go_enter Try.func15, Try.ntmps15
  go_wp2_with fail
  go_loopw [4, 5] (fun x4 x5 wr => ∃ (i : Nat) (M : List (Int × Int)) (g cap : Nat) (ys : List Value), i ≤ N.length ∧ x4 = .slice (some ⟨g, 0, none⟩) M.length cap ∧ x5 = .int .i64 (i : Int) ∧ w.heap.size ≤ g ∧ M.length ≤ 18 ∧ Hid (∀ p ∈ M, 0 ≤ p.2 ∧ p.2 ≤ 64) ∧ Hid (StD wr g cap M ys) ∧ Hid (ct (N.drop i) i (wo M) = R) ∧ Hid (Below w.heap.size w wr)) (fun _ x5 _ => N.length + 1 - (intOf x5).toNat)
  case atStart => exact ⟨0, [(0, 1)], w.heap.size, 1, _, Nat.zero_le _, rfl, rfl, Nat.le_refl _, by decide, hide_ (fun p hp => by simp at hp; subst hp; decide), HS0, HR, HB0⟩
  case round =>
    obtain ⟨i, M, g, cap, ys, hi, rfl, rfl, hg, hM18, HO, HS, HC, HB⟩ := hrel
    generalize wr = wq at *
    clear HS0 HB0 HR
    have hcap : cap ≤ 9223372036854775807 := by have := HS.out.2.2.2.1; unfold maxLen at this; omega
    go_wp2_with fail
    go_loopw [4] (fun x4 wr => ∃ M2 : List (Int × Int), x4 = .slice (some ⟨g, 0, none⟩) M2.length cap ∧ M2.length ≤ 18 ∧ Hid (∀ p ∈ M2, 0 ≤ p.2 ∧ p.2 ≤ 64) ∧ Hid (StD wq g cap M2 ys) ∧ Hid (wo M2 = wo M) ∧ wq = wr) (fun x4 _ => match x4 with | .slice _ n _ => n | _ => 0)
    case atStart => exact ⟨M, rfl, hM18, HO, HS, hide_ rfl, rfl⟩
    case round =>
      obtain ⟨M2, rfl, hM218, HO2, HS2, HW, rfl⟩ := hrel
      have hMc : M2.length ≤ cap := HS2.out.2.2.1
      rcases List.eq_nil_or_concat M2 with rfl | ⟨L, p, hM⟩
      · have HC2 : Hid (ct (N.drop i) i [] = R) := hide_ (by rw [← HC.out, ← HW.out]; rfl)
        simp only [List.length_nil]
        by_cases hlt : i < N.length
        · have hne : ((i : Int) == N.length) = false := by
            have : (i : Int) ≠ N.length := by omega
            simpa using this
          have HV : Hid (R = ((i : Int), 62)) := hide_ (by rw [← HC2.out, List.drop_eq_getElem_cons hlt]; rfl)
          go_wp2
          go_ret2
          exact ⟨by rw [HV.out]; rfl, HB.out⟩
        · obtain rfl : i = N.length := by omega
          have HV : Hid (R = (0, 0)) := hide_ (by rw [← HC2.out, List.drop_length]; rfl)
          go_wp2
          go_ret2
          exact ⟨by rw [HV.out]; rfl, HB.out⟩
      · rw [List.concat_eq_append] at hM
        subst hM
        obtain ⟨t1, t2⟩ := HS2.out.top
        have hlen : (L ++ [p]).length = L.length + 1 := by simp
        rw [hlen] at hMc hM218 ⊢
        clear hlen
        have ha : (0 : Int) < (L.length : Int) + 1 := by omega
        by_cases hp : p.2 = 0
        · have HS3 := hide_ (HS2.out.cut)
          have HW2 : Hid (wo L = wo M) := hide_ (by rw [← HW.out, wo_zero _ _ hp])
          have HO3 : Hid (∀ q ∈ L, 0 ≤ q.2 ∧ q.2 ≤ 64) := hide_ (fun q hq => HO2.out q (by simp [hq]))
          rw [hp] at t2
          go_wp2
          go_roundw
          case rel => exact ⟨L, rfl, by omega, HO3, HS3, HW2, trivial⟩
          case measure => simp
        have hp' : (p.2 == 0) = false := by simpa using hp
        have HC2 : Hid (ct (N.drop i) i (L ++ [p]) = R) := hide_ (by rw [← HC.out, ← HW.out, wo_more _ _ hp])
        have ha' : ((L.length : Int) + 1 == 0) = false := by
          have : (L.length : Int) + 1 ≠ 0 := by omega
          simpa using this
        by_cases hlt : i < N.length
        case neg =>
          obtain rfl : i = N.length := by omega
          have HV : Hid (R = ((N.length : Int), 62)) := hide_ (by rw [← HC2.out, List.drop_length]; unfold ct; rw [if_neg (by simp)])
          go_wp2
          go_ret2
          exact ⟨by rw [HV.out]; rfl, HB.out⟩
        have hlt' : (i : Int) < N.length := by omega
        have hne : ((i : Int) == N.length) = false := by
          have : (i : Int) ≠ N.length := by omega
          simpa using this
        obtain ⟨b, o, rfl, hb, hc⟩ := (hr.out.later HB.out).open (by omega)
        have hx : N[i]? = some (N[i]'hlt) := List.getElem?_eq_getElem hlt
        have hcx := hc i _ hx
        have hdr : N.drop i = N[i]'hlt :: N.drop (i + 1) := List.drop_eq_getElem_cons hlt
        generalize N[i]'hlt = x at *
        rw [hdr] at HC2
        have i0 := hcx 0 (by decide); have i1 := hcx 1 (by decide); have i2 := hcx 2 (by decide); have i3 := hcx 3 (by decide); have i4 := hcx 4 (by decide); have i5 := hcx 5 (by decide); have i6 := hcx 6 (by decide)
        simp [ndc] at i0 i1 i2 i3 i4 i5 i6
        have HT : Hid (ctE (L ++ [p]) x = nodeE x.k x.n x.name x.label x.tag x.kids p.1 L.length) := hide_ (by unfold ctE ndE; simp)
        have HT2 : Hid (ctS (L ++ [p]) x = wo (L ++ [(p.1, p.2 - 1), (x.k, x.kids)])) := hide_ (by unfold ctS; simp)
        have kx := Blk.newA wq #[.int .i64 x.k, .int .i64 x.n, .string x.name, .string x.label, .int .i64 x.tag, .int .i64 x.kids, .int .i64 x.a] 26
        have hBx : Below wq.heap.size wq (wq.alloc (.cells #[.int .i64 x.k, .int .i64 x.n, .string x.name, .string x.label, .int .i64 x.tag, .int .i64 x.kids, .int .i64 x.a] 26)) := (Below.refl _ _).alloc (Nat.le_refl _) _
        obtain ⟨wx, hwx⟩ : ∃ wx, wx = wq.alloc (.cells #[.int .i64 x.k, .int .i64 x.n, .string x.name, .string x.label, .int .i64 x.tag, .int .i64 x.kids, .int .i64 x.a] 26) := ⟨_, rfl⟩
        rw [← hwx] at kx hBx
        have KX := hide_ kx
        have HSx := hide_ (HS2.out.later hBx)
        have HBx := hide_ (below_to HB.out hBx)
        have hgq : g < wq.heap.size := HS2.out.1.lt
        clear kx hBx hc hx hcx hdr HC HW
        go_upto_region 11 with fail
        rw [← hwx]
        clear hwx i0 i1 i2 i3 i4 i5 i6 t1 t2
        have x0 := KX.out.cell 0; have x5 := KX.out.cell 5
        simp at x0 x5
        by_cases hd : 16 < L.length
        · have hd' : (16 : Int) < L.length := by omega
          have HV : Hid (R = ((i : Int), 61)) := hide_ (by rw [← HC2.out]; unfold ct; rw [HT.out]; unfold nodeE; rw [if_pos hd]; rfl)
          go_wp2
          go_ret2
          exact ⟨by rw [HV.out]; rfl, HBx.out⟩
        have hd' : ¬ (16 : Int) < L.length := by omega
        by_cases hm : (x.k = 8 ∨ x.k = 7) ∧ 64 < x.kids
        · have HV : Hid (R = ((i : Int), 5)) := hide_ (by rw [← HC2.out]; unfold ct; rw [HT.out]; unfold nodeE; rw [if_neg hd, if_pos hm]; rfl)
          obtain ⟨hk, hkd⟩ := hm
          rcases hk with hk | hk
          · rw [hk] at x0
            go_wp2
            go_ret2
            exact ⟨by rw [HV.out]; rfl, HBx.out⟩
          · rw [hk] at x0
            go_wp2
            go_ret2
            exact ⟨by rw [HV.out]; rfl, HBx.out⟩
        obtain ⟨b1, hb1⟩ : ∃ b1, rightB x.k x.n x.name x.kids = b1 := ⟨_, rfl⟩
        obtain ⟨b2, hb2p⟩ : ∃ b2, placedB x.label x.tag p.1 = b2 := ⟨_, rfl⟩
        have HE : Hid (nodeE x.k x.n x.name x.label x.tag x.kids p.1 L.length = if b1 && b2 then 0 else 62) := hide_ (by rw [err_same _ _ _ _ _ _ _ _ hd hm, hb1, hb2p])
        have HC1 : Hid (∀ w', Calls Try.prog 29 #[.agg #[.int .i64 x.k, .int .i64 x.n, .string x.name, .string x.label, .int .i64 x.tag, .int .i64 x.kids, .int .i64 x.a]] w' fun e w'' => e = .returned (.bool b1) ∧ Below w'.heap.size w' w'') := hide_ (fun w' => by
          have h := right_any x.k x.n x.name x.label x.tag x.kids x.a w'
          rw [hb1] at h
          exact h)
        have HC3 : Hid (∀ w', Calls Try.prog 30 #[.agg #[.int .i64 x.k, .int .i64 x.n, .string x.name, .string x.label, .int .i64 x.tag, .int .i64 x.kids, .int .i64 x.a], .int .i64 p.1] w' fun e w'' => e = .returned (.bool b2) ∧ Below w'.heap.size w' w'') := hide_ (fun w' => by
          have h := placed_any x.k x.n x.name x.label x.tag x.kids x.a p.1 w'
          rw [hb2p] at h
          exact h)
        have HSS : Hid (∀ w', Below wx.heap.size wx w' → Below wx.heap.size wx w' ∧ w'.cell? ⟨wq.heap.size, 0, none⟩ = some (.int .i64 x.k) ∧ w'.cell? ⟨wq.heap.size, 1, none⟩ = some (.int .i64 x.n) ∧ w'.cell? ⟨wq.heap.size, 2, none⟩ = some (.string x.name) ∧ w'.cell? ⟨wq.heap.size, 3, none⟩ = some (.string x.label) ∧ w'.cell? ⟨wq.heap.size, 4, none⟩ = some (.int .i64 x.tag) ∧ w'.cell? ⟨wq.heap.size, 5, none⟩ = some (.int .i64 x.kids) ∧ w'.cell? ⟨wq.heap.size, 6, none⟩ = some (.int .i64 x.a) ∧ w'.cell? ⟨g, L.length * 2, none⟩ = some (.int .i64 p.1)) := hide_ (fun w' hB => by
          have h := KX.out.later hB
          exact ⟨hB, h.cell 0, h.cell 1, h.cell 2, h.cell 3, h.cell 4, h.cell 5, h.cell 6, (HSx.out.later hB).top.1⟩)
        clear hb1 hb2p
        go_upto_region 14 with fail
        go_cut [60] from 60 to 68 (fun x60 wc => x60 = .bool false ∧ wx = wc)
        case first =>
          by_cases h8 : x.k = 8
          · have hk6 : ¬ 64 < x.kids := fun h => hm ⟨.inl h8, h⟩
            have hk6' : decide (64 < x.kids) = false := decide_eq_false hk6
            rw [h8] at x0
            clear h8
            go_wp2
            go_meet
            case rel => exact ⟨by simp, rfl⟩
          · have h8' : (x.k == 8) = false := by simpa using h8
            go_wp2
            go_meet
            case rel => exact ⟨by simp, rfl⟩
        case rest =>
        obtain ⟨rfl, rfl⟩ := hcut
        go_upto_region 15 with fail
        go_cut [60] from 60 to 76 (fun x60 wc => x60 = .bool false ∧ wx = wc)
        case first =>
          by_cases h8 : x.k = 7
          · have hk6 : ¬ 64 < x.kids := fun h => hm ⟨.inr h8, h⟩
            have hk6' : decide (64 < x.kids) = false := decide_eq_false hk6
            rw [h8] at x0
            clear h8
            go_wp2
            go_meet
            case rel => exact ⟨by simp, rfl⟩
          · have h8' : (x.k == 7) = false := by simpa using h8
            go_wp2
            go_meet
            case rel => exact ⟨by simp, rfl⟩
        case rest =>
        obtain ⟨rfl, rfl⟩ := hcut
        clear x0 x5
        have hLi : (L.length : Int) < (L.length : Int) + 1 := by omega
        cases b1 with
        | false =>
          have HV : Hid (R = ((i : Int), 62)) := hide_ (by rw [← HC2.out]; unfold ct; rw [HT.out, HE.out]; rfl)
          have y0 := KX.out.cell 0; have y1 := KX.out.cell 1; have y2 := KX.out.cell 2; have y3 := KX.out.cell 3; have y4 := KX.out.cell 4; have y5 := KX.out.cell 5; have y6 := KX.out.cell 6
          simp at y0 y1 y2 y3 y4 y5 y6
          go_wp2_with fail
          first
          | (go_region_with (go_at_call 29; refine (HC1.out _).mono ?_; rintro e w2 ⟨rfl, hB2⟩; (have G2 := HSS.out w2 (below_to ((Below.refl _ _).drew) hB2)); (clear hB2)))
          | fail
          all_goals
            have HBf := hide_ (below_to HBx.out G2.1)
            clear G2
            go_wp2
            go_ret2
            exact ⟨by rw [HV.out]; rfl, HBf.out⟩
        | true =>
        cases b2 with
        | false =>
          have HV : Hid (R = ((i : Int), 62)) := hide_ (by rw [← HC2.out]; unfold ct; rw [HT.out, HE.out]; rfl)
          go_wp2_with fail
          go_region_held_law (fun w' => Below wx.heap.size wx w' ∧ w'.cell? ⟨wq.heap.size, 0, none⟩ = some (.int .i64 x.k) ∧ w'.cell? ⟨wq.heap.size, 1, none⟩ = some (.int .i64 x.n) ∧ w'.cell? ⟨wq.heap.size, 2, none⟩ = some (.string x.name) ∧ w'.cell? ⟨wq.heap.size, 3, none⟩ = some (.string x.label) ∧ w'.cell? ⟨wq.heap.size, 4, none⟩ = some (.int .i64 x.tag) ∧ w'.cell? ⟨wq.heap.size, 5, none⟩ = some (.int .i64 x.kids) ∧ w'.cell? ⟨wq.heap.size, 6, none⟩ = some (.int .i64 x.a) ∧ w'.cell? ⟨g, L.length * 2, none⟩ = some (.int .i64 p.1)) (first | assumption | exact HSS.out _ ((Below.refl _ _).drew) | exact HSS.out _ (Below.refl _ _))
            (first
              | (go_at_call 29; refine (HC1.out _).mono ?_; rintro e w2 ⟨rfl, hB2⟩; (have G2 := HSS.out w2 (below_to (by first | assumption | exact And.left (by assumption)) hB2)); (clear hB2))
              | (go_at_call 30; refine (HC3.out _).mono ?_; rintro e w3 ⟨rfl, hB3⟩; (have G3 := HSS.out w3 (below_to (by first | assumption | exact And.left (by assumption)) hB3)); (clear hB3)))
          have HBf := hide_ (below_to HBx.out G3.1)
          clear G2 G3 HSS
          go_wp2
          go_ret2
          exact ⟨by rw [HV.out]; rfl, HBf.out⟩
        | true =>
        go_wp2_with fail
        go_region_held_law (fun w' => Below wx.heap.size wx w' ∧ w'.cell? ⟨wq.heap.size, 0, none⟩ = some (.int .i64 x.k) ∧ w'.cell? ⟨wq.heap.size, 1, none⟩ = some (.int .i64 x.n) ∧ w'.cell? ⟨wq.heap.size, 2, none⟩ = some (.string x.name) ∧ w'.cell? ⟨wq.heap.size, 3, none⟩ = some (.string x.label) ∧ w'.cell? ⟨wq.heap.size, 4, none⟩ = some (.int .i64 x.tag) ∧ w'.cell? ⟨wq.heap.size, 5, none⟩ = some (.int .i64 x.kids) ∧ w'.cell? ⟨wq.heap.size, 6, none⟩ = some (.int .i64 x.a) ∧ w'.cell? ⟨g, L.length * 2, none⟩ = some (.int .i64 p.1)) (first | assumption | exact HSS.out _ ((Below.refl _ _).drew) | exact HSS.out _ (Below.refl _ _))
          (first
            | (go_at_call 29; refine (HC1.out _).mono ?_; rintro e w2 ⟨rfl, hB2⟩; (have G2 := HSS.out w2 (below_to (by first | assumption | exact And.left (by assumption)) hB2)); (clear hB2))
            | (go_at_call 30; refine (HC3.out _).mono ?_; rintro e w3 ⟨rfl, hB3⟩; (have G3 := HSS.out w3 (below_to (by first | assumption | exact And.left (by assumption)) hB3)); (clear hB3)))
        have hB3 := G3.1
        have HS3 := hide_ (HSx.out.later hB3)
        have HK3 := hide_ (KX.out.later hB3)
        have HB3 := hide_ (below_to HBx.out hB3)
        clear hB3 G2 G3 HSS HC1 HC3 KX HSx HBx HB hb hr HS HS2
        have hkid := ndE_kids (x := x) (of := p.1) (dp := L.length) HE.out
        have hp2 := HO2.out p (by simp)
        have HM : Hid (∀ q ∈ L, 0 ≤ q.2 ∧ q.2 ≤ 64) := hide_ (fun q hq => HO2.out q (by simp [hq]))
        have HC5 : Hid (ct (N.drop (i + 1)) (i + 1) (wo (L ++ [(p.1, p.2 - 1)] ++ [(x.k, x.kids)])) = R) := hide_ (by
          have h := HC2.out
          unfold ct at h
          rw [HT.out, HE.out, if_pos (by rfl), HT2.out] at h
          rw [List.append_assoc]
          exact h)
        obtain ⟨t1, t2⟩ := HS3.out.top
        have t3 := HS3.out.1.frozen (L.length * 2 + 1)
        have k4 := HK3.out.other ⟨g, L.length * 2 + 1, none⟩ (.int .i64 (p.2 - 1)) (by show wq.heap.size ≠ g; omega)
        have s4 := HS3.out.dec (p.2 - 1)
        have b4 : Below w.heap.size w (w3.setCell ⟨g, L.length * 2 + 1, none⟩ (.int .i64 (p.2 - 1))) := HB3.out.trans (((Upd.refl (fun k => k = g) w3).set ⟨g, L.length * 2 + 1, none⟩ _ (.inl rfl)).below w.heap.size HB3.out.size (fun k hk => by subst hk; exact hg))
        obtain ⟨w4, hw4⟩ : ∃ w4, w4 = w3.setCell ⟨g, L.length * 2 + 1, none⟩ (.int .i64 (p.2 - 1)) := ⟨_, rfl⟩
        rw [← hw4] at k4 s4 b4
        have d0 := k4.cell 0
        have d5 := k4.cell 5
        simp at d0 d5
        have HS4 := hide_ s4
        have HB4 := hide_ b4
        have hpb : p.2 - 1 ≤ 64 := by omega
        have hpa : 0 ≤ p.2 - 1 := by omega
        clear k4 s4 b4 HS3 HK3 HB3 HE HT HT2 HC2 HO HO2
        go_upto_region 20 with fail
        rw [← hw4]
        clear hw4 t1 t2 t3
        have HMs : Hid (i + 1 ≤ N.length) := hide_ hlt
        by_cases hk : 0 < x.kids
        case neg =>
          have hk0 : x.kids = 0 := by omega
          have HC6 : Hid (ct (N.drop (i + 1)) (i + 1) (wo (L ++ [(p.1, p.2 - 1)])) = R) := hide_ (by have h := HC5.out; rw [wo_zero (L ++ [(p.1, p.2 - 1)]) (x.k, x.kids) hk0] at h; exact h)
          have HO6 : Hid (∀ q ∈ L ++ [(p.1, p.2 - 1)], 0 ≤ q.2 ∧ q.2 ≤ 64) := hide_ (fun q hq => by
            simp at hq
            rcases hq with h | rfl
            · exact HM.out q h
            · exact ⟨hpa, hpb⟩)
          have hl6 : (L ++ [(p.1, p.2 - 1)]).length = L.length + 1 := by simp
          obtain ⟨LL, hLL⟩ : ∃ LL, L ++ [(p.1, p.2 - 1)] = LL := ⟨_, rfl⟩
          rw [hLL] at HC6 HO6 HS4 hl6
          rw [← hl6]
          have hl7 : LL.length ≤ 18 := by omega
          clear hLL hl6 HC5 HM
          rw [hk0] at d5
          go_wp2
          go_roundw
          case rel => exact ⟨i + 1, LL, g, cap, _, HMs.out, rfl, by go_num, hg, hl7, HO6, HS4, HC6, HB4⟩
          case measure => simp [intOf]; omega
        have HO5 : Hid (∀ q ∈ L ++ [(p.1, p.2 - 1)] ++ [(x.k, x.kids)], 0 ≤ q.2 ∧ q.2 ≤ 64) := hide_ (fun q hq => by
          simp at hq
          rcases hq with h | rfl | rfl
          · exact HM.out q h
          · exact ⟨hpa, hpb⟩
          · show 0 ≤ x.kids ∧ x.kids ≤ 64; omega)
        obtain ⟨gn, capn, w5, r5, o5, u5, c5⟩ := run_pushS (P := Try.prog) (t := 67) (e := 66) (z := .agg #[.int .i64 0, .int .i64 0]) (bytes := 16) Try.underlying67 (by kernel_rfl) rfl (by decide) w4 67 (HS4.out.own (B := w.heap.size) hg) (prc (x.k, x.kids)) rfl (by intro u hu; simp [prc] at hu; rcases hu with rfl | rfl <;> rfl) (by unfold maxLen; simp; omega) (by simp; omega) HB4.out.size
        have hgn : w.heap.size ≤ gn := by
          rcases c5 with h | h
          · have := own_is h; omega
          · exact Nat.le_trans HB4.out.size h
        have b5 : Below w.heap.size w w5 := HB4.out.trans (u5.below w.heap.size HB4.out.size (fun k hk => by have := own_is hk; omega))
        have hl4 : (L ++ [(p.1, p.2 - 1)]).length + 1 = (L ++ [(p.1, p.2 - 1)] ++ [(x.k, x.kids)]).length := by simp
        have ec : cellsP (L ++ [(p.1, p.2 - 1)]) ++ prc (x.k, x.kids) = cellsP (L ++ [(p.1, p.2 - 1)] ++ [(x.k, x.kids)]) := by rw [cellsP_app (L ++ [(p.1, p.2 - 1)])]; simp [cellsP]
        rw [ec, hl4] at o5
        obtain ⟨-, ys5, hs5⟩ := StD.of_own o5 (by simp)
        have HS5 := hide_ hs5
        have HB5 := hide_ b5
        have r5' : (Builtin.append_ #[67, 67] 67 #[.slice (some ⟨g, 0, none⟩) (L.length + 1) cap, .slice (some ⟨w4.heap.size, 0, none⟩) 1 1]).run Try.prog (w4.alloc (.cells #[.int .i64 x.k, .int .i64 x.kids] 66)) = .ok (.slice (some ⟨gn, 0, none⟩) ((L ++ [(p.1, p.2 - 1)] ++ [(x.k, x.kids)]).length) capn) w5 := by
          rw [hl4] at r5
          have e : (L ++ [(p.1, p.2 - 1)]).length = L.length + 1 := by simp
          rw [e] at r5
          exact r5
        have HR5 := hide_ r5'
        have hl8 : (L ++ [(p.1, p.2 - 1)] ++ [(x.k, x.kids)]).length ≤ 18 := by simp; omega
        obtain ⟨LL, hLL⟩ : ∃ LL, L ++ [(p.1, p.2 - 1)] ++ [(x.k, x.kids)] = LL := ⟨_, rfl⟩
        rw [hLL] at HR5 HS5 HO5 HC5 hl8
        clear r5 r5' o5 u5 c5 hs5 b5 hl4 ec hLL HM HS4 HB4
        go_wp2_with (at_builtin; have _t := HR5; refine wpList_append_run rfl (.tmp 104) (.tmp 110) 67 67 rfl rfl rfl HR5.out ?_; clear HR5)
        go_roundw
        case rel => exact ⟨i + 1, LL, gn, capn, ys5, HMs.out, rfl, by go_num, hgn, hl8, HO5, HS5, HC5, HB5⟩
        case measure => simp [intOf]; omega
end Go.Proofs.Ytokepgimjdalaab
