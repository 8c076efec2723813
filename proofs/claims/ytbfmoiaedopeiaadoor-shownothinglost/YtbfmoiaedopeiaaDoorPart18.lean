import Derived.Test.YtbfmoiaedopeiaaDoorPart17
import Derived.Test.YtbfmoiaedopeiaaDoorPart14

/- A source's printed text: plain. -/
namespace Go.Proofs.YtbfmoiaedopeiaaDoor
open Go.RowKit
set_option linter.unusedVariables false

theorem ws_det {st : Sty} : ∀ (fu d : Nat) (k : Int) (n : Nat) (A B A' B' : List Nd) (P P' : List (Q × List UInt8)), WS st fu d k n A P → WS st fu d k n A' P' → (A ++ B).map zNd = (A' ++ B').map zNd → A.map zNd = A'.map zNd ∧ B.map zNd = B'.map zNd ∧ P = P'
  | 0, d, k, n, A, B, A', B', P, P', h, h', e => by
    obtain ⟨_, rfl, rfl⟩ := h
    obtain ⟨_, rfl, rfl⟩ := h'
    exact ⟨rfl, by simpa using e, rfl⟩
  | fu + 1, d, k, 0, A, B, A', B', P, P', h, h', e => by
    obtain ⟨rfl, rfl⟩ := h
    obtain ⟨rfl, rfl⟩ := h'
    exact ⟨rfl, by simpa using e, rfl⟩
  | fu + 1, d, k, n + 1, A, B, A', B', P, P', h, h', e => by
    obtain ⟨x, A1, B1, PA, PB, rfl, hx, hA, hB, rfl⟩ := h
    obtain ⟨x', A1', B1', PA', PB', rfl, hx', hA', hB', rfl⟩ := h'
    simp only [List.cons_append, List.map_cons, List.append_assoc] at e
    injection e with e1 e2
    have k1 : x.k = x'.k := by have t := congrArg Nd.k e1; exact t
    have k2 : x.kids = x'.kids := by have t := congrArg Nd.kids e1; exact t
    rw [← k1, ← k2] at hA'
    obtain ⟨q1, q2, q3⟩ := ws_det fu _ _ _ A1 (B1 ++ B) A1' (B1' ++ B') PA PA' hA hA' e2
    obtain ⟨q4, q5, q6⟩ := ws_det fu _ _ _ B1 B B1' B' PB PB' hB hB' q2
    refine ⟨?_, q5, ?_⟩
    · simp only [List.map_cons, List.map_append]
      rw [e1, q1, q4]
    · have h1 : hdS st k x = hdS st k x' := by
        have : hdS st k (zNd x) = hdS st k (zNd x') := by rw [e1]
        exact this
      have h2 : opnS st x = opnS st x' := by
        have : opnS st (zNd x) = opnS st (zNd x') := by rw [e1]
        exact this
      have h3 : clsS st x = clsS st x' := by
        have : clsS st (zNd x) = clsS st (zNd x') := by rw [e1]
        exact this
      rw [h1, h2, h3, q3, q6]
theorem wds_det {st : Sty} : ∀ (D D' : List Df) (P P' : List (Q × List UInt8)), WDS st D P → WDS st D' P' → D.map zDf = D'.map zDf → P = P'
  | [], [], P, P', h, h', _ => by
    have h1 : P = [] := h
    have h2 : P' = [] := h'
    rw [h1, h2]
  | [], d :: D, P, P', h, h', e => by cases e
  | d :: D, [], P, P', h, h', e => by cases e
  | d :: D, d' :: D', P, P', h, h', e => by
    simp only [List.map_cons] at e
    injection e with e1 e2
    obtain ⟨PN, PD, hN, hD, rfl⟩ := h
    obtain ⟨PN', PD', hN', hD', rfl⟩ := h'
    have n1 : d.name = d'.name := by have t := congrArg Df.name e1; exact t
    have n2 : d.ty.map zNd = d'.ty.map zNd := by have t := congrArg Df.ty e1; exact t
    have n3 : d.ty.length = d'.ty.length := by have := congrArg List.length n2; simpa using this
    rw [← n3] at hN'
    obtain ⟨_, _, q⟩ := ws_det _ _ _ _ d.ty [] d'.ty [] PN PN' hN hN' (by simpa using n2)
    rw [n1, q, wds_det D D' PD PD' hD hD' e2]
theorem PrT.err {D : List Df} {X : ByteArray} {c : Int} (h : PrT D X c) (hc : c ≠ 0) : X = ⟨#[]⟩ := by
  rcases h with ⟨_, h, _⟩ | ⟨_, P, _, ⟨_, h, _⟩ | ⟨_, _, h⟩⟩
  · exact h
  · exact h
  · exact absurd h hc
theorem PrT.ok {D : List Df} {X : ByteArray} (h : PrT D X 0) : (ckP D).2.2 = 0 ∧ ∃ P, WDS st0 D P ∧ (txtP P).length ≤ 65536 ∧ X = ⟨(txtP P).toArray⟩ := by
  rcases h with ⟨h1, _, h⟩ | ⟨h1, P, h2, ⟨_, _, h⟩ | ⟨h3, h4, _⟩⟩
  · exact absurd h.symm h1
  · cases h
  · exact ⟨h1, P, h2, h3, h4⟩
/-- Sources that are the same have the same text. -/
theorem PrT.same {D D' : List Df} {X X' : ByteArray} {c' : Int} (h : PrT D X 0) (hk : (ckP D').2.2 = 0) (hz : D'.map zDf = D.map zDf) (h' : PrT D' X' c') : X' = X ∧ c' = 0 := by
  obtain ⟨_, P, h2, h3, h4⟩ := h.ok
  rcases h' with ⟨k1, _⟩ | ⟨_, P', k2, k3⟩
  · exact absurd hk k1
  · have e := wds_det _ _ _ _ k2 h2 hz
    subst e
    rcases k3 with ⟨k3, _⟩ | ⟨_, k4, k5⟩
    · omega
    · exact ⟨by rw [k4, h4], k5⟩
theorem zDf_dfP (ts : List Tk) (L : Nat) (d : Df) : zDf (dfP ts L d) = zDf d := by
  unfold zDf dfP
  simp only [List.map_map]
  congr 1
/-- What is printed is parsed back, to the same source. -/
theorem PrT.back {D : List Df} {X : ByteArray} (h : PrT D X 0) : ∃ D1, prsT X = (D1, 0, 0) ∧ D1.map zDf = D.map zDf ∧ (ckP D1).2.2 = 0 := by
  obtain ⟨h1, P, h2, h3, h4⟩ := h.ok
  obtain ⟨P0, D0, k1, k2, k3, k4⟩ := text_back st0_ok h1
  have e := wds_det _ _ _ _ k1 h2 rfl
  subst e
  have hX : X.data.toList = txtP P0 := by rw [h4]
  have hs : X.size ≤ 65536 := by rw [Lib.size_eq, hX]; exact h3
  obtain ⟨_, k5⟩ := k4 X hX hs
  refine ⟨_, k5, ?_, ?_⟩
  · rw [List.map_map, ← k3]
    exact List.map_congr_left fun d _ => zDf_dfP _ _ d
  · have := prs_check (s := X) (by rw [k5])
    rw [k5] at this
    rw [this]
/-! ### The fixed source -/
def nA : List Nd := [⟨5, 3, ⟨#[]⟩, ⟨#[]⟩, 0, 1, 0⟩, ⟨1, 2, ⟨#[]⟩, ⟨#[]⟩, 0, 0, 0⟩]
def dA : List Df := [⟨⟨#[97]⟩, 0, nA⟩]
def tA : ByteArray := ⟨#[116, 121, 112, 101, 32, 97, 61, 108, 105, 115, 116, 60, 117, 49, 54, 44, 51, 62, 59]⟩
theorem ckA : ckP dA = (0, 0, 0) := by rfl
theorem prA {X : ByteArray} {c : Int} (h : PrT dA X c) : X = tA ∧ c = 0 := by
  rcases h with ⟨k1, _⟩ | ⟨_, P, k2, k3⟩
  · rw [ckA] at k1; exact absurd rfl k1
  · have hw : ∃ P0, WDS st0 dA P0 ∧ txtP P0 = tA.data.toList :=
      ⟨_, ⟨_, [], ⟨⟨5, 3, ⟨#[]⟩, ⟨#[]⟩, 0, 1, 0⟩, [⟨1, 2, ⟨#[]⟩, ⟨#[]⟩, 0, 0, 0⟩], [], _, [], rfl, by rfl, ⟨⟨1, 2, ⟨#[]⟩, ⟨#[]⟩, 0, 0, 0⟩, [], [], [], [], rfl, by rfl, ⟨rfl, rfl, rfl⟩, ⟨rfl, rfl, rfl⟩, rfl⟩, ⟨rfl, rfl⟩, rfl⟩, rfl, rfl⟩, by rfl⟩
    obtain ⟨P0, k4, k5⟩ := hw
    have e := wds_det _ _ _ _ k2 k4 rfl
    subst e
    rw [k5] at k3
    rcases k3 with ⟨k3, _⟩ | ⟨_, k4, k5⟩
    · exact absurd k3 (by decide)
    · exact ⟨k4, k5⟩
end Go.Proofs.YtbfmoiaedopeiaaDoor

/- awake. -/
namespace Go.Proofs.YtbfmoiaedopeiaaDoor
open Go.RowKit
set_option linter.unusedVariables false

theorem bldA1 (w : World) : (Instr.build 35 #[(0, .int .i64 5), (1, .int .i64 3), (5, .int .i64 1)]).run Tryd.prog w = .ok (.agg #[.int .i64 5, .int .i64 3, .string ⟨#[]⟩, .string ⟨#[]⟩, .int .i64 0, .int .i64 1, .int .i64 0]) w := by kernel_rfl
theorem bldA2 (w : World) : (Instr.build 35 #[(0, .int .i64 1), (1, .int .i64 2)]).run Tryd.prog w = .ok (.agg #[.int .i64 1, .int .i64 2, .string ⟨#[]⟩, .string ⟨#[]⟩, .int .i64 0, .int .i64 0, .int .i64 0]) w := by kernel_rfl
theorem bldA3 (g : Nat) (w : World) : (Instr.build 33 #[(0, .string ⟨#[97]⟩), (2, .slice (some ⟨g, 0, none⟩) 2 2)]).run Tryd.prog w = .ok (.agg #[.string ⟨#[97]⟩, .int .i64 0, .slice (some ⟨g, 0, none⟩) 2 2]) w := by kernel_rfl
theorem bldA4 (g : Nat) (w : World) : (Instr.build 24 #[(0, .slice (some ⟨g, 0, none⟩) 1 1)]).run Tryd.prog w = .ok (.agg #[.slice (some ⟨g, 0, none⟩) 1 1]) w := by kernel_rfl
theorem bldA5 (w : World) : (Instr.build 24 #[]).run Tryd.prog w = .ok (.agg #[.slice none 0 0]) w := by kernel_rfl
theorem drow_one {w : World} {g1 g2 vc n : Nat} {nm : ByteArray} {a : Int} {N : List Nd} (hn : N.length = n) (h2 : Blk w g2 33 [.string nm, .int .i64 a, .slice (some ⟨g1, 0, none⟩) n vc]) (h1 : Blk w g1 35 (cellsN N)) (hv : n ≤ vc) : DRow w (some ⟨g2, 0, none⟩) [⟨nm, a, N⟩] := by
  subst hn
  refine .inr ⟨g2, 0, rfl, h2.lt, fun i d hd => ?_⟩
  have hi := (List.getElem?_eq_some_iff.1 hd).1
  obtain rfl : i = 0 := by simp at hi; omega
  simp at hd
  subst hd
  refine ⟨some ⟨g1, 0, none⟩, vc, fun j hj => ?_, hv, (fun h => by cases h), .inr ⟨g1, 0, rfl, h1.lt, fun i x hx j hj => ?_⟩⟩
  · rw [h2.cell]
    have : 0 + 0 * 3 + j = j := by omega
    rw [this]
    rfl
  · rw [h1.cell, ← cellsN_at N i j x hx hj]
    congr 1
    omega
set_option maxRecDepth 100000 in
set_option maxHeartbeats 8000000 in
theorem awake_any (w : World) (ht : Hid (Tab w.heap.size w)) : Calls Tryd.prog 7 #[] w fun e w' => e = .returned (.bool true) ∧ Below w.heap.size w w' := by
  have b1 := bldA1
  have b2 := bldA2
  have b3 := bldA3
  have b4 := bldA4
  have b5 := bldA5
  obtain ⟨wA, hwA⟩ : ∃ wA, wA = ((w.alloc (.cells #[.int .i64 5, .int .i64 3, .string ⟨#[]⟩, .string ⟨#[]⟩, .int .i64 0, .int .i64 1, .int .i64 0, .int .i64 1, .int .i64 2, .string ⟨#[]⟩, .string ⟨#[]⟩, .int .i64 0, .int .i64 0, .int .i64 0] 35)).alloc (.cells #[.string ⟨#[97]⟩, .int .i64 0, .slice (some ⟨w.heap.size, 0, none⟩) 2 2] 33)).alloc (.cells #[.slice (some ⟨w.heap.size + 1, 0, none⟩) 1 1] 24) := ⟨_, rfl⟩
  have k1 : Blk wA w.heap.size 35 (cellsN nA) := by rw [hwA]; exact ((Blk.newA w _ 35).alloc _).alloc _
  have k2 : Blk wA (w.heap.size + 1) 33 [.string ⟨#[97]⟩, .int .i64 0, .slice (some ⟨w.heap.size, 0, none⟩) 2 2] := by
    rw [hwA]
    have h := (Blk.newA (w.alloc (.cells #[.int .i64 5, .int .i64 3, .string ⟨#[]⟩, .string ⟨#[]⟩, .int .i64 0, .int .i64 1, .int .i64 0, .int .i64 1, .int .i64 2, .string ⟨#[]⟩, .string ⟨#[]⟩, .int .i64 0, .int .i64 0, .int .i64 0] 35)) #[.string ⟨#[97]⟩, .int .i64 0, .slice (some ⟨w.heap.size, 0, none⟩) 2 2] 33).alloc (.cells #[.slice (some ⟨w.heap.size + 1, 0, none⟩) 1 1] 24)
    simpa using h
  have k3 : Blk wA (w.heap.size + 2) 24 [.slice (some ⟨w.heap.size + 1, 0, none⟩) 1 1] := by
    rw [hwA]
    have h := Blk.newA ((w.alloc (.cells #[.int .i64 5, .int .i64 3, .string ⟨#[]⟩, .string ⟨#[]⟩, .int .i64 0, .int .i64 1, .int .i64 0, .int .i64 1, .int .i64 2, .string ⟨#[]⟩, .string ⟨#[]⟩, .int .i64 0, .int .i64 0, .int .i64 0] 35)).alloc (.cells #[.string ⟨#[97]⟩, .int .i64 0, .slice (some ⟨w.heap.size, 0, none⟩) 2 2] 33)) #[.slice (some ⟨w.heap.size + 1, 0, none⟩) 1 1] 24
    simpa using h
  have hBA : Below w.heap.size w wA := by rw [hwA]; exact (((Below.refl _ _).alloc (Nat.le_refl _) _).alloc (by simp) _).alloc (by simp; omega) _
  have HDA := hide_ (drow_one (n := 2) rfl k2 k1 (Nat.le_refl _))
  have HL : Hid (Lens dA) := hide_ ⟨by decide, fun d hd => by obtain rfl := List.mem_singleton.1 hd; decide⟩
  have HL0 : Hid (Lens []) := hide_ ⟨by decide, fun d hd => by cases hd⟩
  have HTab := hide_ (ht.out.at hBA)
  have HK3 := hide_ k3
  have HBA := hide_ hBA
  clear k1 k2 k3 hBA ht
  have HPr := hide_ (print_any (some ⟨w.heap.size + 1, 0, none⟩) 1 1 dA wA rfl HL.out HDA HTab)
  go_enter Tryd.func7, Tryd.ntmps7
  go_upto_region 2 with fail
  rw [← hwA]
  clear hwA b1 b2 b3 b4
  have x0 := HK3.out.cell 0
  simp at x0
  go_wp2_with fail
  refine HPr.out.mono ?_; rintro e w1 ⟨X, k, rfl, HX, HB1⟩
  obtain ⟨rfl, rfl⟩ := prA HX.out
  have HK4 := hide_ (HK3.out.later HB1.out)
  have HD4 := hide_ (HDA.out.later HB1.out)
  have HBw := hide_ (HBA.out.trans (HB1.out.mono HBA.out.size))
  clear HX HK3 HDA HPr x0 HB1 HBA HTab
  have x0 := HK4.out.cell 0
  simp at x0
  unfold tA
  go_wp2_with fail
  refine (showSame_any (some ⟨w.heap.size + 1, 0, none⟩) (some ⟨w.heap.size + 1, 0, none⟩) 1 1 dA dA w1 HL.out HL.out HD4 HD4).mono ?_; rintro e w2 ⟨v, rfl, HV, HB2⟩
  obtain rfl : v = true := HV.out.2 rfl
  have HK5 := hide_ (HK4.out.later HB2.out)
  have HD5 := hide_ (HD4.out.later HB2.out)
  have HB3 := hide_ (HBw.out.trans (HB2.out.mono HBw.out.size))
  clear HV HK4 HD4 HB2 HBw x0
  have x0 := HK5.out.cell 0
  simp at x0
  go_wp2_with fail
  refine (showSame_any (some ⟨w.heap.size + 1, 0, none⟩) none 1 0 dA [] w2 HL.out HL0.out HD5 (hide_ (.inl rfl))).mono ?_; rintro e w3 ⟨v, rfl, HV, HB4⟩
  obtain rfl : v = false := Bool.eq_false_iff.2 (fun h => by have := HV.out.1 h; cases this)
  have HB5 := hide_ (HB3.out.trans (HB4.out.mono HB3.out.size))
  clear HV HK5 HD5 HB4 HB3 x0
  go_wp2
  go_ret
  exact ⟨rfl, HB5.out⟩
end Go.Proofs.YtbfmoiaedopeiaaDoor

/- ShowNothingLost: plain, and what is written into a source. -/
namespace Go.Proofs.YtbfmoiaedopeiaaDoor
open Go.RowKit
set_option linter.unusedVariables false

theorem map_set_ne {D : List Df} {i : Nat} {d d2 : Df} (hd : D[i]? = some d) (hz : zDf d ≠ zDf d2) : D.map zDf ≠ (D.set i d2).map zDf := fun e => by
  have hi := (List.getElem?_eq_some_iff.1 hd).1
  have h1 : (D.map zDf)[i]? = some (zDf d) := by rw [List.getElem?_map, hd]; rfl
  have h2 : ((D.set i d2).map zDf)[i]? = some (zDf d2) := by rw [List.getElem?_map, List.getElem?_set_self (by exact hi)]; rfl
  rw [e, h2] at h1
  exact hz (Option.some.inj h1).symm
theorem nds_set_ne {N : List Nd} {m : Nat} {y y2 : Nd} (hy : N[m]? = some y) (hz : zNd y ≠ zNd y2) : N.map zNd ≠ (N.set m y2).map zNd := fun e => by
  have hi := (List.getElem?_eq_some_iff.1 hy).1
  have h1 : (N.map zNd)[m]? = some (zNd y) := by rw [List.getElem?_map, hy]; rfl
  have h2 : ((N.set m y2).map zNd)[m]? = some (zNd y2) := by rw [List.getElem?_map, List.getElem?_set_self (by exact hi)]; rfl
  rw [e, h2] at h1
  exact hz (Option.some.inj h1).symm
theorem lost_plain {D D2 : List Df} {X X2 : ByteArray} {c2 : Int} (h : PrT D X 0) (h2 : PrT D2 X2 c2) (hne : D.map zDf ≠ D2.map zDf) : (c2 ≠ 0 ∧ X2 = ⟨#[]⟩) ∨ (c2 = 0 ∧ X2 ≠ X) := by
  by_cases hc : c2 = 0
  · subst hc
    refine .inr ⟨rfl, fun e => hne ?_⟩
    subst e
    obtain ⟨D1, p1, z1, _⟩ := h.back
    obtain ⟨E1, p2, z2, _⟩ := h2.back
    rw [p1] at p2
    injection p2 with p2 _
    rw [← z1, p2, z2]
  · exact .inl ⟨hc, h2.err hc⟩
theorem forest_nd : ∀ (fu d : Nat) (k : Int) (n : Nat) (N : List Nd), Forest fu d k n N → ∀ x ∈ N, ∃ k d, ndE x k d = 0
  | 0, d, k, n, N, h, x, hx => by obtain ⟨_, rfl⟩ := h; cases hx
  | fu + 1, d, k, 0, N, h, x, hx => by have h' : N = [] := h; subst h'; cases hx
  | fu + 1, d, k, n + 1, N, h, x, hx => by
    obtain ⟨y, A, B, rfl, h2, hA, hB⟩ := h
    rcases List.mem_cons.1 hx with rfl | hx
    · exact ⟨_, _, h2⟩
    · rcases List.mem_append.1 hx with hx | hx
      · exact forest_nd fu _ _ _ _ hA x hx
      · exact forest_nd fu _ _ _ _ hB x hx
theorem nd_bounds {x : Nd} {k : Int} {d : Nat} (h : ndE x k d = 0) : (0 ≤ x.n ∧ x.n ≤ 2147483647) ∧ (0 ≤ x.tag ∧ x.tag ≤ 2147483647) ∧ x.label.size ≤ 100 := by
  refine ⟨?_, ?_, ?_⟩
  · rcases kinds h with ⟨_, e, _⟩ | ⟨_, _, ⟨e1, e2, e3⟩ | ⟨e1, _⟩ | ⟨_, _, e, _⟩ | ⟨_, _, e, _⟩⟩
    · omega
    · rcases e1 with e1 | e1 | e1
      · have := nd_u h e1; omega
      · obtain ⟨_, h1, _⟩ := nd_ok h
        unfold kindOk at h1
        rw [if_neg (by omega), if_pos (.inl e1)] at h1
        have := of_decide_eq_true h1
        omega
      · obtain ⟨_, h1, _⟩ := nd_ok h
        unfold kindOk at h1
        rw [if_neg (by omega), if_pos (.inr (.inl e1))] at h1
        have := of_decide_eq_true h1
        omega
    · obtain ⟨m, hm, hm2⟩ := nd_n h e1
      omega
    · omega
    · omega
  · obtain ⟨_, _, _, _, h5, _⟩ := nd_ok h
    by_cases h7 : k = 7
    · subst h7
      have := of_decide_eq_true (nd_tag h)
      exact this
    · rw [h5 h7]; omega
  · obtain ⟨_, _, _, h4, _, _⟩ := nd_ok h
    by_cases h8 : k = 8
    · subst h8
      obtain ⟨_, h2, _⟩ := of_decide_eq_true (show isName x.label = true from h4)
      omega
    · rw [decide_eq_false h8] at h4
      rw [empty_nm h4]
      decide
theorem cellsN_f : ∀ (N : List Nd) (m j : Nat) (y y2 : Nd) (u : Value), N[m]? = some y → j < 7 → (ndc y).set j u = ndc y2 → (cellsN N).set (m * 7 + j) u = cellsN (N.set m y2)
  | [], m, j, y, y2, u, h, hj, hu => by simp at h
  | z :: N, 0, j, y, y2, u, h, hj, hu => by
    simp at h
    subst h
    have e : ∀ z, cellsN (z :: N) = ndc z ++ cellsN N := fun z => by simp [cellsN]
    rw [e, List.set_cons_zero, e, ← hu, List.set_append_left _ _ (by rw [ndc_len]; omega)]
    congr 1
    rw [show 0 * 7 + j = j by omega]
  | z :: N, m + 1, j, y, y2, u, h, hj, hu => by
    have ih := cellsN_f N m j y y2 u (by simpa using h) hj hu
    have e : ∀ M, cellsN (z :: M) = ndc z ++ cellsN M := fun M => by simp [cellsN]
    rw [e, List.set_cons_succ, e, List.set_append_right _ _ (by rw [ndc_len]; omega)]
    rw [show (m + 1) * 7 + j - (ndc z).length = m * 7 + j by rw [ndc_len]; omega, ih]
theorem cellsD_n : ∀ (D : List Df) (vs : List Value) (i : Nat) (d : Df) (s : ByteArray), D[i]? = some d → vs.length = D.length → (cellsD D vs).set (i * 3) (.string s) = cellsD (D.set i { d with name := s }) vs
  | [], vs, i, d, x, h, _ => by simp at h
  | y :: D, [], i, d, x, h, hl => by simp at hl
  | y :: D, u :: vs, 0, d, x, h, hl => by
    simp at h
    subst h
    rfl
  | y :: D, u :: vs, i + 1, d, x, h, hl => by
    have ih := cellsD_n D vs i d x (by simpa using h) (by simpa using hl)
    show (dfc y u ++ cellsD D vs).set ((i + 1) * 3) _ = dfc y u ++ cellsD (D.set i _) vs
    rw [List.set_append_right _ _ (by simp [dfc]; omega)]
    rw [show (i + 1) * 3 - (dfc y u).length = i * 3 by simp [dfc]; omega, ih]
section
variable {w : World} {B : Nat} {vd : Value} {D : List Df} {vs : List Value}
theorem Src.at0 (h : Src w B vd D vs) {i : Nat} {d : Df} (hd : D[i]? = some d) : ∃ g cap v, vd = .slice (some ⟨g, 0, none⟩) D.length cap ∧ D.length ≤ cap ∧ vs[i]? = some v ∧ w.cell? ⟨g, i * 3, none⟩ = some (.string d.name) ∧ w.cell? ⟨g, i * 3 + 2, none⟩ = some v := by
  have hi := (List.getElem?_eq_some_iff.1 hd).1
  have hv : vs[i]? = some (vs[i]'(by rw [h.1]; exact hi)) := List.getElem?_eq_getElem _
  obtain ⟨g, cap, ys, hvd, hb, hc, hm, hl, ht, hK⟩ := ownS_blk h.2.1 (by omega)
  have hat : ∀ j, j < 3 → w.cell? ⟨g, i * 3 + j, none⟩ = (dfc d (vs[i]'(by rw [h.1]; exact hi)))[j]? := fun j hj => by
    rw [← cellsD_at D vs i j d _ hd hv hj, hK.cell, ← ht, List.getElem?_take, if_pos (by omega)]
  exact ⟨g, cap, _, hvd, hc, hv, hat 0 (by decide), hat 2 (by decide)⟩
theorem Src.setNm (h : Src w B vd D vs) {i : Nat} {d : Df} (hd : D[i]? = some d) (s : ByteArray) :
    ∃ g cap, vd = .slice (some ⟨g, 0, none⟩) D.length cap ∧ D.length ≤ cap ∧ B ≤ g ∧ w.cell? ⟨g, i * 3, none⟩ = some (.string d.name) ∧ w.frozen? ⟨g, i * 3, none⟩ = false ∧ Src (w.setCell ⟨g, i * 3, none⟩ (.string s)) B vd (D.set i { d with name := s }) vs := by
  have hi := (List.getElem?_eq_some_iff.1 hd).1
  have hv : vs[i]? = some (vs[i]'(by rw [h.1]; exact hi)) := List.getElem?_eq_getElem _
  obtain ⟨g, cap, hvd, hc, _, hb, h1, h2, h3⟩ := own_set (u := .string s) h.2.1 (i := i * 3) (by omega) (by omega)
  have hat := cellsD_at D vs i 0 d _ hd hv (by decide)
  rw [Nat.add_zero] at hat
  rw [hat] at h1
  refine ⟨g, cap, hvd, hc, hb, h1, h2, by rw [List.length_set]; exact h.1, ?_, ?_, h.2.2.2⟩
  · rw [List.length_set, ← cellsD_n D vs i d s hd h.1]
    exact h3
  · intro j e u he hu
    have hU : Upd (fun k => k = g) w (w.setCell ⟨g, i * 3, none⟩ (.string s)) := (Upd.refl _ w).set _ _ (.inl rfl)
    have hvo : vd.ownBlock = some g := by rw [hvd]; rfl
    have key : ∀ (d' : Df), D[j]? = some d' → (w.setCell ⟨g, i * 3, none⟩ (.string s)).ownsRow B 35 7 u d'.ty.length (cellsN d'.ty) := fun d' hd' => ownS_upd (h.2.2.1 j d' u hd' hu) hU (fun k hk e => by
      subst e
      obtain ⟨ys, hy⟩ := ownS_type (h.2.2.1 j d' u hd' hu) hk
      obtain ⟨zs, hz⟩ := ownS_type h.2.1 hvo
      exact absurd (blk_type hy hz) (by decide))
    by_cases hij : i = j
    · subst hij
      rw [List.getElem?_set_self (by exact hi)] at he
      injection he with he
      subst he
      exact key d hd
    · rw [List.getElem?_set_ne hij] at he
      exact key e he
theorem Src.setF (h : Src w B vd D vs) {i m j : Nat} {d : Df} {v u : Value} {y y2 : Nd} (hd : D[i]? = some d) (hv : vs[i]? = some v) (hy : d.ty[m]? = some y) (hj : j < 7) (hu : (ndc y).set j u = ndc y2) :
    ∃ g cap, v = .slice (some ⟨g, 0, none⟩) d.ty.length cap ∧ d.ty.length ≤ cap ∧ B ≤ g ∧ w.cell? ⟨g, m * 7 + j, none⟩ = (ndc y)[j]? ∧ w.frozen? ⟨g, m * 7 + j, none⟩ = false ∧ Src (w.setCell ⟨g, m * 7 + j, none⟩ u) B vd (D.set i { d with ty := d.ty.set m y2 }) vs := by
  have hi := (List.getElem?_eq_some_iff.1 hd).1
  have hm := (List.getElem?_eq_some_iff.1 hy).1
  obtain ⟨g, cap, hvv, hc, _, hb, h1, h2, h3⟩ := own_set (u := u) (h.2.2.1 i d v hd hv) (i := m * 7 + j) (by omega) (by omega)
  have hat := cellsN_at d.ty m j y hy hj
  rw [hat] at h1
  have hU : Upd (fun k => k = g) w (w.setCell ⟨g, m * 7 + j, none⟩ u) := (Upd.refl _ w).set _ _ (.inl rfl)
  have hvo : v.ownBlock = some g := by rw [hvv]; rfl
  refine ⟨g, cap, hvv, hc, hb, h1, h2, by rw [List.length_set]; exact h.1, ?_, ?_, h.2.2.2⟩
  · rw [List.length_set, cellsD_ty D vs i d _ hd]
    exact ownS_upd h.2.1 hU (fun k hk e => by
      subst e
      obtain ⟨ys, hz⟩ := ownS_type (h.2.2.1 i d v hd hv) hvo
      obtain ⟨zs, hz2⟩ := ownS_type h.2.1 hk
      exact absurd (blk_type hz hz2) (by decide))
  · intro l e x he hx
    by_cases hij : i = l
    · subst hij
      rw [List.getElem?_set_self (by exact hi)] at he
      injection he with he
      subst he
      rw [hv] at hx
      injection hx with hx
      subst hx
      show (w.setCell _ _).ownsRow B _ 7 v (d.ty.set m _).length (cellsN (d.ty.set m _))
      rw [List.length_set, ← cellsN_f d.ty m j y y2 u hy hj hu]
      exact h3
    · rw [List.getElem?_set_ne hij] at he
      exact ownS_upd (h.2.2.1 l e x he hx) hU (fun k hk e2 => by
        subst e2
        exact hij (h.2.2.2 i l v x k hv hx hvo hk))
end
end Go.Proofs.YtbfmoiaedopeiaaDoor
