/- LayoutExact: its walk. -/
import Derived.Test.YtnpkpmbpapekbaaEo
import Derived.Test.YtnpkpmbpapekbaaEm
import Derived.Test.YtnpkpmbpapekbaaEh
import Derived.Test.YtnpkpmbpapekbaaEk
namespace Go.Proofs.Ytnpkpmbpapekbaa
open Go.RowKit
set_option linter.unusedVariables false

/-- What Of answers: the layouts and the error. -/
def LA (T : List Ty) (R : List Rt) : List Ly × Int := if (chk T R).1 = 0 then (T.map (layP (extL T)), 0) else ([], 92)
theorem LOfTo.uni {T : List Ty} {R : List Rt} {w w' : World} {e : Ending} (h : LOfTo T R w e w') : ∃ v P, e = .returned (.tuple #[v, .int .i64 (LA T R).2]) ∧ P.map (·.1) = (LA T R).1 ∧ LOwn w' w.heap.size v P ∧ Below w.heap.size w w' := by
  rcases h with ⟨hne, rfl, hB⟩ | ⟨hok, v, P, rfl, hP, hO, hB⟩
  · refine ⟨.slice none 0 0, [], ?_, ?_, LOwn.nil _ _, hB⟩
    · unfold LA; rw [if_neg hne]
    · unfold LA; rw [if_neg hne]; rfl
  · have hc : (chk T R).1 = 0 := by rw [hok.chk]
    refine ⟨v, P, ?_, ?_, hO, hB⟩
    · unfold LA; rw [if_pos hc]
    · unfold LA; rw [if_pos hc]; exact hP
theorem LA_len (T : List Ty) (R : List Rt) : (LA T R).1.length ≤ T.length := by
  unfold LA
  split
  · simp
  · simp
theorem LA_sl (T : List Ty) (R : List Rt) : ∀ y ∈ (LA T R).1, y.sl.length ≤ 64 := by
  unfold LA
  split
  · rename_i h
    have hS := okS_of h
    intro y hy
    simp only [List.mem_map] at hy
    obtain ⟨t, ht, rfl⟩ := hy
    obtain ⟨i, hi⟩ := List.mem_iff_getElem?.1 ht
    have hil := (List.getElem?_eq_some_iff.1 hi).1
    have hok := hS.ty i hil
    rw [show T.getD i ty0 = t by simp [List.getD, hi]] at hok
    exact lay_len hok
  · intro y hy; cases hy
theorem row_addr {w : World} {B e c n cap m : Nat} {a : Option Addr} {xs : List Value} (h : w.ownsRow B e c (.slice a n cap) m xs) (hm : 0 < m) : ∃ g, a = some ⟨g, 0, none⟩ := by
  obtain ⟨g, cap', ys, e, _⟩ := ownS_blk h hm
  injection e with e _ _
  exact ⟨g, e⟩
theorem own_cells {α : Type} {c : Nat} {f : α → List Value} (hf : ∀ x, (f x).length = c) {w : World} {B e g n cap : Nat} {l : List α} (h : w.ownsRow B e c (.slice (some ⟨g, 0, none⟩) n cap) l.length (cellsG f l)) {i : Nat} {x : α} (hx : l[i]? = some x) : (∀ j, j < c → w.cell? ⟨g, i * c + j, none⟩ = (f x)[j]?) ∧ ∀ o, w.frozen? ⟨g, o, none⟩ = false := by
  have hi := (List.getElem?_eq_some_iff.1 hx).1
  obtain ⟨g', cap', ys, e, hb, hn, hm, hl, ht, hK⟩ := ownS_blk h (by omega)
  have e0 : g = g' ∧ n = l.length ∧ cap = cap' := by simpa using e
  obtain ⟨rfl, rfl, rfl⟩ := e0
  refine ⟨fun j hj => ?_, fun o => hK.frozen o⟩
  rw [hK.cell, ← cellsG_at hf l i j x hx hj, ← ht, List.getElem?_take, if_pos]
  have h1 : i * c + c ≤ l.length * c := by rw [← Nat.succ_mul]; exact Nat.mul_le_mul_right c hi
  omega
theorem map_sl {P : List (Ly × Value)} {L : List Ly} (h : P.map (·.1) = L) (hs : ∀ y ∈ L, y.sl.length ≤ 64) : ∀ p ∈ P, p.1.sl.length ≤ 64 := fun p hp => hs _ (by rw [← h]; exact List.mem_map_of_mem hp)
theorem map_n {P : List (Ly × Value)} {L : List Ly} (h : P.map (·.1) = L) : P.length = L.length := by rw [← h]; simp
def z4 : Ly × Value := (⟨-4, []⟩, .slice none 0 0)
def zL (Q : List (Ly × Value)) (i : Nat) : List (Ly × Value) := List.replicate i z3 ++ Q.drop i
theorem zL_len (Q : List (Ly × Value)) {i : Nat} (hi : i ≤ Q.length) : (zL Q i).length = Q.length := by simp [zL]; omega
theorem zL_at (Q : List (Ly × Value)) (i : Nat) : (zL Q i)[i]? = Q[i]? := by
  unfold zL
  rw [List.getElem?_append_right (by simp)]
  simp
theorem zL_set (Q : List (Ly × Value)) {i : Nat} (hi : i < Q.length) : (zL Q i).set i z3 = zL Q (i + 1) := by
  unfold zL
  rw [List.set_append_right _ _ (by simp), List.length_replicate, Nat.sub_self, List.drop_eq_getElem_cons hi, List.set_cons_zero, List.replicate_succ', List.append_assoc]
  rfl
theorem repl_at {n k : Nat} (hk : k < n) : (List.replicate n sm1)[k]? = some sm1 := by simp [hk]
theorem app_at1 {l : List Sl} {s x : Sl} {k : Nat} (h : l[k]? = some s) : (l ++ [x])[k]? = some s := by
  have hk := (List.getElem?_eq_some_iff.1 h).1
  rw [List.getElem?_append_left hk, h]
theorem app_at2 (l : List Sl) (x : Sl) : (l ++ [x])[l.length]? = some x := by simp
set_option maxRecDepth 100000 in
set_option maxHeartbeats 16000000 in
theorem exact_any (a : Option Addr) (c : Nat) (T : List Ty) (ar : Option Addr) (cr : Nat) (R : List Rt) (w : World) (hn : T.length ≤ 3000000000000) (hm : R.length ≤ 10000000000000) (hL : Hid (LensT T)) (hT : Hid (TRow w a T)) (hR : Hid (RRow w ar R)) :
    Calls Try.prog 6 #[.agg #[.slice a T.length c, .slice ar R.length cr]] w fun e w' => e = .returned (.bool true) ∧ Below w.heap.size w w' := by
  have hB := below1 w (.cells #[.slice a T.length c, .slice ar R.length cr] 34)
  have k1 := Blk.newA w #[.slice a T.length c, .slice ar R.length cr] 34
  obtain ⟨w0, hw0⟩ : ∃ wx, wx = w.alloc (.cells #[.slice a T.length c, .slice ar R.length cr] 34) := ⟨_, rfl⟩
  rw [← hw0] at hB k1
  have HB0 := hide_ hB
  have K1 := hide_ k1
  have HAw := hide_ (awake_any w0)
  have hz0 : w.heap.size < w0.heap.size := k1.lt
  obtain ⟨LL, hLL⟩ : ∃ L, LA T R = L := ⟨_, rfl⟩
  have hlen := LA_len T R
  have hsl := LA_sl T R
  rw [hLL] at hlen hsl
  obtain ⟨L, er⟩ := LL
  simp only at hlen hsl
  have HCl : Hid (∀ w', Below w0.heap.size w0 w' → Calls Try.prog 12 #[.agg #[.slice a T.length c, .slice ar R.length cr]] w' fun e w2 => ∃ v P, e = .returned (.tuple #[v, .int .i64 er]) ∧ Hid (P.map (·.1) = L) ∧ Hid (LOwn w2 w'.heap.size v P) ∧ Hid (Below w'.heap.size w' w2)) := hide_ (fun w' hb => by
    have hb2 := below_to HB0.out hb
    refine (lof_any a c T ar cr R w' hn hm hL (hide_ (hT.out.later hb2)) (hide_ (hR.out.later hb2))).mono ?_
    intro e w2 h
    obtain ⟨v, P, h1, h2, h3, h4⟩ := h.uni
    rw [hLL] at h1 h2
    exact ⟨v, P, h1, hide_ h2, hide_ h3, hide_ h4⟩)
  have HCd : Hid (∀ w', Below w0.heap.size w0 w' → Calls Try.prog 16 #[.agg #[.slice a T.length c, .slice ar R.length cr]] w' fun e w2 => ∃ v P, e = .returned (.tuple #[v, .int .i64 er]) ∧ Hid (P.map (·.1) = L) ∧ Hid (LOwn w2 w'.heap.size v P) ∧ Hid (Below w'.heap.size w' w2)) := hide_ (fun w' hb => by
    have hb2 := below_to HB0.out hb
    refine (ofD_any a c T ar cr R w' hn hm hL (hide_ (hT.out.later hb2)) (hide_ (hR.out.later hb2))).mono ?_
    intro e w2 h
    obtain ⟨v, P, h1, h2, h3, h4⟩ := h.uni
    rw [hLL] at h1 h2
    exact ⟨v, P, h1, hide_ h2, hide_ h3, hide_ h4⟩)
  have HBox : Hid (∀ w', Below w0.heap.size w0 w' → w'.cell? ⟨w.heap.size, 0, none⟩ = some (.slice a T.length c) ∧ w'.cell? ⟨w.heap.size, 1, none⟩ = some (.slice ar R.length cr)) := hide_ (fun w' hb => by
    have k := K1.out.later hb
    have i0 := k.cell 0; have i1 := k.cell 1
    simp at i0 i1
    exact ⟨i0, i1⟩)
  obtain ⟨N, hN⟩ : ∃ N, L.length = N := ⟨_, rfl⟩
  rw [hN] at hlen
  have HN := hide_ hN
  have Hsl := hide_ hsl
  have HAl : Hid (∀ (w' : World) (v1 v2 : Value) (P1 P2 : List (Ly × Value)) (B1 B2 : Nat) (a1 a2 : Option Addr) (d1 d2 : Nat), v1 = .slice a1 N d1 → v2 = .slice a2 N d2 → P1.map (·.1) = L → P2.map (·.1) = L → LOwn w' B1 v1 P1 → LOwn w' B2 v2 P2 → Calls Try.prog 17 #[.slice a1 N d1, .slice a2 N d2] w' fun e w2 => e = .returned (.bool true) ∧ Below w'.heap.size w' w2) := hide_ (fun w' v1 v2 P1 P2 B1 B2 a1 a2 d1 d2 e1 e2 m1 m2 o1 o2 => by
    subst e1 e2
    obtain ⟨x1, y1, q1, r1⟩ := o1.rd
    obtain ⟨x2, y2, q2, r2⟩ := o2.rd
    injection q1 with q1 _ _
    injection q2 with q2 _ _
    subst q1 q2
    exact alike_yes a1 a2 d1 d2 N P1 P2 w' (by omega) (hide_ (by rw [map_n m1]; exact HN.out)) (hide_ (by rw [map_n m2]; exact HN.out)) (hide_ (by rw [m1, m2])) (hide_ (map_sl m1 Hsl.out)) (hide_ r1) (hide_ r2))
  have her : (er != er) = false := by simp
  clear hB k1 hLL hsl hN
  go_enter Try.func6, Try.ntmps6
  go_upto_region 1 with fail
  rw [← hw0]
  clear hw0
  go_wp2_with fail
  refine HAw.out.mono ?_
  rintro e w1 ⟨rfl, hB1⟩
  have HB1 := hide_ hB1
  clear hB1 HAw K1
  obtain ⟨i0, i1⟩ := HBox.out w1 HB1.out
  go_wp2_with fail
  refine (HCl.out w1 HB1.out).mono ?_
  rintro e w2 ⟨va, Pa, rfl, HMva, HOva, HBB2⟩
  have HB2 := hide_ (below_to HB1.out HBB2.out)
  have hz2 : w1.heap.size ≤ w2.heap.size := HBB2.out.size
  have Lotva := hide_ (LotL.of HOva.out)
  obtain ⟨ava, cva, eva, -, -⟩ := HOva.out.slice
  rw [map_n HMva.out, HN.out] at eva
  subst eva
  clear i0 i1 HOva
  obtain ⟨i0, i1⟩ := HBox.out w2 HB2.out
  go_wp2_with fail
  refine (HCl.out w2 HB2.out).mono ?_
  rintro e w3 ⟨vb, Pb, rfl, HMvb, HOvb, HBB3⟩
  have HB3 := hide_ (below_to HB2.out HBB3.out)
  have hz3 : w2.heap.size ≤ w3.heap.size := HBB3.out.size
  have Lotvb := hide_ (LotL.of HOvb.out)
  obtain ⟨avb, cvb, evb, -, -⟩ := HOvb.out.slice
  rw [map_n HMvb.out, HN.out] at evb
  subst evb
  clear i0 i1 HOvb
  have Lotva := hide_ (Lotva.out.later HBB3.out)
  obtain ⟨i0, i1⟩ := HBox.out w3 HB3.out
  go_wp2_with fail
  refine (HCd.out w3 HB3.out).mono ?_
  rintro e w4 ⟨vw, Pw, rfl, HMvw, HOvw, HBB4⟩
  have HB4 := hide_ (below_to HB3.out HBB4.out)
  have hz4 : w3.heap.size ≤ w4.heap.size := HBB4.out.size
  have Lotvw := hide_ (LotL.of HOvw.out)
  obtain ⟨avw, cvw, evw, -, -⟩ := HOvw.out.slice
  rw [map_n HMvw.out, HN.out] at evw
  subst evw
  clear i0 i1 HOvw
  have Lotva := hide_ (Lotva.out.later HBB4.out)
  have Lotvb := hide_ (Lotvb.out.later HBB4.out)
  clear HBB2 HBB3 HBB4 HB2 HB3
  go_wp2_with fail
  refine (HAl.out w4 _ _ Pa Pw _ _ _ _ _ _ rfl rfl HMva.out HMvw.out Lotva.out.own Lotvw.out.own).mono ?_
  rintro e w5 ⟨rfl, hB⟩
  have Lotva := hide_ (Lotva.out.later hB)
  have Lotvb := hide_ (Lotvb.out.later hB)
  have Lotvw := hide_ (Lotvw.out.later hB)
  have HB5 := hide_ (below_to HB4.out hB)
  have hz5 : w4.heap.size ≤ w5.heap.size := hB.size
  clear hB HB4
  go_wp2_with fail
  refine (HAl.out w5 _ _ Pb Pw _ _ _ _ _ _ rfl rfl HMvb.out HMvw.out Lotvb.out.own Lotvw.out.own).mono ?_
  rintro e w6 ⟨rfl, hB⟩
  have Lotva := hide_ (Lotva.out.later hB)
  have Lotvb := hide_ (Lotvb.out.later hB)
  have Lotvw := hide_ (Lotvw.out.later hB)
  have HB6 := hide_ (below_to HB5.out hB)
  have hz6 : w5.heap.size ≤ w6.heap.size := hB.size
  have hz1 : w0.heap.size ≤ w1.heap.size := HB1.out.size
  have HPn : Hid (Pa.length = N) := hide_ (by rw [map_n HMva.out]; exact HN.out)
  have HPs : Hid (∀ p ∈ Pa, p.1.sl.length ≤ 64) := hide_ (map_sl HMva.out Hsl.out)
  clear hB HB5
  go_wp2_with fail
  go_loopw [9] (fun x9 wr => ∃ (i : Nat) (Q : List (Ly × Value)), i ≤ N ∧ x9 = .int .i64 (i : Int) ∧ Hid (Mk Pa Q i) ∧ Hid (LotL wr (.slice ava N cva) Q w1.heap.size w2.heap.size) ∧ Hid (Upd (fun k => w1.heap.size ≤ k ∧ k < w2.heap.size) w6 wr)) (fun x9 _ => N - (intOf x9).toNat)
  case atStart => exact ⟨0, Pa, Nat.zero_le _, rfl, hide_ (Mk.refl _), Lotva, hide_ (Upd.refl _ _)⟩
  case round =>
    obtain ⟨i, Q, hi, rfl, HMk, HLq, HUq⟩ := hrel
    generalize wr = wq at *
    by_cases hlt : i < N
    · have hlt' : (i : Int) < N := by omega
      have hQl : i < Q.length := by rw [HMk.out.len, HPn.out]; exact hlt
      have hQi : Q[i]? = some (Q[i]'hQl) := List.getElem?_eq_getElem hQl
      have hPi : Pa[i]? = some (Pa[i]'(by rw [HPn.out]; exact hlt)) := List.getElem?_eq_getElem _
      have hsl1 : (Q[i]'hQl).1.sl.length ≤ 64 := by
        rw [(HMk.out.at_ i _ _ hPi hQi).2.1]
        exact HPs.out _ (List.getElem_mem _)
      obtain ⟨gA, hgA⟩ := row_addr HLq.out.own.row (by omega)
      subst hgA
      generalize Q[i]'hQl = q at *
      obtain ⟨y, u⟩ := q
      simp only at hsl1
      obtain ⟨au, cu, hu, -, -, -⟩ := (HLq.out.own.sl _ (List.mem_of_getElem? hQi)).row
      simp only at hu
      obtain ⟨n, hn1⟩ : ∃ n, y.sl.length = n := ⟨_, rfl⟩
      rw [hn1] at hu hsl1
      subst hu
      have hc := own_cells lyc_len HLq.out.own.row hQi
      have x1 := hc.1 1 (by decide)
      simp [lyc] at x1
      have HQi := hide_ hQi
      have HN1 := hide_ hn1
      clear hQi hPi hQl hc hn1
      go_wp2_with fail
      go_loopw [10] (fun x10 wr => ∃ (k : Nat) (y2 : Ly) (Q2 : List (Ly × Value)), k ≤ n ∧ x10 = .int .i64 (k : Int) ∧ Hid (Mk Pa Q2 i) ∧ Hid (Q2[i]? = some (y2, .slice au n cu)) ∧ Hid (y2.sl.length = n) ∧ Hid (y2.sl.take k = List.replicate k sm1) ∧ Hid (LotL wr (.slice (some ⟨gA, 0, none⟩) N cva) Q2 w1.heap.size w2.heap.size) ∧ Hid (Upd (fun k => w1.heap.size ≤ k ∧ k < w2.heap.size) w6 wr)) (fun x10 _ => n - (intOf x10).toNat)
      case atStart => exact ⟨0, y, Q, Nat.zero_le _, rfl, HMk, HQi, HN1, hide_ (by simp), HLq, HUq⟩
      case round =>
        obtain ⟨k, y2, Q2, hk, rfl, HMk2, HQ2, HN2, HT2, HL2, HU2⟩ := hrel
        generalize wr = wk at *
        clear x1
        have hc := own_cells lyc_len HL2.out.own.row HQ2.out
        have x1 := hc.1 1 (by decide)
        simp [lyc] at x1
        by_cases hkl : k < n
        · have hkl' : (k : Int) < n := by omega
          have hso := HL2.out.own.sl _ (List.mem_of_getElem? HQ2.out)
          simp only at hso
          obtain ⟨gS, hgS⟩ := row_addr hso (by rw [HN2.out]; omega)
          subst hgS
          have hk2 : k < y2.sl.length := by rw [HN2.out]; exact hkl
          have hs2 : y2.sl[k]? = some (y2.sl[k]'hk2) := List.getElem?_eq_getElem hk2
          have hcs := own_cells slc_len hso hs2
          have m0 := hcs.1 0 (by decide); have m1 := hcs.1 1 (by decide); have m2 := hcs.1 2 (by decide)
          have mf := hcs.2
          generalize y2.sl[k]'hk2 = s at *
          obtain ⟨sa, sv, ss⟩ := s
          simp [slc] at m0 m1 m2
          obtain ⟨hp1, hp2⟩ := HL2.out.put HQ2.out hk2 sm1
          obtain ⟨hk3, hk4, hk5⟩ := HMk2.out.put HQ2.out hk2 HT2.out
          have HLn := hide_ hp1
          have HUn := hide_ (((HU2.out.set ⟨gS, k * 3, none⟩ (.int .i64 sm1.at_) (.inl hp2)).set ⟨gS, k * 3 + 1, none⟩ (.bool sm1.v) (.inl hp2)).set ⟨gS, k * 3 + 2, none⟩ (.int .i64 sm1.sz) (.inl hp2))
          have HMn := hide_ hk3
          have HQn := hide_ hk4
          have HTn := hide_ hk5
          have HNn : Hid ((Ly.mk y2.sz (y2.sl.set k sm1)).sl.length = n) := hide_ (by simp only [List.length_set]; exact HN2.out)
          simp only [sm1] at HLn HUn
          clear hp1 hp2 hk3 hk4 hk5 hcs hs2 hso hc hk2
          go_wp2_with fail
          go_roundw
          case rel => exact ⟨k + 1, _, _, by omega, by go_num, HMn, HQn, HNn, HTn, HLn, HUn⟩
          case measure => simp [intOf]; omega
        · obtain rfl : k = n := by omega
          have HMn := hide_ (HMk2.out.next HQ2.out (by rw [HN2.out]; exact HT2.out))
          clear hc
          go_wp2_with fail
          go_roundw
          case rel => exact ⟨i + 1, Q2, by omega, by go_num, HMn, HL2, HU2⟩
          case measure => simp [intOf]; omega
    · obtain rfl : i = N := by omega
      have Lotvb := hide_ (Lotvb.out.upd HUq.out (fun k h1 h2 h3 => by omega))
      have Lotvw := hide_ (Lotvw.out.upd HUq.out (fun k h1 h2 h3 => by omega))
      have hzq : w6.heap.size ≤ wq.heap.size := HUq.out.size
      have HB7 := hide_ (HB6.out.trans (HUq.out.below w0.heap.size HB6.out.size (fun k hk => by omega)))
      have HQs : Hid (∀ (j : Nat) (q : Ly × Value), Q[j]? = some q → q.1.sl = List.replicate q.1.sl.length sm1 ∧ q.1.sl.length ≤ 64) := hide_ (fun j q hq => by
        have hj := (List.getElem?_eq_some_iff.1 hq).1
        have hjP : j < Pa.length := by rw [← HMk.out.len]; exact hj
        have hp : Pa[j]? = some (Pa[j]'hjP) := List.getElem?_eq_getElem hjP
        obtain ⟨h1, h2, h3⟩ := HMk.out.at_ j _ q hp hq
        refine ⟨?_, by rw [h2]; exact HPs.out _ (List.getElem_mem hjP)⟩
        rw [h3 (by rw [HPn.out] at hjP; exact hjP), List.length_replicate])
      have HQn : Hid (Q.length = i) := hide_ (by rw [HMk.out.len, HPn.out])
      clear HUq HMk Lotva HB6
      generalize hN7 : wq = w7 at *
      clear hN7
      obtain ⟨M0, hM0⟩ : ∃ M : Nat → Value, M = fun _ => .slice none 0 0 := ⟨_, rfl⟩
      clear hM0
      go_wp2_with fail
      go_loopw [11, 12] (fun x11 x12 wr => ∃ (vM : Value) (p : Nat) (M : Nat → Value), vM = x11 ∧ p ≤ i ∧ x12 = .int .i64 (p : Int) ∧ Hid (Gw wr (.slice ava i cva) vM Q w1.heap.size w2.heap.size w7.heap.size p M) ∧ Hid (Upd (fun k => (w1.heap.size ≤ k ∧ k < w2.heap.size) ∨ w7.heap.size ≤ k) w7 wr)) (fun _ x12 _ => i - (intOf x12).toNat)
      case atStart => exact ⟨_, 0, M0, rfl, Nat.zero_le _, rfl, hide_ (Gw.begin M0 HLq.out), hide_ (Upd.refl _ _)⟩
      case round =>
        obtain ⟨vM, p, M, rfl, hp, rfl, HG, HUg⟩ := hrel
        generalize wr = wg at *
        by_cases hltp : p < i
        · have hltp' : (p : Int) < i := by omega
          have hQl : p < Q.length := by rw [HQn.out]; exact hltp
          have hQp : Q[p]? = some (Q[p]'hQl) := List.getElem?_eq_getElem hQl
          obtain ⟨gA, hgA⟩ := row_addr HG.out.a.own.row (by omega)
          subst hgA
          generalize Q[p]'hQl = q at *
          obtain ⟨y, u⟩ := q
          have hn64 := (HQs.out p _ hQp).2
          (try simp only at hn64)
          obtain ⟨au, cu, hu, -, -, -⟩ := (HG.out.a.own.sl _ (List.mem_of_getElem? hQp)).row
          (try simp only at hu)
          subst hu
          have hc := own_cells lyc_len HG.out.a.own.row hQp
          have x1 := hc.1 1 (by decide)
          simp [lyc] at x1
          have hzg : w7.heap.size ≤ wg.heap.size := HUg.out.size
          obtain ⟨g1, c1, wg1, hr1, g2, c2, wg2, hr2, hG2, hU2⟩ := HG.out.step hQp hn64 (by omega) (by omega) hzg
          have HR1 := hide_ hr1
          have HR2 := hide_ hr2
          have HG2 := hide_ hG2
          have HU2 := hide_ (HUg.out.to hU2)
          obtain ⟨aM, cM, hvM⟩ : ∃ a c, vM = .slice a p c := by
            rcases HG.out.rM.2 with ⟨h1, h2⟩ | ⟨g, cap, cur, h1, _⟩
            · exact ⟨none, 0, by rw [h1, h2]⟩
            · exact ⟨_, cap, h1⟩
          subst hvM
          clear hr1 hr2 hG2 hU2 hc hQp hQl
          go_wp2_with (first | (at_builtin; refine wpList_append_run rfl (.tmp 91) (.tmp 94) 47 47 rfl rfl rfl HR1.out ?_) | (at_builtin; refine wpList_append_run rfl (.tmp 86) (.tmp 96) 57 57 rfl rfl rfl HR2.out ?_) | fail)
          clear HR1 HR2
          go_roundw
          case rel => exact ⟨_, p + 1, _, rfl, by omega, by go_num, HG2, HU2⟩
          case measure => simp [intOf]; omega
        · obtain rfl : p = i := by omega
          have Lotvb := hide_ (Lotvb.out.upd HUg.out (fun k h1 h2 h3 => by omega))
          have Lotvw := hide_ (Lotvw.out.upd HUg.out (fun k h1 h2 h3 => by omega))
          have hzg : w7.heap.size ≤ wg.heap.size := HUg.out.size
          have HB8 := hide_ (HB7.out.trans (HUg.out.below w0.heap.size HB7.out.size (fun k hk => by omega)))
          clear HLq HUg HB7
          generalize hN8 : wg = w8 at *
          clear hN8
          have HZ0 : Hid (w8.ownsRow w1.heap.size 49 2 (.slice ava p cva) p (cellsG lyc (zL Q 0))) := hide_ (by
            have h := HG.out.a.own.row
            rw [HQn.out] at h
            have e : zL Q 0 = Q := by simp [zL]
            rw [e]
            exact h)
          go_wp2_with fail
          go_loopw [13] (fun x13 wr => ∃ (j : Nat), j ≤ p ∧ x13 = .int .i64 (j : Int) ∧ Hid (wr.ownsRow w1.heap.size 49 2 (.slice ava p cva) p (cellsG lyc (zL Q j))) ∧ Hid (Upd (fun k => (Value.slice ava p cva).ownBlock = some k) w8 wr)) (fun x13 _ => p - (intOf x13).toNat)
          case atStart => exact ⟨0, Nat.zero_le _, rfl, HZ0, hide_ (Upd.refl _ _)⟩
          case round =>
            obtain ⟨j, hj, rfl, HZ, HUz⟩ := hrel
            generalize wr = wz at *
            clear HZ0
            by_cases hltj : j < p
            · have hltj' : (j : Int) < p := by omega
              have hQl : j < Q.length := by rw [HQn.out]; exact hltj
              have hQj : Q[j]? = some (Q[j]'hQl) := List.getElem?_eq_getElem hQl
              obtain ⟨gA, hgA⟩ := row_addr HZ.out (by omega)
              subst hgA
              have hzl : (zL Q j).length = p := by rw [zL_len Q (by omega)]; exact HQn.out
              have hZat : (zL Q j)[j]? = some (Q[j]'hQl) := by rw [zL_at]; exact hQj
              have hZ2 : wz.ownsRow w1.heap.size 49 2 (.slice (some ⟨gA, 0, none⟩) p cva) (zL Q j).length (cellsG lyc (zL Q j)) := by rw [hzl]; exact HZ.out
              have hc := own_cells lyc_len hZ2 hZat
              have hput := row_put hZ2 (by rw [hzl]; exact hltj) z3
              rw [zL_set Q hQl, zL_len Q hQl, HQn.out] at hput
              generalize Q[j]'hQl = q at *
              have hrep := HQs.out j q hQj
              have hso := HG.out.a.own.sl q (List.mem_of_getElem? hQj)
              have hom := HG.out.oM j q hltj hQj
              have hne : ∀ {v : Value} {e c n : Nat} {xs : List Value} {B : Nat}, w8.ownsRow B e c v n xs → e ≠ 49 → wz.ownsRow B e c v n xs := fun hh he => ownS_upd hh HUz.out (fun k hk e2 => by
                obtain ⟨zs, hz⟩ := ownS_type hh hk
                obtain ⟨ys, hy⟩ := ownS_type HG.out.a.own.row e2
                exact he (blk_type hz hy))
              have hso2 : SOwn wz w1.heap.size q.2 q.1.sl := hne hso (by decide)
              have hom2 : SOwn wz w1.heap.size (M j) (q.1.sl ++ [sm2 j]) := hne hom (by decide)
              have hrm2 := hne HG.out.rM (by decide)
              obtain ⟨y, u⟩ := q
              simp only at hrep hso2 hom2
              obtain ⟨au, cu, hu, -, -, -⟩ := hso2.row
              subst hu
              have x0 := hc.1 0 (by decide); have x1 := hc.1 1 (by decide)
              have xf := hc.2
              simp [lyc] at x0 x1
              obtain ⟨am, cm, hm2, -, -, -⟩ := hom2.row
              rw [hm2] at hom2
              obtain ⟨gm, hgm⟩ := row_addr hom2 (by simp)
              subst hgm
              obtain ⟨qM, cM, hvM, -, -, -, hMc⟩ := RowE.open (w := wz) hrm2 (by omega)
              subst hvM
              have v0 := hMc j hltj
              rw [hm2, List.length_append, List.length_singleton] at v0
              obtain ⟨n, hnn⟩ : ∃ n, y.sl.length = n := ⟨_, rfl⟩
              have HSo := hide_ hso2
              have HOm := hide_ hom2
              have HRp := hide_ hrep
              have HNn := hide_ hnn
              have HPut := hide_ hput
              have HUp := hide_ ((HUz.out.set ⟨gA, j * 2, none⟩ (.int .i64 z3.1.sz) (.inl rfl)).set ⟨gA, j * 2 + 1, none⟩ z3.2 (.inl rfl))
              simp only [z3] at HPut HUp
              have hlast := own_cells slc_len hom2 (app_at2 y.sl (sm2 j))
              have t0 := hlast.1 0 (by decide); have t1 := hlast.1 1 (by decide); have t2 := hlast.1 2 (by decide)
              rw [hnn] at t0 t1 t2 v0 x1
              simp [slc, sm2] at t0 t1 t2
              have hn64 : n ≤ 64 := by rw [← hnn]; exact hrep.2
              have hnlt : (n : Int) < (n : Int) + 1 := by omega
              clear hput hso hom hso2 hom2 hrm2 hMc hc hQj hQl hZat hZ2 hzl hrep hnn hlast hne hm2
              go_wp2_with fail
              go_loopw [15] (fun x15 wr => ∃ (k : Nat), k ≤ n ∧ x15 = .int .i64 (k : Int) ∧ wz = wr) (fun x15 _ => n - (intOf x15).toNat)
              case atStart => exact ⟨0, Nat.zero_le _, rfl, rfl⟩
              case round =>
                obtain ⟨k, hk, rfl, rfl⟩ := hrel
                by_cases hkl : k < n
                · have hkl' : (k : Int) < n := by omega
                  have hkl2 : (k : Int) < (n : Int) + 1 := by omega
                  have hk2 : k < y.sl.length := by rw [HNn.out]; exact hkl
                  have hs2 : y.sl[k]? = some sm1 := by rw [HRp.out.1, HNn.out]; exact repl_at hkl
                  obtain ⟨gS, hgS⟩ := row_addr HSo.out (by omega)
                  subst hgS
                  have hcs := own_cells slc_len HSo.out hs2
                  have m0 := hcs.1 0 (by decide); have m1 := hcs.1 1 (by decide); have m2 := hcs.1 2 (by decide)
                  have hcm := own_cells slc_len HOm.out (app_at1 (x := sm2 j) hs2)
                  have n0 := hcm.1 0 (by decide); have n1 := hcm.1 1 (by decide); have n2 := hcm.1 2 (by decide)
                  simp [slc, sm1] at m0 m1 m2 n0 n1 n2
                  clear hcs hcm hs2 hk2
                  go_wp2_with fail
                  go_roundw
                  case rel => exact ⟨k + 1, by omega, by go_num, by trivial⟩
                  case measure => simp [intOf]; omega
                · obtain rfl : k = n := by omega
                  go_wp2_with fail
                  go_roundw
                  case rel => exact ⟨j + 1, by omega, by go_num, HPut, HUp⟩
                  case measure => simp [intOf]; omega
            · obtain rfl : j = p := by omega
              have hzl : (zL Q j).length = j := by rw [zL_len Q (by rw [HQn.out]; exact Nat.le_refl _)]; exact HQn.out
              have hva2 : ∀ k, (Value.slice ava j cva).ownBlock = some k → w1.heap.size ≤ k ∧ k < w2.heap.size := fun k hk => ⟨(HG.out.a.own.lies hk).1, HG.out.a.r k hk⟩
              have Lotvb := hide_ (Lotvb.out.upd HUz.out (fun k h1 h2 h3 => by have := hva2 k h3; omega))
              have Lotvw := hide_ (Lotvw.out.upd HUz.out (fun k h1 h2 h3 => by have := hva2 k h3; omega))
              have hzz : w8.heap.size ≤ wz.heap.size := HUz.out.size
              have HB9 := hide_ (HB8.out.trans (HUz.out.below w0.heap.size HB8.out.size (fun k hk => by have := hva2 k hk; omega)))
              have hZ2 : wz.ownsRow w1.heap.size 49 2 (.slice ava j cva) (zL Q j).length (cellsG lyc (zL Q j)) := by rw [hzl]; exact HZ.out
              obtain ⟨gm, cm, wm, hrun, hom, hum, hlm⟩ := run_pushS (P := Try.prog) (t := 38) (e := 49) (c := 2) Try.underlying38 infoL rfl (by decide) wz 38 hZ2 (lyc z4) rfl (fun u hu => by simp [lyc, z4] at hu; rcases hu with rfl | rfl <;> rfl) (by rw [hzl]; unfold maxLen; omega) (by rw [hzl]; omega) (by omega)
              have Lotvb := hide_ (Lotvb.out.upd hum (fun k h1 h2 h3 => by have := hva2 k h3; omega))
              have Lotvw := hide_ (Lotvw.out.upd hum (fun k h1 h2 h3 => by have := hva2 k h3; omega))
              have hzm : wz.heap.size ≤ wm.heap.size := hum.size
              have HBm := hide_ (HB9.out.trans (hum.below w0.heap.size HB9.out.size (fun k hk => by have := hva2 k hk; omega)))
              have hcm : wm.cell? ⟨gm, j * 2, none⟩ = some (.int .i64 (-4)) := by
                have e1 : (cellsG lyc (zL Q j ++ [z4])) = cellsG lyc (zL Q j) ++ lyc z4 := by rw [cellsG_app, cellsG_one]
                rw [← e1] at hom
                have hom2 : wm.ownsRow w1.heap.size 49 2 (.slice (some ⟨gm, 0, none⟩) ((zL Q j).length + 1) cm) (zL Q j ++ [z4]).length (cellsG lyc (zL Q j ++ [z4])) := by rw [List.length_append, List.length_singleton]; exact hom
                have h := (own_cells lyc_len hom2 (i := j) (x := z4) (by rw [List.getElem?_append_right (by omega), hzl]; simp)).1 0 (by decide)
                simpa [lyc, z4] using h
              rw [hzl] at hrun
              simp only [lyc, z4] at hrun
              have HRun := hide_ hrun
              have HCm : Hid (∀ w', Below wm.heap.size wm w' → w'.cell? ⟨gm, j * 2, none⟩ = some (.int .i64 (-4))) := hide_ (fun w' hb => (hb.cell (World.block_lt_of_cell? wm _ hcm)).trans hcm)
              have hjl : (j : Int) < (j : Int) + 1 := by omega
              clear hrun hom hum hlm hcm hZ2 hzl HZ HUz HB9 HB8 HG hva2
              obtain ⟨i0, i1⟩ := HBox.out wm HBm.out
              go_upto_region 33 with (first | (at_builtin; refine wpList_append_run rfl (.tmp 150) (.tmp 152) 38 38 rfl rfl rfl HRun.out ?_) | fail)
              clear HRun
              go_wp2_with fail
              refine (HCl.out wm HBm.out).mono ?_
              rintro e wn ⟨vc, Pc, rfl, HMvc, HOvc, HBBn⟩
              have Lotvb := hide_ (Lotvb.out.later HBBn.out)
              have Lotvw := hide_ (Lotvw.out.later HBBn.out)
              have HBn := hide_ (below_to HBm.out HBBn.out)
              obtain ⟨avc, cvc, evc, -, -⟩ := HOvc.out.slice
              rw [map_n HMvc.out, HN.out] at evc
              subst evc
              have heq : (er == er) = true := by simp
              clear i0 i1
              go_wp2_with fail
              refine (HAl.out wn _ _ Pb Pw _ _ _ _ _ _ rfl rfl HMvb.out HMvw.out Lotvb.out.own Lotvw.out.own).mono ?_
              rintro e wo ⟨rfl, hBo⟩
              have Lotvw := hide_ (Lotvw.out.later hBo)
              have HOvc := hide_ (HOvc.out.later hBo)
              have HBo := hide_ (below_to HBBn.out hBo)
              clear hBo
              go_wp2_with fail
              refine (HAl.out wo _ _ Pc Pw _ _ _ _ _ _ rfl rfl HMvc.out HMvw.out HOvc.out Lotvw.out.own).mono ?_
              rintro e wp ⟨rfl, hBp⟩
              have hlast := HCm.out wp (below_to HBo.out hBp)
              have HBf := hide_ (below_to HB0.out (below_to HBm.out (below_to HBo.out hBp)))
              clear hBp HCm
              go_wp2
              go_ret
              exact ⟨rfl, HBf.out⟩
end Go.Proofs.Ytnpkpmbpapekbaa
