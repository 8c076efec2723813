/- The law's apart: two lists of the call's own, written over and grown. -/
import Derived.Test.YtomfidjmbjpceaaDoorOo
import Derived.Test.YtomfidjmbjpceaaDoorIo
namespace Go.Proofs.YtomfidjmbjpceaaDoor
open Go.RowKit
set_option linter.unusedVariables false

theorem iown_at {w : World} {l : List Int} {B g n cap i : Nat} (h : IOwn w B (.slice (some ⟨g, 0, none⟩) n cap) l) (hi : i < l.length) : w.cell? ⟨g, i, none⟩ = some (.int .i64 (l.getD i 0)) ∧ w.frozen? ⟨g, i, none⟩ = false := by
  obtain ⟨a, c, e, -, -, -, -, h2⟩ := own_open h rfl
  obtain ⟨g', e2, -, -, hc, hf⟩ := h2 (by omega)
  injection e with e1 _ _
  rw [e2] at e1
  injection e1 with e1
  injection e1 with e1 _ _
  subst e1
  exact ⟨hc i hi, hf i⟩
theorem iown_addr {w : World} {l : List Int} {B n cap : Nat} {a : Option Addr} (h : IOwn w B (.slice a n cap) l) (hl : 0 < l.length) : ∃ g, a = some ⟨g, 0, none⟩ := by
  obtain ⟨g, cap', ys, e, _⟩ := ownS_blk h hl
  injection e with e _ _
  exact ⟨g, e⟩
theorem IOwn.rowS {w : World} {l : List Int} {B n c : Nat} {a : Option Addr} (h : IOwn w B (.slice a n c) l) : Row .i64 w a l := by
  obtain ⟨a', c', e, h1, _⟩ := h.row
  injection e with e _ _
  rw [e]
  exact h1
theorem take_set_s (l : List Int) (k : Nat) (s : Int) (hk : k < l.length) : (l.set k s).take (k + 1) = l.take k ++ [s] := by
  have h1 : k < (l.set k s).length := by rw [List.length_set]; exact hk
  rw [List.take_succ_eq_append_getElem h1, List.getElem_set_self, List.take_set_of_le (Nat.le_refl k)]
theorem rep_last (n : Nat) (x : Int) (i : Nat) (h : i < n + 1) : (List.replicate n x ++ [x]).getD i 0 = x := by
  have e : List.replicate n x ++ [x] = List.replicate (n + 1) x := by rw [List.replicate_succ']
  rw [e]
  simp [List.getD, h]
set_option maxRecDepth 100000 in
set_option maxHeartbeats 8000000 in
theorem apart_yes (va vb : Value) (n B : Nat) (la lb : List Int) (w : World) (hla : Hid (la.length = n)) (hlb : Hid (lb.length = n)) (hn : n ≤ 100000000) (hB : B ≤ w.heap.size) (ha : Hid (IOwn w B va la)) (hb : Hid (IOwn w B vb lb)) (hd : Hid (∀ k, va.ownBlock = some k → vb.ownBlock = some k → False)) :
    Calls Tryd.prog 20 #[va, vb] w fun e w' => e = .returned (.bool true) ∧ Hid (Upd (fun k => va.ownBlock = some k ∨ vb.ownBlock = some k) w w') := by
  obtain ⟨aA, cA, eA⟩ := ha.out.slice
  obtain ⟨aB, cB, eB, hrB, hnB, -⟩ := hb.out.row
  rw [hla.out] at eA
  rw [hlb.out] at eB
  subst eA eB
  obtain ⟨vw, w1, hr1, ho1, hg1⟩ := run_copy elI w 26 w.heap.size aB n cB lb hlb.out hrB hnB (by unfold maxLen; omega) (by omega) (Nat.le_refl _)
  have hb1 : Below w.heap.size w w1 := ((Upd.refl (fun _ => False) w).grown hg1 (fun k hk => by cases hk)).below _ (Nat.le_refl _) (fun k hk => hk.elim)
  have HR1 := hide_ hr1
  have HW1 : Hid (IOwn w1 w.heap.size vw lb) := hide_ (by unfold IOwn; rw [hlb.out]; exact ho1)
  have HB1 := hide_ hb1
  have HA1 := hide_ (ha.out.later hb1)
  have HBl1 := hide_ (hb.out.later hb1)
  have hz1 : w.heap.size ≤ w1.heap.size := hb1.size
  obtain ⟨aW, cW, eW, -⟩ := HW1.out.row
  rw [hlb.out] at eW
  subst eW
  have HBw : Hid (∀ k, (Value.slice aB n cB).ownBlock = some k → k < w.heap.size) := hide_ (fun k hk => (hb.out.lies hk).2)
  have HAw : Hid (∀ k, (Value.slice aA n cA).ownBlock = some k → k < w.heap.size) := hide_ (fun k hk => (ha.out.lies hk).2)
  clear hr1 ho1 hg1 hb1 hrB hnB
  go_enter Tryd.func20, Tryd.ntmps20
  go_wp2_with (first | (at_builtin; refine wpList_append_run rfl (.const (.slice none 0 0)) (.tmp 11) 26 26 rfl rfl rfl HR1.out ?_; clear HR1) | fail)
  go_loopw [6] (fun x6 wr => ∃ (i : Nat) (m : List Int), i ≤ n ∧ x6 = .int .i64 (i : Int) ∧ Hid (m.length = n) ∧ Hid (m.take i = List.replicate i (-7)) ∧ Hid (IOwn wr B (.slice aA n cA) m) ∧ Hid (Upd (fun k => (Value.slice aA n cA).ownBlock = some k) w1 wr)) (fun x6 _ => n - (intOf x6).toNat)
  case atStart => exact ⟨0, la, Nat.zero_le _, rfl, hla, hide_ (by simp), HA1, hide_ (Upd.refl _ _)⟩
  case round =>
    obtain ⟨i, m, hi, rfl, HM, HT, HO, HU⟩ := hrel
    generalize wr = wq at *
    by_cases hlt : i < n
    · have hlt' : (i : Int) < n := by omega
      have him : i < m.length := by rw [HM.out]; exact hlt
      obtain ⟨gA, hgA⟩ := iown_addr HO.out (by omega)
      subst hgA
      obtain ⟨x0, xf⟩ := iown_at HO.out him
      have HS := hide_ (HO.out.set him (-7))
      have HT2 : Hid ((m.set i (-7)).take (i + 1) = List.replicate (i + 1) (-7)) := hide_ (by rw [take_set_s _ _ _ him, HT.out, List.replicate_succ'])
      have HM2 : Hid ((m.set i (-7)).length = n) := hide_ (by rw [List.length_set]; exact HM.out)
      have HU2 := hide_ (HU.out.set ⟨gA, i, none⟩ (.int .i64 (-7)) (.inl rfl))
      generalize m.getD i 0 = q at *
      clear him
      go_wp2_with fail
      go_roundw
      case rel => exact ⟨i + 1, _, by omega, by go_num, HM2, HT2, HS, HU2⟩
      case measure => simp [intOf]; omega
    · obtain rfl : i = n := by omega
      have hmr : m = List.replicate i (-7) := by have := HT.out; rw [← HM.out, List.take_length] at this; rw [HM.out] at this; exact this
      subst hmr
      have HBl2 := hide_ (HBl1.out.upd HU.out (fun k hk e => hd.out k e hk))
      have HW2 := hide_ (HW1.out.upd HU.out (fun k hk e => by have := (HW1.out.lies hk).1; have := HAw.out k e; omega))
      have hzq : w1.heap.size ≤ wq.heap.size := HU.out.size
      obtain ⟨gC, cC, w2, hrc, hoc, huc, hgc⟩ := HO.out.push (-7) (by simp; omega) (by omega)
      rw [List.length_replicate] at hrc hoc
      have HRc := hide_ hrc
      have HC := hide_ hoc
      have HUc := hide_ (HU.out.to huc)
      have HBl3 := hide_ (HBl2.out.upd huc (fun k hk e => hd.out k e hk))
      have HW3 := hide_ (HW2.out.upd huc (fun k hk e => by have := (HW1.out.lies hk).1; have := HAw.out k e; omega))
      have HCn : Hid (¬ (Value.slice aB i cB).ownBlock = some gC) := hide_ (fun e => by
        rcases hgc with h | h
        · exact hd.out gC h e
        · have := HBw.out gC e; omega)
      have hz2 : wq.heap.size ≤ w2.heap.size := huc.size
      have HSm := hide_ (sameInts_yes aB aW cB cW i lb w2 hlb (by omega) (hide_ HBl3.out.rowS) (hide_ HW3.out.rowS))
      clear hrc hoc huc hgc HO HU HT HM HBl2 HW2
      go_wp2_with (first | (at_builtin; refine wpList_append_run rfl (.tmp 22) (.tmp 23) 26 26 rfl rfl rfl HRc.out ?_; clear HRc) | fail)
      refine HSm.out.mono ?_
      rintro e w3 ⟨rfl, hB3⟩
      have HC3 := hide_ (HC.out.later hB3)
      have HBl4 := hide_ (HBl3.out.later hB3)
      have HU3 := hide_ (HUc.out.then hB3)
      have hz3 : w2.heap.size ≤ w3.heap.size := hB3.size
      clear hB3 HSm HC HBl3 HW3 HUc
      go_wp2_with fail
      go_loopw [8] (fun x8 wr => ∃ (j : Nat) (m : List Int), j ≤ i ∧ x8 = .int .i64 (j : Int) ∧ Hid (m.length = i) ∧ Hid (m.take j = List.replicate j (-8)) ∧ Hid (IOwn wr B (.slice aB i cB) m) ∧ Hid (Upd (fun k => (Value.slice aB i cB).ownBlock = some k) w3 wr)) (fun x8 _ => i - (intOf x8).toNat)
      case atStart => exact ⟨0, lb, Nat.zero_le _, rfl, hlb, hide_ (by simp), HBl4, hide_ (Upd.refl _ _)⟩
      case round =>
        obtain ⟨j, m, hj, rfl, HM, HT, HO, HU⟩ := hrel
        generalize wr = wq2 at *
        by_cases hltj : j < i
        · have hltj' : (j : Int) < i := by omega
          have him : j < m.length := by rw [HM.out]; exact hltj
          obtain ⟨gB, hgB⟩ := iown_addr HO.out (by omega)
          subst hgB
          obtain ⟨x0, xf⟩ := iown_at HO.out him
          have HS := hide_ (HO.out.set him (-8))
          have HT2 : Hid ((m.set j (-8)).take (j + 1) = List.replicate (j + 1) (-8)) := hide_ (by rw [take_set_s _ _ _ him, HT.out, List.replicate_succ'])
          have HM2 : Hid ((m.set j (-8)).length = i) := hide_ (by rw [List.length_set]; exact HM.out)
          have HU2 := hide_ (HU.out.set ⟨gB, j, none⟩ (.int .i64 (-8)) (.inl rfl))
          generalize m.getD j 0 = q at *
          clear him
          go_wp2_with fail
          go_roundw
          case rel => exact ⟨j + 1, _, by omega, by go_num, HM2, HT2, HS, HU2⟩
          case measure => simp [intOf]; omega
        · obtain rfl : j = i := by omega
          have hmr : m = List.replicate j (-8) := by have := HT.out; rw [← HM.out, List.take_length] at this; rw [HM.out] at this; exact this
          subst hmr
          have HC4 := hide_ (HC3.out.upd HU.out (fun k hk e => HCn.out (by rw [← own_is hk] at e; exact e)))
          have hzq2 : w3.heap.size ≤ wq2.heap.size := HU.out.size
          obtain ⟨gD, cD, w4, hrd, hod, hud, hgd⟩ := HO.out.push (-8) (by simp; omega) (by omega)
          rw [List.length_replicate] at hrd hod
          have HRd := hide_ hrd
          have HD := hide_ hod
          have HC5 := hide_ (HC4.out.upd hud (fun k hk e => HCn.out (by rw [← own_is hk] at e; exact e)))
          have HUf : Hid (Upd (fun k => (Value.slice aA j cA).ownBlock = some k ∨ (Value.slice aB j cB).ownBlock = some k) w w4) := hide_ (((Upd.of_below HB1.out).to (HU3.out.mono (T := fun k => (Value.slice aA j cA).ownBlock = some k ∨ (Value.slice aB j cB).ownBlock = some k) (fun _ _ h => .inl h))).to ((HU.out.to hud).mono (fun _ _ h => .inr h)))
          clear hrd hod hud hgd HO HU HT HM HC4
          go_wp2_with (first | (at_builtin; refine wpList_append_run rfl (.tmp 38) (.tmp 39) 26 26 rfl rfl rfl HRd.out ?_; clear HRd) | fail)
          go_loopw [10] (fun x10 wr => ∃ (k : Nat), k ≤ j + 1 ∧ x10 = .int .i64 (k : Int) ∧ w4 = wr) (fun x10 _ => j + 1 - (intOf x10).toNat)
          case atStart => exact ⟨0, Nat.zero_le _, rfl, rfl⟩
          case round =>
            obtain ⟨k, hk, rfl, rfl⟩ := hrel
            by_cases hltk : k < j + 1
            · have hltk' : (k : Int) < (j : Int) + 1 := by omega
              have c1 := (iown_at HC5.out (i := k) (by simp; omega)).1
              have d1 := (iown_at HD.out (i := k) (by simp; omega)).1
              rw [rep_last _ _ _ hltk] at c1 d1
              go_wp2_with fail
              go_roundw
              case rel => exact ⟨k + 1, by omega, by go_num, by trivial⟩
              case measure => simp [intOf]; omega
            · obtain rfl : k = j + 1 := by omega
              go_wp2
              go_ret
              exact ⟨rfl, HUf⟩
end Go.Proofs.YtomfidjmbjpceaaDoor
