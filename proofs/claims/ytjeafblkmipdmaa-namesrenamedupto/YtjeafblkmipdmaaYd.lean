/- parentsOf. -/
import Derived.Test.YtjeafblkmipdmaaYc
import Derived.Deep.OwnRows
namespace Go.Proofs.Ytjeafblkmipdmaa
open Go.RowKit
set_option linter.unusedVariables false

theorem EInt : Elem Try.prog 32 3 .i64 8 := ⟨Try.underlying32, Try.underlying3, by kernel_rfl⟩
/-- A stack of numbers lies here, its top last. -/
def Stck (w : World) (g cap : Nat) (W : List Int) (ys : List Value) : Prop := Blk w g 3 ys ∧ ys.length = cap ∧ W.length ≤ cap ∧ cap ≤ maxLen ∧ ys.take W.length = cellsL .i64 W
section
variable {w w' : World} {g cap : Nat} {W : List Int} {ys : List Value} {p : Int}
theorem Stck.later (h : Stck w g cap W ys) (hB : Below w.heap.size w w') : Stck w' g cap W ys := ⟨h.1.later hB, h.2⟩
theorem Stck.upd {S : Nat → Prop} (h : Stck w g cap W ys) (hu : Upd S w w') (hs : ¬ S g) : Stck w' g cap W ys := ⟨h.1.upd hu hs, h.2⟩
theorem Stck.cut (h : Stck w g cap (W ++ [p]) ys) : Stck w g cap W ys := by
  obtain ⟨h1, h2, h3, h4, h5⟩ := h
  refine ⟨h1, h2, by simp at h3; omega, h4, ?_⟩
  have := congrArg (List.take W.length) h5
  rw [List.take_take, Nat.min_eq_left (by simp), cellsL_append, List.take_left' (by rw [cellsL_length])] at this
  exact this
theorem Stck.top (h : Stck w g cap (W ++ [p]) ys) : w.cell? ⟨g, W.length, none⟩ = some (.int .i64 p) := by
  obtain ⟨h1, h2, h3, h4, h5⟩ := h
  rw [h1.cell]
  have := congrArg (fun l => l[W.length]?) h5
  simp only [List.getElem?_take, List.length_append, List.length_cons, List.length_nil] at this
  rw [if_pos (by omega), cellsL_append, List.getElem?_append_right (by rw [cellsL_length]; omega), cellsL_length, Nat.sub_self] at this
  exact this
theorem Stck.push (h : Stck w g cap W ys) (x : Int) (hl : W.length ≤ 10000000000000) :
    ∃ gn capn yn wn, (Builtin.append_ #[32, 32] 32 #[.slice (some ⟨g, 0, none⟩) W.length cap, .slice (some ⟨w.heap.size, 0, none⟩) 1 1]).run Try.prog (w.alloc (.cells #[.int .i64 x] 3)) = .ok (.slice (some ⟨gn, 0, none⟩) (W.length + 1) capn) wn ∧
      Stck wn gn capn (W ++ [x]) yn ∧ Upd (fun k => k = g) w wn ∧ (gn = g ∨ w.heap.size ≤ gn) := by
  obtain ⟨h1, h2, h3, h4, h5⟩ := h
  have ho := h1.owns 0 W.length cap (Nat.zero_le _) h2 h3 h4
  rw [h5] at ho
  obtain ⟨gn, capn, wn, r1, o1, u1, c1⟩ := run_push EInt w 32 0 _ W.length W ho x (by unfold maxLen; omega) (by omega) (Nat.zero_le _)
  obtain ⟨g', cap', yn, e1, _, e3, e4, e5, e6, e7⟩ := own_blk o1 (by omega)
  injection e1 with e1 _ e1c
  injection e1 with e1
  injection e1 with e1
  subst e1 e1c
  refine ⟨gn, capn, yn, wn, r1, ⟨e7, e5, by simpa using e3, e4, by rw [List.length_append]; exact e6⟩, u1.mono (fun k _ hk => (own_is hk).symm), ?_⟩
  rcases c1 with c1 | c1
  · exact .inl (own_is c1).symm
  · exact .inr c1
end
theorem fill_set {α : Type} (l : List α) (z : α) (i : Nat) (x : α) (h : l[i]? = some x) : (l.take i ++ List.replicate (l.length - i) z).set i x = l.take (i + 1) ++ List.replicate (l.length - (i + 1)) z := by
  obtain ⟨hi, e⟩ := List.getElem?_eq_some_iff.1 h
  have e1 : (l.take i).length = i := by rw [List.length_take]; omega
  rw [List.set_append_right _ _ (by omega), e1, Nat.sub_self, List.take_succ_eq_append_getElem hi, e, show l.length - i = (l.length - (i + 1)) + 1 by omega, List.replicate_succ, List.set_cons_zero]
  simp
theorem parents_step {N : List Nd} {P : List Int} {i : Nat} {M : List Int} {p : Int} {x : Nd} {r : List Nd} (hd : N.drop i = x :: r) (hr : r = N.drop (i + 1)) (h : par (N.drop i) i (M ++ [p]).reverse = P.drop i) (hk : 0 ≤ x.kids) :
    P[i]? = some p ∧ par (N.drop (i + 1)) (i + 1) (M ++ List.replicate x.kids.toNat (i : Int)).reverse = P.drop (i + 1) := by
  rw [hd, List.reverse_append, List.reverse_singleton, List.singleton_append, par] at h
  have h0 := congrArg (fun l => l[0]?) h
  have h1 := congrArg List.tail h
  simp at h0 h1
  refine ⟨h0.symm, ?_⟩
  rw [← hr, List.reverse_append, List.reverse_replicate]
  exact h1
set_option maxRecDepth 100000 in
set_option maxHeartbeats 8000000 in
theorem parents_any (va : Option Addr) (vc : Nat) (N : List Nd) (w : World) (hN : N.length ≤ 1954687338267) (hr : Hid (NRow w va N)) (hc : Hid (ctN N 1)) :
    Calls Try.prog 36 #[.slice va N.length vc] w fun e w' => ∃ g, e = .returned (.slice (some ⟨g, 0, none⟩) N.length N.length) ∧ w.heap.size ≤ g ∧ Hid (Blk w' g 3 (cellsL .i64 (parP N))) ∧ Hid (Below w.heap.size w w') := by
  obtain ⟨P, hP⟩ : ∃ P, parP N = P := ⟨_, rfl⟩
  have HPl : Hid (P.length = N.length) := hide_ (by rw [← hP]; exact parP_len N)
  have HP0 : Hid (par (N.drop 0) 0 ([-1] : List Int).reverse = P.drop 0) := hide_ hP
  rw [hP]
  clear hP
  have hmk := run_make_row' (P := Try.prog) 32 3 (.int .i64 0) 8 Try.underlying32 (by kernel_rfl) rfl .i64 .i64 N.length (by omega) (by omega)
  obtain ⟨w1, hw1⟩ : ∃ w1, w1 = w.alloc (.cells (madeCells #[.int .i64 0] N.length) 3) := ⟨_, rfl⟩
  obtain ⟨w2, hw2⟩ : ∃ w2, w2 = w1.alloc (.cells #[.int .i64 (-1)] 3) := ⟨_, rfl⟩
  have HB1 : Hid (Below w.heap.size w w1) := by rw [hw1]; exact (Below.refl _ _).alloc (Nat.le_refl _) _
  have hsz1 : w1.heap.size = w.heap.size + 1 := by rw [hw1]; simp
  have HB2 : Hid (Below w.heap.size w w2) := by rw [hw2]; exact HB1.out.alloc (by omega) _
  have HK2 : Hid (Blk w2 w.heap.size 3 (cellsL .i64 (P.take 0 ++ List.replicate (P.length - 0) 0))) := by
    have h := Blk.newA w (madeCells #[.int .i64 0] N.length) 3
    rw [toList_madeCells_one, ← hw1] at h
    rw [hw2]
    refine Blk.alloc ?_ _
    rw [cellsL, List.take_zero, List.nil_append, List.map_replicate, HPl.out]
    exact h
  have HS2 : Hid (Stck w2 w1.heap.size 1 [-1] [.int .i64 (-1)]) := by
    rw [hw2]
    exact ⟨Blk.newA w1 #[.int .i64 (-1)] 3, rfl, Nat.le_refl _, by decide, rfl⟩
  have HZ1 := hide_ hsz1
  clear hsz1
  go_enter Try.func36, Try.ntmps36
  go_upto_region 2 with fail
  rw [← hw1]
  clear hw1
  go_upto_region 3 with fail
  rw [← hw2]
  clear hw2 hmk
  go_wp2_with fail
  go_loopw [4, 14] (fun x4 x14 wr => ∃ (i : Nat) (W : List Int) (g cap : Nat) (ys : List Value), i ≤ N.length ∧ x4 = .slice (some ⟨g, 0, none⟩) W.length cap ∧ x14 = .int .i64 (i : Int) ∧ w.heap.size < g ∧ Hid (Stck wr g cap W ys) ∧ Hid (ctN (N.drop i) W.length) ∧ Hid (par (N.drop i) i W.reverse = P.drop i) ∧ Hid (Blk wr w.heap.size 3 (cellsL .i64 (P.take i ++ List.replicate (P.length - i) 0))) ∧ Hid (Below w.heap.size w wr)) (fun _ x14 _ => N.length - (intOf x14).toNat)
  case atStart => exact ⟨0, [-1], w1.heap.size, 1, _, Nat.zero_le _, rfl, rfl, by rw [HZ1.out]; omega, HS2, hc, HP0, HK2, HB2⟩
  case round =>
    obtain ⟨i, W, g, cap, ys, hi, rfl, rfl, hg, HS, HC, HP, HK, HB⟩ := hrel
    generalize wr = wq at *
    clear HS2 HB1 HB2 HK2 HP0 HZ1 hc
    by_cases hlt : i < N.length
    · have hlt' : (i : Int) < N.length := by omega
      obtain ⟨b, o, rfl, hb, hcl⟩ := (hr.out.later HB.out).open (by omega)
      have hx : N[i]? = some (N[i]'hlt) := List.getElem?_eq_getElem hlt
      have hcx := hcl i _ hx
      have hdr : N.drop i = N[i]'hlt :: N.drop (i + 1) := List.drop_eq_getElem_cons hlt
      generalize N[i]'hlt = x at *
      have HD := hide_ hdr
      rw [hdr] at HC
      have i0 := hcx 0 (by decide); have i1 := hcx 1 (by decide); have i2 := hcx 2 (by decide); have i3 := hcx 3 (by decide); have i4 := hcx 4 (by decide); have i5 := hcx 5 (by decide); have i6 := hcx 6 (by decide)
      simp [ndc] at i0 i1 i2 i3 i4 i5 i6
      clear hcl hx hcx hdr
      obtain ⟨hW0, hk0, hC1⟩ := HC.out
      have HC1 := hide_ hC1
      clear hC1
      rcases List.eq_nil_or_concat W with rfl | ⟨M, p, hM⟩
      · simp at hW0
      rw [List.concat_eq_append] at hM
      subst hM
      obtain ⟨hPi, hP1⟩ := parents_step HD.out rfl HP.out hk0
      have HPi := hide_ hPi
      have HP1 := hide_ hP1
      have HL := hide_ (ctN_le _ _ HC1.out)
      clear hPi hP1 HP HC
      have kx := Blk.newA wq #[.int .i64 x.k, .int .i64 x.n, .string x.name, .string x.label, .int .i64 x.tag, .int .i64 x.kids, .int .i64 x.a] 38
      have hBx : Below wq.heap.size wq (wq.alloc (.cells #[.int .i64 x.k, .int .i64 x.n, .string x.name, .string x.label, .int .i64 x.tag, .int .i64 x.kids, .int .i64 x.a] 38)) := (Below.refl _ _).alloc (Nat.le_refl _) _
      obtain ⟨wx, hwx⟩ : ∃ wx, wx = wq.alloc (.cells #[.int .i64 x.k, .int .i64 x.n, .string x.name, .string x.label, .int .i64 x.tag, .int .i64 x.kids, .int .i64 x.a] 38) := ⟨_, rfl⟩
      rw [← hwx] at kx hBx
      have HSx := hide_ (HS.out.later hBx)
      have HBx := hide_ (below_to HB.out hBx)
      have HKx := hide_ (HK.out.later hBx)
      have hgq : g < wq.heap.size := HS.out.1.lt
      have hwq : w.heap.size < wq.heap.size := HK.out.lt
      have hlen : (M ++ [p]).length = M.length + 1 := by simp
      have hM3 : M.length ≤ 10000000000000 := by
        have h1 := HL.out
        rw [hlen] at h1
        have h2 : (N.drop (i + 1)).length ≤ N.length := by simp
        omega
      rw [hlen] at HC1 HL ⊢
      have hkb : x.kids ≤ 10000000000000 := by
        have h1 := HL.out
        have h2 : (N.drop (i + 1)).length ≤ N.length := by simp
        omega
      clear hlen
      have KX := hide_ kx
      clear kx hBx HS HK hW0
      go_upto_region 6 with fail
      rw [← hwx]
      clear hwx i0 i1 i2 i3 i4 i5 i6
      have ht := HSx.out.top
      have hj4 : (M.length : Int) < (M.length : Int) + 1 := by omega
      have f3 := HKx.out.frozen i
      have HKy : Hid (Blk (wx.setCell ⟨w.heap.size, i, none⟩ (.int .i64 p)) w.heap.size 3 (cellsL .i64 (P.take (i + 1) ++ List.replicate (P.length - (i + 1)) 0))) := hide_ (by
        have h := HKx.out.set i (.int .i64 p)
        rw [cellsL_set, fill_set _ _ _ _ HPi.out] at h
        exact h)
      have HSy : Hid (Stck (wx.setCell ⟨w.heap.size, i, none⟩ (.int .i64 p)) g cap M ys) := hide_ ⟨HSx.out.1.other _ _ (by show g ≠ w.heap.size; omega), HSx.out.cut.2⟩
      have KY : Hid (Blk (wx.setCell ⟨w.heap.size, i, none⟩ (.int .i64 p)) wq.heap.size 38 (ndc x)) := hide_ (KX.out.other _ _ (by show wq.heap.size ≠ w.heap.size; omega))
      have HBy : Hid (Below w.heap.size w (wx.setCell ⟨w.heap.size, i, none⟩ (.int .i64 p))) := hide_ (HBx.out.setCell (Nat.le_refl _) _)
      obtain ⟨z, cP⟩ : ∃ z : Int, wx.cell? ⟨w.heap.size, i, none⟩ = some (.int .i64 z) := ⟨_, (HKx.out.cell i).trans (cellsL_at _ _ i (by have := HPl.out; simp; omega))⟩
      obtain ⟨wy, hwy⟩ : ∃ wy, wy = wx.setCell ⟨w.heap.size, i, none⟩ (.int .i64 p) := ⟨_, rfl⟩
      rw [← hwy] at HKy HSy KY HBy
      go_upto_region 8 with fail
      rw [← hwy]
      clear hwy HKx HSx HBx KX f3 cP ht HPi
      have hcap : (M.length : Int) ≤ cap := by have := HSy.out.2.2.1; omega
      have c5 := KY.out.cell 5
      simp [ndc] at c5
      go_wp2_with fail
      go_loopw [4, 34] (fun x4 x34 wr => ∃ (j : Nat) (V : List Int) (gn cn : Nat) (yn : List Value), (j : Int) ≤ x.kids ∧ x4 = .slice (some ⟨gn, 0, none⟩) V.length cn ∧ x34 = .int .i64 (j : Int) ∧ w.heap.size < gn ∧ Hid (V = M ++ List.replicate j (i : Int)) ∧ Hid (Stck wr gn cn V yn) ∧ Hid (Blk wr w.heap.size 3 (cellsL .i64 (P.take (i + 1) ++ List.replicate (P.length - (i + 1)) 0))) ∧ Hid (Below w.heap.size w wr)) (fun _ x34 _ => x.kids.toNat - (intOf x34).toNat)
      case atStart => exact ⟨0, M, g, cap, ys, hk0, rfl, rfl, hg, hide_ (by simp), HSy, HKy, HBy⟩
      case round =>
        obtain ⟨j, V, gn, cn, yn, hj, rfl, rfl, hgn, HV, HSn, HKn, HBn⟩ := hrel
        generalize wr = wz at *
        clear HSy HKy HBy KY c5
        by_cases hjl : (j : Int) < x.kids
        · have hVl : V.length ≤ 10000000000000 := by
            have h1 := HL.out
            have h2 : (N.drop (i + 1)).length ≤ N.length := by simp
            rw [HV.out, List.length_append, List.length_replicate]
            omega
          obtain ⟨ga, ca, ya, wa, r1, s1, u1, c1⟩ := HSn.out.push (i : Int) hVl
          have HR1 := hide_ r1
          have HSa := hide_ s1
          have HVa : Hid (V ++ [(i : Int)] = M ++ List.replicate (j + 1) (i : Int)) := hide_ (by rw [HV.out, List.append_assoc, List.replicate_succ'])
          have HKa := hide_ (HKn.out.upd u1 (by omega))
          have HBa := hide_ (HBn.out.trans (u1.below w.heap.size HBn.out.size (fun k hk => by omega)))
          have hga : w.heap.size < ga := by
            have := HKn.out.lt
            rcases c1 with h | h <;> omega
          have hle : V.length + 1 = (V ++ [(i : Int)]).length := by simp
          rw [hle] at HR1
          clear r1 s1 u1 c1 hle HV HSn HKn HBn
          obtain ⟨VV, hVV⟩ : ∃ VV, V ++ [(i : Int)] = VV := ⟨_, rfl⟩
          rw [hVV] at HR1 HSa HVa
          clear hVV
          go_wp2_with (first
            | (at_builtin; refine wpList_append_run rfl (.tmp 36) (.tmp 38) 32 32 rfl rfl rfl HR1.out ?_; clear HR1))
          go_roundw
          case rel => exact ⟨j + 1, VV, ga, ca, ya, by omega, rfl, by go_num, hga, HVa, HSa, HKa, HBa⟩
          case measure => simp [intOf]; omega
        · have hje : (j : Int) = x.kids := by omega
          have hjt : x.kids.toNat = j := by omega
          go_wp2_with fail
          go_roundw
          case rel => exact ⟨i + 1, V, gn, cn, yn, by omega, rfl, by go_num, hgn, HSn, hide_ (by have h := HC1.out; rw [HV.out, List.length_append, List.length_replicate, ← hjt]; simpa using h), hide_ (by have h := HP1.out; rw [hjt] at h; rw [HV.out]; exact h), HKn, HBn⟩
          case measure => simp [intOf]; omega
    · obtain rfl : i = N.length := by omega
      go_wp2
      go_ret
      refine ⟨w.heap.size, rfl, Nat.le_refl _, hide_ ?_, HB⟩
      have h := HK.out
      rw [List.take_of_length_le (by rw [HPl.out]; exact Nat.le_refl _), HPl.out, Nat.sub_self] at h
      simpa using h
end Go.Proofs.Ytjeafblkmipdmaa
