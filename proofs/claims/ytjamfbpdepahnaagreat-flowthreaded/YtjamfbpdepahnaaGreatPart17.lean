import Derived.Test.YtjamfbpdepahnaaGreatPart14
import Derived.Test.YtjamfbpdepahnaaGreatPart15
namespace Go.Proofs.YtjamfbpdepahnaaGreat
open Go.RowKit
set_option linter.unusedVariables false
set_option linter.unusedSimpArgs false
theorem makeZ (n : Nat) (hn : n ≤ 1000000000) (w : World) : (Instr.makeSlice 23 (.int .i64 (n : Int)) (.int .i64 (n : Int))).run Tryz.prog w = .ok (.slice (some ⟨w.heap.size, 0, none⟩) n n) (w.alloc (.cells (madeCells #[.int .i64 0] n) 3)) := by
  obtain ⟨i0, hi, hz0, hz1, hz2⟩ := info_parts elI.info
  have hb : (i0.bytes : Int) * (n : Int) ≤ 281474976710656 := by rw [hz2]; omega
  have hr := run_make (P := Tryz.prog) w 23 3 i0 (.int .i64 0) Tryz.underlying23 hi hz0 .i64 .i64 n n (by omega) (Int.le_refl _) hb (by omega)
  rw [Int.toNat_natCast, hz1, Nat.mul_one] at hr
  exact hr
theorem madeZ0 (n : Nat) : (madeCells #[.int .i64 0] n).toList = cellsL .i64 (List.replicate n 0) := by
  apply List.ext_getElem?
  intro i
  by_cases h : i < n <;> simp [madeCells, cellsL, Nat.mod_one, h]
theorem ownZ (w : World) (n : Nat) (hn : n ≤ 1000000000) : IOwn (w.alloc (.cells (madeCells #[.int .i64 0] n) 3)) w.heap.size (.slice (some ⟨w.heap.size, 0, none⟩) n n) (List.replicate n 0) := by
  have h := ownS_of_blk (c := 1) (n := n) (cap := n) (Blk.newA w (madeCells #[.int .i64 0] n) 3) (Nat.le_refl _) (by simp [size_madeCells]) (Nat.le_refl _) (by unfold maxLen; omega)
  unfold IOwn
  rw [List.length_replicate]
  rw [madeZ0] at h
  rw [show (cellsL .i64 (List.replicate n 0)).take (n * 1) = cellsL .i64 (List.replicate n 0) by rw [List.take_of_length_le]; simp [cellsL]] at h
  exact h
def armM (A : List In) (j : Nat) : List Int := (A.take j).map (·.b) ++ List.replicate (A.length - j) 0
theorem armM_len (A : List In) (j : Nat) (h : j ≤ A.length) : (armM A j).length = A.length := by simp [armM]; omega
theorem armM_0 (A : List In) : armM A 0 = List.replicate A.length 0 := by simp [armM]
theorem armM_all (A : List In) : armM A A.length = A.map (·.b) := by simp [armM]
theorem armM_set (A : List In) (j : Nat) (x : In) (hx : A[j]? = some x) : (armM A j).set j x.b = armM A (j + 1) := by
  obtain ⟨hj, e⟩ := List.getElem?_eq_some_iff.1 hx
  unfold armM
  have e1 : A.length - j = (A.length - (j + 1)) + 1 := by omega
  rw [e1, List.replicate_succ, List.set_append_right _ _ (by simp; omega)]
  simp only [List.length_map, List.length_take]
  rw [show j - min j A.length = 0 by omega, List.set_cons_zero, List.take_succ_eq_append_getElem hj]
  simp [e]
set_option maxRecDepth 100000 in
set_option maxHeartbeats 4000000 in
theorem armT_any (a : Option Addr) (n c : Nat) (A : List In) (w : World) (hn : A.length = n) (hl : n ≤ 1000) (hr : Hid (IRow w a A)) : Calls Tryz.prog 85 #[.slice a n c] w fun e w' => ∃ v, e = .returned v ∧ Hid (IOwn w' w.heap.size v (A.map (·.b))) ∧ Hid (Below w.heap.size w w') := by
  obtain ⟨w1, hmk, ho1, hB1⟩ : ∃ w1, (Instr.makeSlice 23 (.int .i64 (n : Int)) (.int .i64 (n : Int))).run Tryz.prog w = .ok (.slice (some ⟨w.heap.size, 0, none⟩) n n) w1 ∧ IOwn w1 w.heap.size (.slice (some ⟨w.heap.size, 0, none⟩) n n) (List.replicate n 0) ∧ Below w.heap.size w w1 := ⟨_, makeZ n (by omega) w, ownZ w n (by omega), below1 _ _⟩
  have HO1 := hide_ ho1
  have HB1 := hide_ hB1
  have Hn := hide_ hn
  clear ho1 hB1 hn
  go_enter Tryz.func85, Tryz.ntmps85
  go_wp2_with fail
  clear hmk
  go_loopw [11] (fun x11 wr => ∃ (j : Nat), j ≤ n ∧ x11 = .int .i64 (j : Int) ∧ Hid (IOwn wr w.heap.size (.slice (some ⟨w.heap.size, 0, none⟩) n n) (armM A j)) ∧ Hid (Below w.heap.size w wr)) (fun x11 _ => n - (intOf x11).toNat)
  case atStart => exact ⟨0, by omega, rfl, hide_ (by rw [armM_0, Hn.out]; exact HO1.out), HB1⟩
  case round =>
    clear HO1 HB1
    obtain ⟨j, hj, rfl, HO, HB⟩ := hrel
    generalize wr = wq at *
    by_cases hlt : j < n
    · have hlt' : (j : Int) < (n : Int) := by omega
      have hjA : j < A.length := by rw [Hn.out]; exact hlt
      obtain ⟨x, hx⟩ : ∃ x, A[j]? = some x := ⟨_, List.getElem?_eq_getElem hjA⟩
      obtain ⟨b, off, rfl, hb, hc⟩ := (hr.out.later HB.out).open (by omega)
      have hcx := hc j x hx
      have i0 := hcx 0 (by decide); have i1 := hcx 1 (by decide); have i2 := hcx 2 (by decide); have i3 := hcx 3 (by decide)
      simp [inc] at i0 i1 i2 i3
      obtain ⟨w2, hw2⟩ : ∃ wx, wq.alloc (.cells #[.int .i64 x.op, .int .i64 x.a, .int .i64 x.b, .int .i64 x.c] 37) = wx := ⟨_, rfl⟩
      have hB2 : Below wq.heap.size wq w2 := by rw [← hw2]; exact below1 _ _
      have K2 : Blk w2 wq.heap.size 37 (inc x) := by rw [← hw2]; exact Blk.newA wq _ _
      have hO2 := HO.out.later hB2
      have hlm := armM_len A j (by omega)
      have cc := hO2.cellH (i := j) (by rw [hlm]; omega)
      obtain ⟨cw, fw⟩ := cc
      have k2 := K2.cell 2
      simp [inc] at k2
      have HO3 : Hid (IOwn (w2.setCell ⟨w.heap.size, j, none⟩ (.int .i64 x.b)) w.heap.size (.slice (some ⟨w.heap.size, 0, none⟩) n n) (armM A (j + 1))) := hide_ (by
        have := hO2.set (i := j) (by rw [hlm]; omega) x.b
        rw [armM_set A j x hx] at this
        exact this)
      have HB3 : Hid (Below w.heap.size w (w2.setCell ⟨w.heap.size, j, none⟩ (.int .i64 x.b))) := hide_ (below_set (below_to HB.out hB2) _ _ _ (Nat.le_refl _))
      clear hc hcx hB2 K2 hO2 hlm hx HO HB
      go_wp2_with fail
      go_roundw
      case rel => exact ⟨j + 1, by omega, by go_num, HO3, HB3⟩
      case measure => simp [intOf]; omega
    · have hlt' : ¬ ((j : Int) < (n : Int)) := by omega
      have e0 : j = A.length := by rw [Hn.out]; omega
      have HO2 : Hid (IOwn wq w.heap.size (.slice (some ⟨w.heap.size, 0, none⟩) n n) (A.map (·.b))) := hide_ (by rw [← armM_all, ← e0]; exact HO.out)
      clear e0 HO
      go_wp2_with fail
      go_ret
      exact ⟨_, rfl, HO2, HB⟩
def CoIs (r x : Int) (l : List Int) : Prop := decide (0 ≤ r) = decide (x ∈ l)
set_option maxRecDepth 100000 in
set_option maxHeartbeats 4000000 in
theorem indexI_any (a : Option Addr) (n c : Nat) (l : List Int) (x : Int) (w : World) (hln : l.length = n) (hl : l.length ≤ 9223372036854775806) (hr : Hid (Row .i64 w a l)) :
    Calls Tryz.prog 83 #[.slice a n c, .int .i64 x] w fun e w' => (∃ r : Int, e = .returned (.int .i64 r) ∧ Hid (CoIs r x l)) ∧ w = w' := by
  subst hln
  go_enter Tryz.func83, Tryz.ntmps83
  go_wp2_with fail
  go_loop [8] (fun x8 => ∃ j : Nat, j ≤ l.length ∧ x8 = .int .i64 (j : Int) ∧ Hid (∀ (i : Nat) (q : Int), i < j → l[i]? = some q → q ≠ x)) (fun x8 => l.length - (intOf x8).toNat)
  case atStart => exact ⟨0, Nat.zero_le _, rfl, hide_ (fun i q hi => by omega)⟩
  case round =>
    obtain ⟨j, hj, rfl, HA⟩ := hrel
    by_cases hlt : j < l.length
    · have hlt' : (j : Int) < l.length := by omega
      obtain ⟨b, off, rfl, hb, hc⟩ := hr.out.open (by omega)
      have hcx := hc j hlt
      obtain ⟨q, hx⟩ : ∃ q, l.getD j 0 = q := ⟨_, rfl⟩
      rw [hx] at hcx
      have HX : Hid (l[j]? = some q) := hide_ (by rw [List.getElem?_eq_getElem hlt, ← hx]; simp [List.getD, hlt])
      clear hc hx
      by_cases hm : x = q
      · have HL : Hid (CoIs (j : Int) x l) := hide_ (by
          unfold CoIs
          rw [decide_eq_true (by omega)]
          exact (decide_eq_true (hm ▸ List.mem_of_getElem? HX.out)).symm)
        have f : (x == q) = true := by simpa using hm
        clear hm
        go_wp2
        go_ret
        exact ⟨⟨j, rfl, HL⟩, rfl⟩
      · have HA2 : Hid (∀ (i : Nat) (q : Int), i < j + 1 → l[i]? = some q → q ≠ x) := hide_ (fun i p hi hp => by
          rcases Nat.lt_or_ge i j with h | h
          · exact HA.out i p h hp
          · obtain rfl : i = j := by omega
            rw [HX.out] at hp
            injection hp with hp
            subst hp
            exact fun e => hm e.symm)
        have f : (x == q) = false := by simpa using hm
        clear hm
        go_wp2
        go_round
        case rel => exact ⟨j + 1, by omega, by go_num, HA2⟩
        case measure => simp [intOf]; omega
    · obtain rfl : j = l.length := by omega
      have HL : Hid (CoIs (-1) x l) := hide_ (by
        unfold CoIs
        rw [decide_eq_false (by omega)]
        symm
        refine decide_eq_false (fun hq => ?_)
        obtain ⟨i, hi, e⟩ := List.mem_iff_getElem.1 hq
        exact HA.out i x hi (by rw [List.getElem?_eq_getElem hi, e]) rfl)
      go_wp2
      go_ret
      exact ⟨⟨-1, rfl, HL⟩, rfl⟩
set_option maxRecDepth 100000 in
set_option maxHeartbeats 4000000 in
theorem containsI_any (a : Option Addr) (n c : Nat) (l : List Int) (x : Int) (w : World) (hln : l.length = n) (hl : l.length ≤ 9223372036854775806) (hr : Hid (Row .i64 w a l)) :
    Calls Tryz.prog 60 #[.slice a n c, .int .i64 x] w fun e w' => e = .returned (.bool (decide (x ∈ l))) ∧ w = w' := by
  have HC := hide_ (indexI_any a n c l x w hln hl hr)
  go_enter Tryz.func60, Tryz.ntmps60
  go_wp2_with fail
  refine HC.out.mono ?_
  rintro e w' ⟨⟨r, rfl, HR⟩, rfl⟩
  go_wp2_with fail
  go_ret
  exact ⟨by rw [← HR.out]; rfl, rfl⟩
theorem elem22 : Tryz.prog.underlying 22 = some (.slice (Tryz.prog.elem 22)) := by kernel_rfl
theorem size22 : (Tryz.prog.info? (Tryz.prog.elem 22)).map (·.size) = some 4 := by kernel_rfl
theorem cutC (b off L c T m : Nat) (hE : T + m ≤ c) (hT : T < c) (hc : c ≤ 9223372036854775807) (w' : World) :
    (Instr.slice 22 (.slice (some ⟨b, off, none⟩) L c) (some (.int .i64 (T : Int))) (some (.int .i64 ((T : Int) + (m : Int)))) none).run Tryz.prog w' = .ok (.slice (some ⟨b, off + T * 4, none⟩) m (c - T)) w' := by
  rw [run_slice_lh (P := Tryz.prog) w' 22 (some ⟨b, off, none⟩) L c elem22 .i64 .i64 T (T + m) (by omega) (by omega) (by omega)]
  obtain ⟨i, hi, hsz⟩ : ∃ i, Tryz.prog.info? (Tryz.prog.elem 22) = some i ∧ i.size = 4 := by
    have := size22
    cases hh : Tryz.prog.info? (Tryz.prog.elem 22) with
    | none => rw [hh] at this; cases this
    | some i => rw [hh] at this; exact ⟨i, rfl, by simpa using this⟩
  have h1 : ((T : Int) + (m : Int)).toNat = T + m := by omega
  have hne : ¬ c = T := by omega
  simp [sizeOf, typeInfo, hi, hsz, sliced, Result.andThen, h1, hne, Addr.add]
theorem newI (w : World) (cs : Array Value) (l : List Int) (h : cs.toList = cellsL .i64 l) (hl : l.length ≤ 100) : IOwn (w.alloc (.cells cs 3)) w.heap.size (.slice (some ⟨w.heap.size, 0, none⟩) l.length l.length) l := by
  have h1 := ownS_of_blk (c := 1) (n := l.length) (cap := l.length) (Blk.newA w cs 3) (Nat.le_refl _) (by rw [h]; simp [cellsL]) (Nat.le_refl _) (by unfold maxLen; omega)
  rw [h, List.take_of_length_le (by simp [cellsL])] at h1
  exact h1
theorem arms_map (C : List In) (k m : Nat) (h : k + m ≤ C.length) : (List.range m).map (fun j => (inA C (k + j)).b) = ((C.drop k).take m).map (·.b) := by
  apply List.ext_getElem?
  intro i
  by_cases hi : i < m
  · have h1 : k + i < C.length := by omega
    simp [List.getElem?_take, hi, inA, List.getD, h1]
  · simp [List.getElem?_take, hi]
set_option maxRecDepth 100000 in
set_option maxHeartbeats 4000000 in
theorem ways_19 (b off c : Nat) (C : List In) (k : Nat) (w : World) (hk : k < C.length) (hcc : C.length ≤ c) (hcl : c ≤ 9223372036854775807) (hCl : C.length ≤ 1048576) (hr : Hid (IRow w (some ⟨b, off, none⟩) C)) (hop : (inA C k).op = 19) : Calls Tryz.prog 62 #[.slice (some ⟨b, off, none⟩) C.length c, .int .i64 (k : Int)] w fun e w' => ∃ v, e = .returned v ∧ Hid (IOwn w' w.heap.size v (waysP C k)) ∧ Hid (Below w.heap.size w w') := by
  obtain ⟨x, hx⟩ : ∃ x, C[k]? = some x := ⟨_, List.getElem?_eq_getElem hk⟩
  have hxA : inA C k = x := inA_at hx
  rw [hxA] at hop
  obtain ⟨i0, i1, i2, i3⟩ := hr.out.at hx
  obtain ⟨w2, hw2⟩ : ∃ wx, w.alloc (.cells #[.int .i64 x.op, .int .i64 x.a, .int .i64 x.b, .int .i64 x.c] 37) = wx := ⟨_, rfl⟩
  have hB2 : Below w.heap.size w w2 := by rw [← hw2]; exact below1 _ _
  have K2 : Blk w2 w.heap.size 37 (inc x) := by rw [← hw2]; exact Blk.newA w _ _
  obtain ⟨k0, k1, k2, k3⟩ := K2.ci
  have hz : w.heap.size + 1 ≤ w2.heap.size := by rw [← hw2]; simp
  have hkc : (k : Int) < (C.length : Int) := by omega
  have hk1 : (k : Int) ≤ 1048576 := by omega
  have HB2 := hide_ hB2
  obtain ⟨n, hn⟩ : ∃ n, C.length = n := ⟨_, rfl⟩
  have HW : Hid (waysP C k = [x.b]) := hide_ (by unfold waysP; rw [hxA]; repeat (first | rw [if_pos (by omega)] | rw [if_neg (by omega)]))
  have Hop := hide_ hop
  clear hop hn
  clear hB2 K2
  go_enter Tryz.func62, Tryz.ntmps62
  go_upto_region 2 with fail
  try rw [hw2]
  clear hw2 i0 i1 i2 i3
  rw [Hop.out] at k0
  go_wp2_with fail
  go_ret
  refine ⟨_, rfl, hide_ ?_, hide_ (HB2.out.alloc (by omega) _)⟩
  rw [HW.out]
  exact own_base (newI w2 #[.int .i64 x.b] [x.b] rfl (by simp)) (by omega)
set_option maxRecDepth 100000 in
set_option maxHeartbeats 4000000 in
theorem ways_20 (b off c : Nat) (C : List In) (k : Nat) (w : World) (hk : k < C.length) (hcc : C.length ≤ c) (hcl : c ≤ 9223372036854775807) (hCl : C.length ≤ 1048576) (hr : Hid (IRow w (some ⟨b, off, none⟩) C)) (hop : (inA C k).op = 20) : Calls Tryz.prog 62 #[.slice (some ⟨b, off, none⟩) C.length c, .int .i64 (k : Int)] w fun e w' => ∃ v, e = .returned v ∧ Hid (IOwn w' w.heap.size v (waysP C k)) ∧ Hid (Below w.heap.size w w') := by
  obtain ⟨x, hx⟩ : ∃ x, C[k]? = some x := ⟨_, List.getElem?_eq_getElem hk⟩
  have hxA : inA C k = x := inA_at hx
  rw [hxA] at hop
  obtain ⟨i0, i1, i2, i3⟩ := hr.out.at hx
  obtain ⟨w2, hw2⟩ : ∃ wx, w.alloc (.cells #[.int .i64 x.op, .int .i64 x.a, .int .i64 x.b, .int .i64 x.c] 37) = wx := ⟨_, rfl⟩
  have hB2 : Below w.heap.size w w2 := by rw [← hw2]; exact below1 _ _
  have K2 : Blk w2 w.heap.size 37 (inc x) := by rw [← hw2]; exact Blk.newA w _ _
  obtain ⟨k0, k1, k2, k3⟩ := K2.ci
  have hz : w.heap.size + 1 ≤ w2.heap.size := by rw [← hw2]; simp
  have hkc : (k : Int) < (C.length : Int) := by omega
  have hk1 : (k : Int) ≤ 1048576 := by omega
  have HB2 := hide_ hB2
  obtain ⟨n, hn⟩ : ∃ n, C.length = n := ⟨_, rfl⟩
  have HW : Hid (waysP C k = []) := hide_ (by unfold waysP; rw [hxA]; repeat (first | rw [if_pos (by omega)] | rw [if_neg (by omega)]))
  have Hop := hide_ hop
  clear hop hn
  clear hB2 K2
  go_enter Tryz.func62, Tryz.ntmps62
  go_upto_region 2 with fail
  try rw [hw2]
  clear hw2 i0 i1 i2 i3
  rw [Hop.out] at k0
  go_wp2_with fail
  go_ret
  exact ⟨_, rfl, hide_ (by rw [HW.out]; exact IOwn.nil _ _), HB2⟩
set_option maxRecDepth 100000 in
set_option maxHeartbeats 4000000 in
theorem ways_7 (b off c : Nat) (C : List In) (k : Nat) (w : World) (hk : k < C.length) (hcc : C.length ≤ c) (hcl : c ≤ 9223372036854775807) (hCl : C.length ≤ 1048576) (hr : Hid (IRow w (some ⟨b, off, none⟩) C)) (hop : (inA C k).op = 7) : Calls Tryz.prog 62 #[.slice (some ⟨b, off, none⟩) C.length c, .int .i64 (k : Int)] w fun e w' => ∃ v, e = .returned v ∧ Hid (IOwn w' w.heap.size v (waysP C k)) ∧ Hid (Below w.heap.size w w') := by
  obtain ⟨x, hx⟩ : ∃ x, C[k]? = some x := ⟨_, List.getElem?_eq_getElem hk⟩
  have hxA : inA C k = x := inA_at hx
  rw [hxA] at hop
  obtain ⟨i0, i1, i2, i3⟩ := hr.out.at hx
  obtain ⟨w2, hw2⟩ : ∃ wx, w.alloc (.cells #[.int .i64 x.op, .int .i64 x.a, .int .i64 x.b, .int .i64 x.c] 37) = wx := ⟨_, rfl⟩
  have hB2 : Below w.heap.size w w2 := by rw [← hw2]; exact below1 _ _
  have K2 : Blk w2 w.heap.size 37 (inc x) := by rw [← hw2]; exact Blk.newA w _ _
  obtain ⟨k0, k1, k2, k3⟩ := K2.ci
  have hz : w.heap.size + 1 ≤ w2.heap.size := by rw [← hw2]; simp
  have hkc : (k : Int) < (C.length : Int) := by omega
  have hk1 : (k : Int) ≤ 1048576 := by omega
  have HB2 := hide_ hB2
  obtain ⟨n, hn⟩ : ∃ n, C.length = n := ⟨_, rfl⟩
  have HW : Hid (waysP C k = [(k : Int) + 1, x.b]) := hide_ (by unfold waysP; rw [hxA]; repeat (first | rw [if_pos (by omega)] | rw [if_neg (by omega)]))
  have Hop := hide_ hop
  clear hop hn
  clear hB2 K2
  go_enter Tryz.func62, Tryz.ntmps62
  go_upto_region 2 with fail
  try rw [hw2]
  clear hw2 i0 i1 i2 i3
  rw [Hop.out] at k0
  go_wp2_with fail
  go_ret
  refine ⟨_, rfl, hide_ ?_, hide_ (HB2.out.alloc (by omega) _)⟩
  rw [HW.out]
  exact own_base (newI w2 #[.int .i64 ((k : Int) + 1), .int .i64 x.b] [(k : Int) + 1, x.b] rfl (by simp)) (by omega)
set_option maxRecDepth 100000 in
set_option maxHeartbeats 4000000 in
theorem ways_11 (b off c : Nat) (C : List In) (k : Nat) (w : World) (hk : k < C.length) (hcc : C.length ≤ c) (hcl : c ≤ 9223372036854775807) (hCl : C.length ≤ 1048576) (hr : Hid (IRow w (some ⟨b, off, none⟩) C)) (hop : (inA C k).op = 11) : Calls Tryz.prog 62 #[.slice (some ⟨b, off, none⟩) C.length c, .int .i64 (k : Int)] w fun e w' => ∃ v, e = .returned v ∧ Hid (IOwn w' w.heap.size v (waysP C k)) ∧ Hid (Below w.heap.size w w') := by
  obtain ⟨x, hx⟩ : ∃ x, C[k]? = some x := ⟨_, List.getElem?_eq_getElem hk⟩
  have hxA : inA C k = x := inA_at hx
  rw [hxA] at hop
  obtain ⟨i0, i1, i2, i3⟩ := hr.out.at hx
  obtain ⟨w2, hw2⟩ : ∃ wx, w.alloc (.cells #[.int .i64 x.op, .int .i64 x.a, .int .i64 x.b, .int .i64 x.c] 37) = wx := ⟨_, rfl⟩
  have hB2 : Below w.heap.size w w2 := by rw [← hw2]; exact below1 _ _
  have K2 : Blk w2 w.heap.size 37 (inc x) := by rw [← hw2]; exact Blk.newA w _ _
  obtain ⟨k0, k1, k2, k3⟩ := K2.ci
  have hz : w.heap.size + 1 ≤ w2.heap.size := by rw [← hw2]; simp
  have hkc : (k : Int) < (C.length : Int) := by omega
  have hk1 : (k : Int) ≤ 1048576 := by omega
  have HB2 := hide_ hB2
  obtain ⟨n, hn⟩ : ∃ n, C.length = n := ⟨_, rfl⟩
  have HW : Hid (waysP C k = [(k : Int) + 1, x.b]) := hide_ (by unfold waysP; rw [hxA]; repeat (first | rw [if_pos (by omega)] | rw [if_neg (by omega)]))
  have Hop := hide_ hop
  clear hop hn
  clear hB2 K2
  go_enter Tryz.func62, Tryz.ntmps62
  go_upto_region 2 with fail
  try rw [hw2]
  clear hw2 i0 i1 i2 i3
  rw [Hop.out] at k0
  go_wp2_with fail
  go_ret
  refine ⟨_, rfl, hide_ ?_, hide_ (HB2.out.alloc (by omega) _)⟩
  rw [HW.out]
  exact own_base (newI w2 #[.int .i64 ((k : Int) + 1), .int .i64 x.b] [(k : Int) + 1, x.b] rfl (by simp)) (by omega)
set_option maxRecDepth 100000 in
set_option maxHeartbeats 4000000 in
theorem ways_12 (b off c : Nat) (C : List In) (k : Nat) (w : World) (hk : k < C.length) (hcc : C.length ≤ c) (hcl : c ≤ 9223372036854775807) (hCl : C.length ≤ 1048576) (hr : Hid (IRow w (some ⟨b, off, none⟩) C)) (hop : (inA C k).op = 12) : Calls Tryz.prog 62 #[.slice (some ⟨b, off, none⟩) C.length c, .int .i64 (k : Int)] w fun e w' => ∃ v, e = .returned v ∧ Hid (IOwn w' w.heap.size v (waysP C k)) ∧ Hid (Below w.heap.size w w') := by
  obtain ⟨x, hx⟩ : ∃ x, C[k]? = some x := ⟨_, List.getElem?_eq_getElem hk⟩
  have hxA : inA C k = x := inA_at hx
  rw [hxA] at hop
  obtain ⟨i0, i1, i2, i3⟩ := hr.out.at hx
  obtain ⟨w2, hw2⟩ : ∃ wx, w.alloc (.cells #[.int .i64 x.op, .int .i64 x.a, .int .i64 x.b, .int .i64 x.c] 37) = wx := ⟨_, rfl⟩
  have hB2 : Below w.heap.size w w2 := by rw [← hw2]; exact below1 _ _
  have K2 : Blk w2 w.heap.size 37 (inc x) := by rw [← hw2]; exact Blk.newA w _ _
  obtain ⟨k0, k1, k2, k3⟩ := K2.ci
  have hz : w.heap.size + 1 ≤ w2.heap.size := by rw [← hw2]; simp
  have hkc : (k : Int) < (C.length : Int) := by omega
  have hk1 : (k : Int) ≤ 1048576 := by omega
  have HB2 := hide_ hB2
  obtain ⟨n, hn⟩ : ∃ n, C.length = n := ⟨_, rfl⟩
  have HW : Hid (waysP C k = [(k : Int) + 1, x.b]) := hide_ (by unfold waysP; rw [hxA]; repeat (first | rw [if_pos (by omega)] | rw [if_neg (by omega)]))
  have Hop := hide_ hop
  clear hop hn
  clear hB2 K2
  go_enter Tryz.func62, Tryz.ntmps62
  go_upto_region 2 with fail
  try rw [hw2]
  clear hw2 i0 i1 i2 i3
  rw [Hop.out] at k0
  go_wp2_with fail
  go_ret
  refine ⟨_, rfl, hide_ ?_, hide_ (HB2.out.alloc (by omega) _)⟩
  rw [HW.out]
  exact own_base (newI w2 #[.int .i64 ((k : Int) + 1), .int .i64 x.b] [(k : Int) + 1, x.b] rfl (by simp)) (by omega)
set_option maxRecDepth 100000 in
set_option maxHeartbeats 4000000 in
theorem ways_13 (b off c : Nat) (C : List In) (k : Nat) (w : World) (hk : k < C.length) (hcc : C.length ≤ c) (hcl : c ≤ 9223372036854775807) (hCl : C.length ≤ 1048576) (hr : Hid (IRow w (some ⟨b, off, none⟩) C)) (hop : (inA C k).op = 13) : Calls Tryz.prog 62 #[.slice (some ⟨b, off, none⟩) C.length c, .int .i64 (k : Int)] w fun e w' => ∃ v, e = .returned v ∧ Hid (IOwn w' w.heap.size v (waysP C k)) ∧ Hid (Below w.heap.size w w') := by
  obtain ⟨x, hx⟩ : ∃ x, C[k]? = some x := ⟨_, List.getElem?_eq_getElem hk⟩
  have hxA : inA C k = x := inA_at hx
  rw [hxA] at hop
  obtain ⟨i0, i1, i2, i3⟩ := hr.out.at hx
  obtain ⟨w2, hw2⟩ : ∃ wx, w.alloc (.cells #[.int .i64 x.op, .int .i64 x.a, .int .i64 x.b, .int .i64 x.c] 37) = wx := ⟨_, rfl⟩
  have hB2 : Below w.heap.size w w2 := by rw [← hw2]; exact below1 _ _
  have K2 : Blk w2 w.heap.size 37 (inc x) := by rw [← hw2]; exact Blk.newA w _ _
  obtain ⟨k0, k1, k2, k3⟩ := K2.ci
  have hz : w.heap.size + 1 ≤ w2.heap.size := by rw [← hw2]; simp
  have hkc : (k : Int) < (C.length : Int) := by omega
  have hk1 : (k : Int) ≤ 1048576 := by omega
  have HB2 := hide_ hB2
  obtain ⟨n, hn⟩ : ∃ n, C.length = n := ⟨_, rfl⟩
  have HW : Hid (waysP C k = [(k : Int) + 1, x.b]) := hide_ (by unfold waysP; rw [hxA]; repeat (first | rw [if_pos (by omega)] | rw [if_neg (by omega)]))
  have Hop := hide_ hop
  clear hop hn
  clear hB2 K2
  go_enter Tryz.func62, Tryz.ntmps62
  go_upto_region 2 with fail
  try rw [hw2]
  clear hw2 i0 i1 i2 i3
  rw [Hop.out] at k0
  go_wp2_with fail
  go_ret
  refine ⟨_, rfl, hide_ ?_, hide_ (HB2.out.alloc (by omega) _)⟩
  rw [HW.out]
  exact own_base (newI w2 #[.int .i64 ((k : Int) + 1), .int .i64 x.b] [(k : Int) + 1, x.b] rfl (by simp)) (by omega)
set_option maxRecDepth 100000 in
set_option maxHeartbeats 4000000 in
theorem ways_14 (b off c : Nat) (C : List In) (k : Nat) (w : World) (hk : k < C.length) (hcc : C.length ≤ c) (hcl : c ≤ 9223372036854775807) (hCl : C.length ≤ 1048576) (hr : Hid (IRow w (some ⟨b, off, none⟩) C)) (hop : (inA C k).op = 14) : Calls Tryz.prog 62 #[.slice (some ⟨b, off, none⟩) C.length c, .int .i64 (k : Int)] w fun e w' => ∃ v, e = .returned v ∧ Hid (IOwn w' w.heap.size v (waysP C k)) ∧ Hid (Below w.heap.size w w') := by
  obtain ⟨x, hx⟩ : ∃ x, C[k]? = some x := ⟨_, List.getElem?_eq_getElem hk⟩
  have hxA : inA C k = x := inA_at hx
  rw [hxA] at hop
  obtain ⟨i0, i1, i2, i3⟩ := hr.out.at hx
  obtain ⟨w2, hw2⟩ : ∃ wx, w.alloc (.cells #[.int .i64 x.op, .int .i64 x.a, .int .i64 x.b, .int .i64 x.c] 37) = wx := ⟨_, rfl⟩
  have hB2 : Below w.heap.size w w2 := by rw [← hw2]; exact below1 _ _
  have K2 : Blk w2 w.heap.size 37 (inc x) := by rw [← hw2]; exact Blk.newA w _ _
  obtain ⟨k0, k1, k2, k3⟩ := K2.ci
  have hz : w.heap.size + 1 ≤ w2.heap.size := by rw [← hw2]; simp
  have hkc : (k : Int) < (C.length : Int) := by omega
  have hk1 : (k : Int) ≤ 1048576 := by omega
  have HB2 := hide_ hB2
  obtain ⟨n, hn⟩ : ∃ n, C.length = n := ⟨_, rfl⟩
  have HW : Hid (waysP C k = [(k : Int) + 1, x.b]) := hide_ (by unfold waysP; rw [hxA]; repeat (first | rw [if_pos (by omega)] | rw [if_neg (by omega)]))
  have Hop := hide_ hop
  clear hop hn
  clear hB2 K2
  go_enter Tryz.func62, Tryz.ntmps62
  go_upto_region 2 with fail
  try rw [hw2]
  clear hw2 i0 i1 i2 i3
  rw [Hop.out] at k0
  go_wp2_with fail
  go_ret
  refine ⟨_, rfl, hide_ ?_, hide_ (HB2.out.alloc (by omega) _)⟩
  rw [HW.out]
  exact own_base (newI w2 #[.int .i64 ((k : Int) + 1), .int .i64 x.b] [(k : Int) + 1, x.b] rfl (by simp)) (by omega)
set_option maxRecDepth 100000 in
set_option maxHeartbeats 4000000 in
theorem ways_15 (b off c : Nat) (C : List In) (k : Nat) (w : World) (hk : k < C.length) (hcc : C.length ≤ c) (hcl : c ≤ 9223372036854775807) (hCl : C.length ≤ 1048576) (hr : Hid (IRow w (some ⟨b, off, none⟩) C)) (hop : (inA C k).op = 15) : Calls Tryz.prog 62 #[.slice (some ⟨b, off, none⟩) C.length c, .int .i64 (k : Int)] w fun e w' => ∃ v, e = .returned v ∧ Hid (IOwn w' w.heap.size v (waysP C k)) ∧ Hid (Below w.heap.size w w') := by
  obtain ⟨x, hx⟩ : ∃ x, C[k]? = some x := ⟨_, List.getElem?_eq_getElem hk⟩
  have hxA : inA C k = x := inA_at hx
  rw [hxA] at hop
  obtain ⟨i0, i1, i2, i3⟩ := hr.out.at hx
  obtain ⟨w2, hw2⟩ : ∃ wx, w.alloc (.cells #[.int .i64 x.op, .int .i64 x.a, .int .i64 x.b, .int .i64 x.c] 37) = wx := ⟨_, rfl⟩
  have hB2 : Below w.heap.size w w2 := by rw [← hw2]; exact below1 _ _
  have K2 : Blk w2 w.heap.size 37 (inc x) := by rw [← hw2]; exact Blk.newA w _ _
  obtain ⟨k0, k1, k2, k3⟩ := K2.ci
  have hz : w.heap.size + 1 ≤ w2.heap.size := by rw [← hw2]; simp
  have hkc : (k : Int) < (C.length : Int) := by omega
  have hk1 : (k : Int) ≤ 1048576 := by omega
  have HB2 := hide_ hB2
  obtain ⟨n, hn⟩ : ∃ n, C.length = n := ⟨_, rfl⟩
  have HW : Hid (waysP C k = [(k : Int) + 1, x.b]) := hide_ (by unfold waysP; rw [hxA]; repeat (first | rw [if_pos (by omega)] | rw [if_neg (by omega)]))
  have Hop := hide_ hop
  clear hop hn
  clear hB2 K2
  go_enter Tryz.func62, Tryz.ntmps62
  go_upto_region 2 with fail
  try rw [hw2]
  clear hw2 i0 i1 i2 i3
  rw [Hop.out] at k0
  go_wp2_with fail
  go_ret
  refine ⟨_, rfl, hide_ ?_, hide_ (HB2.out.alloc (by omega) _)⟩
  rw [HW.out]
  exact own_base (newI w2 #[.int .i64 ((k : Int) + 1), .int .i64 x.b] [(k : Int) + 1, x.b] rfl (by simp)) (by omega)
set_option maxRecDepth 100000 in
set_option maxHeartbeats 4000000 in
theorem ways_40 (b off c : Nat) (C : List In) (k : Nat) (w : World) (hk : k < C.length) (hcc : C.length ≤ c) (hcl : c ≤ 9223372036854775807) (hCl : C.length ≤ 1048576) (hr : Hid (IRow w (some ⟨b, off, none⟩) C)) (hop : (inA C k).op = 40) : Calls Tryz.prog 62 #[.slice (some ⟨b, off, none⟩) C.length c, .int .i64 (k : Int)] w fun e w' => ∃ v, e = .returned v ∧ Hid (IOwn w' w.heap.size v (waysP C k)) ∧ Hid (Below w.heap.size w w') := by
  obtain ⟨x, hx⟩ : ∃ x, C[k]? = some x := ⟨_, List.getElem?_eq_getElem hk⟩
  have hxA : inA C k = x := inA_at hx
  rw [hxA] at hop
  obtain ⟨i0, i1, i2, i3⟩ := hr.out.at hx
  obtain ⟨w2, hw2⟩ : ∃ wx, w.alloc (.cells #[.int .i64 x.op, .int .i64 x.a, .int .i64 x.b, .int .i64 x.c] 37) = wx := ⟨_, rfl⟩
  have hB2 : Below w.heap.size w w2 := by rw [← hw2]; exact below1 _ _
  have K2 : Blk w2 w.heap.size 37 (inc x) := by rw [← hw2]; exact Blk.newA w _ _
  obtain ⟨k0, k1, k2, k3⟩ := K2.ci
  have hz : w.heap.size + 1 ≤ w2.heap.size := by rw [← hw2]; simp
  have hkc : (k : Int) < (C.length : Int) := by omega
  have hk1 : (k : Int) ≤ 1048576 := by omega
  have HB2 := hide_ hB2
  obtain ⟨n, hn⟩ : ∃ n, C.length = n := ⟨_, rfl⟩
  have HW : Hid (waysP C k = [(k : Int) + 1, x.b]) := hide_ (by unfold waysP; rw [hxA]; repeat (first | rw [if_pos (by omega)] | rw [if_neg (by omega)]))
  have Hop := hide_ hop
  clear hop hn
  clear hB2 K2
  go_enter Tryz.func62, Tryz.ntmps62
  go_upto_region 2 with fail
  try rw [hw2]
  clear hw2 i0 i1 i2 i3
  rw [Hop.out] at k0
  go_wp2_with fail
  go_ret
  refine ⟨_, rfl, hide_ ?_, hide_ (HB2.out.alloc (by omega) _)⟩
  rw [HW.out]
  exact own_base (newI w2 #[.int .i64 ((k : Int) + 1), .int .i64 x.b] [(k : Int) + 1, x.b] rfl (by simp)) (by omega)
set_option maxRecDepth 100000 in
set_option maxHeartbeats 4000000 in
theorem ways_47 (b off c : Nat) (C : List In) (k : Nat) (w : World) (hk : k < C.length) (hcc : C.length ≤ c) (hcl : c ≤ 9223372036854775807) (hCl : C.length ≤ 1048576) (hr : Hid (IRow w (some ⟨b, off, none⟩) C)) (hop : (inA C k).op = 47) : Calls Tryz.prog 62 #[.slice (some ⟨b, off, none⟩) C.length c, .int .i64 (k : Int)] w fun e w' => ∃ v, e = .returned v ∧ Hid (IOwn w' w.heap.size v (waysP C k)) ∧ Hid (Below w.heap.size w w') := by
  obtain ⟨x, hx⟩ : ∃ x, C[k]? = some x := ⟨_, List.getElem?_eq_getElem hk⟩
  have hxA : inA C k = x := inA_at hx
  rw [hxA] at hop
  obtain ⟨i0, i1, i2, i3⟩ := hr.out.at hx
  obtain ⟨w2, hw2⟩ : ∃ wx, w.alloc (.cells #[.int .i64 x.op, .int .i64 x.a, .int .i64 x.b, .int .i64 x.c] 37) = wx := ⟨_, rfl⟩
  have hB2 : Below w.heap.size w w2 := by rw [← hw2]; exact below1 _ _
  have K2 : Blk w2 w.heap.size 37 (inc x) := by rw [← hw2]; exact Blk.newA w _ _
  obtain ⟨k0, k1, k2, k3⟩ := K2.ci
  have hz : w.heap.size + 1 ≤ w2.heap.size := by rw [← hw2]; simp
  have hkc : (k : Int) < (C.length : Int) := by omega
  have hk1 : (k : Int) ≤ 1048576 := by omega
  have HB2 := hide_ hB2
  obtain ⟨n, hn⟩ : ∃ n, C.length = n := ⟨_, rfl⟩
  have HW : Hid (waysP C k = [(k : Int) + 1, x.b]) := hide_ (by unfold waysP; rw [hxA]; repeat (first | rw [if_pos (by omega)] | rw [if_neg (by omega)]))
  have Hop := hide_ hop
  clear hop hn
  clear hB2 K2
  go_enter Tryz.func62, Tryz.ntmps62
  go_upto_region 2 with fail
  try rw [hw2]
  clear hw2 i0 i1 i2 i3
  rw [Hop.out] at k0
  go_wp2_with fail
  go_ret
  refine ⟨_, rfl, hide_ ?_, hide_ (HB2.out.alloc (by omega) _)⟩
  rw [HW.out]
  exact own_base (newI w2 #[.int .i64 ((k : Int) + 1), .int .i64 x.b] [(k : Int) + 1, x.b] rfl (by simp)) (by omega)
set_option maxRecDepth 100000 in
set_option maxHeartbeats 4000000 in
theorem ways_x (b off c : Nat) (C : List In) (k : Nat) (w : World) (hk : k < C.length) (hcc : C.length ≤ c) (hcl : c ≤ 9223372036854775807) (hCl : C.length ≤ 1048576) (hr : Hid (IRow w (some ⟨b, off, none⟩) C)) (hop : (inA C k).op ≠ 19 ∧ (inA C k).op ≠ 20 ∧ (inA C k).op ≠ 8 ∧ (inA C k).op ≠ 41 ∧ (inA C k).op ≠ 7 ∧ (inA C k).op ≠ 11 ∧ (inA C k).op ≠ 12 ∧ (inA C k).op ≠ 13 ∧ (inA C k).op ≠ 14 ∧ (inA C k).op ≠ 15 ∧ (inA C k).op ≠ 40 ∧ (inA C k).op ≠ 47) : Calls Tryz.prog 62 #[.slice (some ⟨b, off, none⟩) C.length c, .int .i64 (k : Int)] w fun e w' => ∃ v, e = .returned v ∧ Hid (IOwn w' w.heap.size v (waysP C k)) ∧ Hid (Below w.heap.size w w') := by
  obtain ⟨x, hx⟩ : ∃ x, C[k]? = some x := ⟨_, List.getElem?_eq_getElem hk⟩
  have hxA : inA C k = x := inA_at hx
  rw [hxA] at hop
  obtain ⟨i0, i1, i2, i3⟩ := hr.out.at hx
  obtain ⟨w2, hw2⟩ : ∃ wx, w.alloc (.cells #[.int .i64 x.op, .int .i64 x.a, .int .i64 x.b, .int .i64 x.c] 37) = wx := ⟨_, rfl⟩
  have hB2 : Below w.heap.size w w2 := by rw [← hw2]; exact below1 _ _
  have K2 : Blk w2 w.heap.size 37 (inc x) := by rw [← hw2]; exact Blk.newA w _ _
  obtain ⟨k0, k1, k2, k3⟩ := K2.ci
  have hz : w.heap.size + 1 ≤ w2.heap.size := by rw [← hw2]; simp
  have hkc : (k : Int) < (C.length : Int) := by omega
  have hk1 : (k : Int) ≤ 1048576 := by omega
  have HB2 := hide_ hB2
  obtain ⟨n, hn⟩ : ∃ n, C.length = n := ⟨_, rfl⟩
  have HW : Hid (waysP C k = [(k : Int) + 1]) := hide_ (by unfold waysP; rw [hxA]; repeat (first | rw [if_pos (by omega)] | rw [if_neg (by omega)]))
  have Hop := hide_ hop
  clear hop hn
  clear hB2 K2
  go_enter Tryz.func62, Tryz.ntmps62
  go_upto_region 2 with fail
  try rw [hw2]
  clear hw2 i0 i1 i2 i3
  have q19 : (x.op == 19) = false := by have := Hop.out; simp; omega
  have q20 : (x.op == 20) = false := by have := Hop.out; simp; omega
  have q8 : (x.op == 8) = false := by have := Hop.out; simp; omega
  have q41 : (x.op == 41) = false := by have := Hop.out; simp; omega
  have q7 : (x.op == 7) = false := by have := Hop.out; simp; omega
  have q11 : (x.op == 11) = false := by have := Hop.out; simp; omega
  have q12 : (x.op == 12) = false := by have := Hop.out; simp; omega
  have q13 : (x.op == 13) = false := by have := Hop.out; simp; omega
  have q14 : (x.op == 14) = false := by have := Hop.out; simp; omega
  have q15 : (x.op == 15) = false := by have := Hop.out; simp; omega
  have q40 : (x.op == 40) = false := by have := Hop.out; simp; omega
  have q47 : (x.op == 47) = false := by have := Hop.out; simp; omega
  go_wp2_with fail
  go_ret
  refine ⟨_, rfl, hide_ ?_, hide_ (HB2.out.alloc (by omega) _)⟩
  rw [HW.out]
  exact own_base (newI w2 #[.int .i64 ((k : Int) + 1)] [(k : Int) + 1] rfl (by simp)) (by omega)
set_option maxRecDepth 100000 in
set_option maxHeartbeats 4000000 in
theorem ways_8 (b off c : Nat) (C : List In) (k : Nat) (w : World) (hk : k < C.length) (hcc : C.length ≤ c) (hcl : c ≤ 9223372036854775807) (hCl : C.length ≤ 1048576) (hr : Hid (IRow w (some ⟨b, off, none⟩) C)) (hop : (inA C k).op = 8) (ha : 1 ≤ (inA C k).a ∧ (inA C k).a ≤ 64 ∧ (k : Int) + 1 + (inA C k).a ≤ C.length) : Calls Tryz.prog 62 #[.slice (some ⟨b, off, none⟩) C.length c, .int .i64 (k : Int)] w fun e w' => ∃ v, e = .returned v ∧ Hid (IOwn w' w.heap.size v (waysP C k)) ∧ Hid (Below w.heap.size w w') := by
  obtain ⟨x, hx⟩ : ∃ x, C[k]? = some x := ⟨_, List.getElem?_eq_getElem hk⟩
  have hxA : inA C k = x := inA_at hx
  rw [hxA] at hop
  obtain ⟨i0, i1, i2, i3⟩ := hr.out.at hx
  obtain ⟨w2, hw2⟩ : ∃ wx, w.alloc (.cells #[.int .i64 x.op, .int .i64 x.a, .int .i64 x.b, .int .i64 x.c] 37) = wx := ⟨_, rfl⟩
  have hB2 : Below w.heap.size w w2 := by rw [← hw2]; exact below1 _ _
  have K2 : Blk w2 w.heap.size 37 (inc x) := by rw [← hw2]; exact Blk.newA w _ _
  obtain ⟨k0, k1, k2, k3⟩ := K2.ci
  have hz : w.heap.size + 1 ≤ w2.heap.size := by rw [← hw2]; simp
  have hkc : (k : Int) < (C.length : Int) := by omega
  have hk1 : (k : Int) ≤ 1048576 := by omega
  have HB2 := hide_ hB2
  obtain ⟨n, hn⟩ : ∃ n, C.length = n := ⟨_, rfl⟩
  have HW : Hid (waysP C k = (List.range x.a.toNat).map (fun j => (inA C (k + 1 + j)).b)) := hide_ (by unfold waysP; rw [hxA]; repeat (first | rw [if_pos (by omega)] | rw [if_neg (by omega)]))
  have Hop := hide_ hop
  clear hop hn
  clear hB2 K2
  go_enter Tryz.func62, Tryz.ntmps62
  go_upto_region 2 with fail
  try rw [hw2]
  clear hw2 i0 i1 i2 i3
  rw [Hop.out] at k0
  rw [hxA] at ha
  obtain ⟨m, hm⟩ := Int.eq_ofNat_of_zero_le (show 0 ≤ x.a by omega)
  rw [hm] at k1 ha
  have hcut : ∀ w', (Instr.slice 22 (.slice (some ⟨b, off, none⟩) C.length c) (some (.int .i64 ((k : Int) + 1))) (some (.int .i64 ((k : Int) + 1 + (m : Int)))) none).run Tryz.prog w' = .ok (.slice (some ⟨b, off + (k + 1) * 4, none⟩) m (c - (k + 1))) w' := fun w' => by
    have := cutC b off C.length c (k + 1) m (by omega) (by omega) hcl w'
    rw [show ((k + 1 : Nat) : Int) = (k : Int) + 1 by omega] at this
    exact this
  have HC := hide_ (armT_any (some ⟨b, off + (k + 1) * 4, none⟩) m (c - (k + 1)) ((C.drop (k + 1)).take m) w2 (by simp; omega) (by omega) (hide_ (((hr.out.later HB2.out).drop (k + 1)).take m)))
  have hm64 : (m : Int) ≤ 64 := by omega
  have HE : Hid (waysP C k = ((C.drop (k + 1)).take m).map (·.b)) := hide_ (by rw [HW.out, hm, Int.toNat_natCast]; exact arms_map C (k + 1) m (by omega))
  clear ha hm HW
  go_wp2_with fail
  refine HC.out.mono ?_
  rintro e w3 ⟨v, rfl, HO, HB3⟩
  go_wp2_with fail
  go_ret
  exact ⟨_, rfl, hide_ (by rw [HE.out]; exact own_base HO.out (by omega)), hide_ (below_to HB2.out HB3.out)⟩
set_option maxRecDepth 100000 in
set_option maxHeartbeats 4000000 in
theorem ways_41 (b off c : Nat) (C : List In) (k : Nat) (w : World) (hk : k < C.length) (hcc : C.length ≤ c) (hcl : c ≤ 9223372036854775807) (hCl : C.length ≤ 1048576) (hr : Hid (IRow w (some ⟨b, off, none⟩) C)) (hop : (inA C k).op = 41) (ha : 1 ≤ (inA C k).a ∧ (inA C k).a ≤ 64 ∧ (k : Int) + 1 + (inA C k).a ≤ C.length) : Calls Tryz.prog 62 #[.slice (some ⟨b, off, none⟩) C.length c, .int .i64 (k : Int)] w fun e w' => ∃ v, e = .returned v ∧ Hid (IOwn w' w.heap.size v (waysP C k)) ∧ Hid (Below w.heap.size w w') := by
  obtain ⟨x, hx⟩ : ∃ x, C[k]? = some x := ⟨_, List.getElem?_eq_getElem hk⟩
  have hxA : inA C k = x := inA_at hx
  rw [hxA] at hop
  obtain ⟨i0, i1, i2, i3⟩ := hr.out.at hx
  obtain ⟨w2, hw2⟩ : ∃ wx, w.alloc (.cells #[.int .i64 x.op, .int .i64 x.a, .int .i64 x.b, .int .i64 x.c] 37) = wx := ⟨_, rfl⟩
  have hB2 : Below w.heap.size w w2 := by rw [← hw2]; exact below1 _ _
  have K2 : Blk w2 w.heap.size 37 (inc x) := by rw [← hw2]; exact Blk.newA w _ _
  obtain ⟨k0, k1, k2, k3⟩ := K2.ci
  have hz : w.heap.size + 1 ≤ w2.heap.size := by rw [← hw2]; simp
  have hkc : (k : Int) < (C.length : Int) := by omega
  have hk1 : (k : Int) ≤ 1048576 := by omega
  have HB2 := hide_ hB2
  obtain ⟨n, hn⟩ : ∃ n, C.length = n := ⟨_, rfl⟩
  have HW : Hid (waysP C k = (List.range x.a.toNat).map (fun j => (inA C (k + 1 + j)).b)) := hide_ (by unfold waysP; rw [hxA]; repeat (first | rw [if_pos (by omega)] | rw [if_neg (by omega)]))
  have Hop := hide_ hop
  clear hop hn
  clear hB2 K2
  go_enter Tryz.func62, Tryz.ntmps62
  go_upto_region 2 with fail
  try rw [hw2]
  clear hw2 i0 i1 i2 i3
  rw [Hop.out] at k0
  rw [hxA] at ha
  obtain ⟨m, hm⟩ := Int.eq_ofNat_of_zero_le (show 0 ≤ x.a by omega)
  rw [hm] at k1 ha
  have hcut : ∀ w', (Instr.slice 22 (.slice (some ⟨b, off, none⟩) C.length c) (some (.int .i64 ((k : Int) + 1))) (some (.int .i64 ((k : Int) + 1 + (m : Int)))) none).run Tryz.prog w' = .ok (.slice (some ⟨b, off + (k + 1) * 4, none⟩) m (c - (k + 1))) w' := fun w' => by
    have := cutC b off C.length c (k + 1) m (by omega) (by omega) hcl w'
    rw [show ((k + 1 : Nat) : Int) = (k : Int) + 1 by omega] at this
    exact this
  have HC := hide_ (armT_any (some ⟨b, off + (k + 1) * 4, none⟩) m (c - (k + 1)) ((C.drop (k + 1)).take m) w2 (by simp; omega) (by omega) (hide_ (((hr.out.later HB2.out).drop (k + 1)).take m)))
  have hm64 : (m : Int) ≤ 64 := by omega
  have HE : Hid (waysP C k = ((C.drop (k + 1)).take m).map (·.b)) := hide_ (by rw [HW.out, hm, Int.toNat_natCast]; exact arms_map C (k + 1) m (by omega))
  clear ha hm HW
  go_wp2_with fail
  refine HC.out.mono ?_
  rintro e w3 ⟨v, rfl, HO, HB3⟩
  go_wp2_with fail
  go_ret
  exact ⟨_, rfl, hide_ (by rw [HE.out]; exact own_base HO.out (by omega)), hide_ (below_to HB2.out HB3.out)⟩
theorem ways_any (b off c : Nat) (C : List In) (k : Nat) (w : World) (hk : k < C.length) (hcc : C.length ≤ c) (hcl : c ≤ 9223372036854775807) (hCl : C.length ≤ 1048576) (hr : Hid (IRow w (some ⟨b, off, none⟩) C)) (ha : (inA C k).op = 8 ∨ (inA C k).op = 41 → 1 ≤ (inA C k).a ∧ (inA C k).a ≤ 64 ∧ (k : Int) + 1 + (inA C k).a ≤ C.length) : Calls Tryz.prog 62 #[.slice (some ⟨b, off, none⟩) C.length c, .int .i64 (k : Int)] w fun e w' => ∃ v, e = .returned v ∧ Hid (IOwn w' w.heap.size v (waysP C k)) ∧ Hid (Below w.heap.size w w') := by
  by_cases h19 : (inA C k).op = 19
  · exact ways_19 b off c C k w hk hcc hcl hCl hr h19
  by_cases h20 : (inA C k).op = 20
  · exact ways_20 b off c C k w hk hcc hcl hCl hr h20
  by_cases h8 : (inA C k).op = 8
  · exact ways_8 b off c C k w hk hcc hcl hCl hr h8 (ha (by omega))
  by_cases h41 : (inA C k).op = 41
  · exact ways_41 b off c C k w hk hcc hcl hCl hr h41 (ha (by omega))
  by_cases h7 : (inA C k).op = 7
  · exact ways_7 b off c C k w hk hcc hcl hCl hr h7
  by_cases h11 : (inA C k).op = 11
  · exact ways_11 b off c C k w hk hcc hcl hCl hr h11
  by_cases h12 : (inA C k).op = 12
  · exact ways_12 b off c C k w hk hcc hcl hCl hr h12
  by_cases h13 : (inA C k).op = 13
  · exact ways_13 b off c C k w hk hcc hcl hCl hr h13
  by_cases h14 : (inA C k).op = 14
  · exact ways_14 b off c C k w hk hcc hcl hCl hr h14
  by_cases h15 : (inA C k).op = 15
  · exact ways_15 b off c C k w hk hcc hcl hCl hr h15
  by_cases h40 : (inA C k).op = 40
  · exact ways_40 b off c C k w hk hcc hcl hCl hr h40
  by_cases h47 : (inA C k).op = 47
  · exact ways_47 b off c C k w hk hcc hcl hCl hr h47
  exact ways_x b off c C k w hk hcc hcl hCl hr ⟨h19, h20, h8, h41, h7, h11, h12, h13, h14, h15, h40, h47⟩
end Go.Proofs.YtjamfbpdepahnaaGreat
