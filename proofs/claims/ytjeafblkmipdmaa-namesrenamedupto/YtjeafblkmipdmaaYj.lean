/- ordered. -/
import Derived.Test.YtjeafblkmipdmaaYi
namespace Go.Proofs.Ytjeafblkmipdmaa
open Go.RowKit
set_option linter.unusedVariables false

/-- What is told, as ordered's closure has caught it. -/
def Told (w : World) (bt gt n : Nat) (S : List Nat) : Prop := Blk w bt 70 [.slice (some ⟨gt, 0, none⟩) n n] ∧ Blk w gt 4 (bits n S)
def lacks (l S : List Nat) : Bool := l.any (fun u => !decide (u ∈ S))
theorem lacks_iff (l S : List Nat) : lacks l S = false ↔ ∀ u ∈ l, u ∈ S := by simp [lacks]
set_option maxRecDepth 100000 in
set_option maxHeartbeats 4000000 in
theorem untold_any (bt gt n : Nat) (S : List Nat) (x : Nat) (w : World) (hx : x < n) (hn : n ≤ 256) (hT : Hid (Told w bt gt n S)) :
    Calls Try.prog 27 #[.int .i64 (x : Int), .pointer (some ⟨bt, 0, none⟩)] w fun e w' => e = .returned (.bool (!decide (x ∈ S))) ∧ w = w' := by
  have c0 := hT.out.1.cell 0
  have c1 := (hT.out.2.cell x).trans (bits_at _ _ x hx)
  simp at c0
  have hx' : (x : Int) < n := by omega
  generalize decide (x ∈ S) = d at *
  go_enter Try.func27, Try.ntmps27
  go_wp2
  go_ret
  exact ⟨rfl, rfl⟩
set_option maxRecDepth 100000 in
set_option maxHeartbeats 4000000 in
theorem indexU_any (bt gt n : Nat) (S : List Nat) (av : Option Addr) (cv : Nat) (l : List Nat) (w : World) (hl : l.length ≤ 10000000000000) (hln : Hid (∀ u ∈ l, u < n)) (hn : n ≤ 256) (hr : Hid (Row .i64 w av (natI l))) (hT : Hid (Told w bt gt n S)) :
    Calls Try.prog 37 #[.slice av l.length cv, .func (.func 27) #[] #[.pointer (some ⟨bt, 0, none⟩)]] w fun e w' => ∃ r : Int, e = .returned (.int .i64 r) ∧ (decide (0 ≤ r) = lacks l S) ∧ w = w' := by
  go_enter Try.func37, Try.ntmps37
  go_wp2_with fail
  go_loop [8] (fun x8 => ∃ j : Nat, j ≤ l.length ∧ x8 = .int .i64 (j : Int) ∧ Hid (∀ u ∈ l.take j, u ∈ S)) (fun x8 => l.length - (intOf x8).toNat)
  case atStart => exact ⟨0, Nat.zero_le _, rfl, hide_ (fun u h => by simp at h)⟩
  case round =>
    obtain ⟨j, hj, rfl, HA⟩ := hrel
    by_cases hlt : j < l.length
    · have hlt' : (j : Int) < l.length := by omega
      obtain ⟨b, off, rfl, hb, hc⟩ := hr.out.open (by rw [natI_len]; omega)
      have hxj : l[j]? = some (l[j]'hlt) := List.getElem?_eq_getElem hlt
      have c1 := hc j (by rw [natI_len]; exact hlt)
      rw [natI_at _ _ _ hxj] at c1
      have hxn := hln.out _ (List.getElem_mem hlt)
      have hxm : l[j]'hlt ∈ l := List.getElem_mem hlt
      have HX := hide_ hxj
      have HXM := hide_ hxm
      clear hc hxj hxm
      generalize l[j]'hlt = x at *
      cases hm : decide (x ∈ S) with
      | true =>
        have HA2 : Hid (∀ u ∈ l.take (j + 1), u ∈ S) := hide_ (fun u hu => by
          rcases take_mem HX.out hu with h | rfl
          · exact HA.out u h
          · exact of_decide_eq_true hm)
        have HCon : Hid (∀ w, Hid (Told w bt gt n S) → Calls Try.prog 27 #[.int .i64 (x : Int), .pointer (some ⟨bt, 0, none⟩)] w fun e w' => e = .returned (.bool false) ∧ w = w') := fun w h => by
          have := untold_any bt gt n S x w hxn hn h
          rw [hm] at this
          exact this
        clear hm
        go_wp2_with (go_at_call 27; refine (HCon.out _ hT).mono ?_; rintro e w' ⟨rfl, rfl⟩)
        go_round
        case rel => exact ⟨j + 1, by omega, by go_num, HA2⟩
        case measure => simp [intOf]; omega
      | false =>
        have HL : Hid (lacks l S = true) := hide_ (by
          unfold lacks
          rw [List.any_eq_true]
          exact ⟨x, HXM.out, by rw [hm]; rfl⟩)
        have HCon : Hid (∀ w, Hid (Told w bt gt n S) → Calls Try.prog 27 #[.int .i64 (x : Int), .pointer (some ⟨bt, 0, none⟩)] w fun e w' => e = .returned (.bool true) ∧ w = w') := fun w h => by
          have := untold_any bt gt n S x w hxn hn h
          rw [hm] at this
          exact this
        clear hm
        go_wp2_with (go_at_call 27; refine (HCon.out _ hT).mono ?_; rintro e w' ⟨rfl, rfl⟩)
        go_ret
        exact ⟨(j : Int), rfl, by rw [HL.out]; simp, rfl⟩
    · obtain rfl : j = l.length := by omega
      have HL : Hid (lacks l S = false) := hide_ (by rw [lacks_iff]; have h := HA.out; rw [List.take_length] at h; exact h)
      go_wp2
      go_ret
      exact ⟨-1, rfl, by rw [HL.out]; decide, rfl⟩
set_option maxRecDepth 100000 in
set_option maxHeartbeats 4000000 in
theorem contains_any (bt gt n : Nat) (S : List Nat) (av : Option Addr) (cv : Nat) (l : List Nat) (w : World) (hl : l.length ≤ 10000000000000) (hln : Hid (∀ u ∈ l, u < n)) (hn : n ≤ 256) (hr : Hid (Row .i64 w av (natI l))) (hT : Hid (Told w bt gt n S)) :
    Calls Try.prog 28 #[.slice av l.length cv, .func (.func 27) #[] #[.pointer (some ⟨bt, 0, none⟩)]] w fun e w' => e = .returned (.bool (lacks l S)) ∧ w = w' := by
  go_enter Try.func28, Try.ntmps28
  go_upto_region 1 with fail
  go_wp2_with (go_at_call 37; refine (indexU_any bt gt n S av cv l _ hl hln hn hr hT).mono ?_; rintro e w' ⟨r, rfl, hR, rfl⟩; (have HR := hide_ hR); clear hR)
  go_ret
  exact ⟨by rw [← HR.out]; rfl, rfl⟩
theorem make0 (n : Nat) (hn : n ≤ 256) (w : World) : (Instr.makeSlice 32 (.int .i64 0) (.int .i64 (n : Int))).run Try.prog w = .ok (.slice (some ⟨w.heap.size, 0, none⟩) 0 n) (w.alloc (.cells (madeCells #[.int .i64 0] n) 3)) := by
  obtain ⟨i0, hi, hz0, hz1, hz2⟩ := info_parts EInt.info
  have hb : (i0.bytes : Int) * (n : Int) ≤ 281474976710656 := by rw [hz2]; omega
  have hr := run_make (P := Try.prog) w 32 3 i0 (.int .i64 0) EInt.sl hi hz0 .i64 .i64 0 n (by omega) (by omega) hb (by omega)
  rw [Int.toNat_natCast, hz1, Nat.mul_one] at hr
  exact hr
theorem Told.upd {w w' : World} {bt gt n : Nat} {S : List Nat} {P : Nat → Prop} (h : Told w bt gt n S) (hu : Upd P w w') (h1 : ¬ P bt) (h2 : ¬ P gt) : Told w' bt gt n S := ⟨h.1.upd hu h1, h.2.upd hu h2⟩
set_option maxRecDepth 100000 in
set_option maxHeartbeats 8000000 in
theorem ordered_any (gU B : Nat) (vs : List Value) (U : List (List Nat)) (w : World) (hU : U.length ≤ 256) (hR : Hid (Rng U)) (hA : Hid (Acy U)) (hsm : Hid (∀ a, (us U a).length ≤ 10000000000000)) (hr : Hid (URow w B gU vs U)) :
    Calls Try.prog 21 #[.slice (some ⟨gU, 0, none⟩) U.length U.length] w fun e w' => ∃ (g cap : Nat) (ys : List Value) (o : List Nat), e = .returned (.slice (some ⟨g, 0, none⟩) o.length cap) ∧ w.heap.size ≤ g ∧ Hid (Ordr U o) ∧ Hid (o.length = U.length) ∧ Hid (Stck w' g cap (natI o) ys) ∧ Hid (Below w.heap.size w w') := by
  have hmf : ∀ (fn : Fn) (first cap : Array Value) (w : World), (Instr.makeFunc fn first cap).run Try.prog w = .ok (.func fn first cap) w := fun _ _ _ _ => rfl
  have hmk1 := make0 U.length hU
  have hmk2 := run_make_row' (P := Try.prog) 70 4 (.bool false) 1 Try.underlying70 (by kernel_rfl) rfl .i64 .i64 U.length (by omega) (by omega)
  obtain ⟨w1, hw1⟩ : ∃ w1, w1 = w.alloc (.cells (madeCells #[.int .i64 0] U.length) 3) := ⟨_, rfl⟩
  have HB1 : Hid (Below w.heap.size w w1) := by rw [hw1]; exact (Below.refl _ _).alloc (Nat.le_refl _) _
  have k1 : Blk w1 w.heap.size 3 (List.replicate U.length (.int .i64 0)) := by
    have h := Blk.newA w (madeCells #[.int .i64 0] U.length) 3
    rw [toList_madeCells_one, ← hw1] at h
    exact h
  have hz1 : w1.heap.size = w.heap.size + 1 := by rw [hw1]; simp
  obtain ⟨w2, hw2⟩ : ∃ w2, w2 = (w1.alloc (.cells (madeCells #[.bool false] U.length) 4)).alloc (.cells #[.slice (some ⟨w1.heap.size, 0, none⟩) U.length U.length] 70) := ⟨_, rfl⟩
  have hB2 : Below w1.heap.size w1 w2 := by rw [hw2]; exact ((Below.refl _ _).alloc (Nat.le_refl _) _).alloc (by simp) _
  have HB2 := hide_ (below_to HB1.out hB2)
  have HS2 : Hid (Stck w2 w.heap.size U.length (natI []) (List.replicate U.length (.int .i64 0))) := hide_ ⟨k1.later hB2, by simp, by simp [natI], by unfold maxLen; omega, rfl⟩
  have HT2 : Hid (Told w2 (w1.heap.size + 1) w1.heap.size U.length []) := hide_ (by
    constructor
    · have h := Blk.newA (w1.alloc (.cells (madeCells #[.bool false] U.length) 4)) #[.slice (some ⟨w1.heap.size, 0, none⟩) U.length U.length] 70
      rw [← hw2, World.size_alloc] at h
      exact h
    · have h := (Blk.newA w1 (madeCells #[.bool false] U.length) 4).alloc (.cells #[.slice (some ⟨w1.heap.size, 0, none⟩) U.length U.length] 70)
      rw [toList_madeCells_one, ← hw2] at h
      rw [bits_nil]
      exact h)
  have HZ1 := hide_ hz1
  clear k1 hB2 hz1
  go_enter Try.func21, Try.ntmps21
  go_upto_region 2 with fail
  rw [← hw1]
  clear hw1 hmk1
  go_upto_region 3 with fail
  rw [← hw2]
  clear hw2 hmk2
  go_wp2_with fail
  clear hmf
  go_loopw [3, 16] (fun x3 x16 wr => ∃ (i : Nat) (o : List Nat) (g cap : Nat) (ys : List Value), i ≤ U.length ∧ x3 = .slice (some ⟨g, 0, none⟩) o.length cap ∧ x16 = .int .i64 (i : Int) ∧ w.heap.size ≤ g ∧ Hid (o.length = i) ∧ Hid (Ordr U o) ∧ Hid (Stck wr g cap (natI o) ys) ∧ Hid (Told wr (w1.heap.size + 1) w1.heap.size U.length o) ∧ Hid (Below w.heap.size w wr)) (fun _ x16 _ => U.length - (intOf x16).toNat)
  case atStart => exact ⟨0, [], w.heap.size, U.length, _, Nat.zero_le _, rfl, rfl, Nat.le_refl _, hide_ rfl, hide_ (Ordr.nil U), HS2, HT2, HB2⟩
  case round =>
    obtain ⟨i, o, g, cap, ys, hi, rfl, rfl, hg, HOl, HO, HS, HT, HB⟩ := hrel
    generalize wr = wq at *
    clear HS2 HT2 HB2 HB1
    by_cases hlt : i < U.length
    · have hlt' : (i : Int) < U.length := by omega
      have HUq := hide_ (hr.out.later HB.out)
      obtain ⟨n0, hn1, hn2⟩ := HO.out.next hR.out hA.out (by rw [HOl.out]; exact hlt)
      obtain ⟨n, hn3, hn4, hn5⟩ := least (p := fun n => Rdy U o n) n0 hn2
      have hnl : n < U.length := by omega
      have HN4 := hide_ hn4
      have HN5 := hide_ hn5
      clear hn1 hn2 hn3 hn4 hn5
      go_wp2_with fail
      go_loop [6] (fun x6 => ∃ m : Nat, m ≤ n ∧ x6 = .int .i64 (m : Int)) (fun x6 => U.length - (intOf x6).toNat)
      case atStart => exact ⟨0, Nat.zero_le _, rfl⟩
      case round =>
        obtain ⟨m, hm, rfl⟩ := hrel
        have hml : m < U.length := by omega
        have hml' : (m : Int) < U.length := by omega
        obtain ⟨av, cv, hv⟩ := HUq.out.at hml
        obtain ⟨-, hrow⟩ := HUq.out.rowAt hml hv
        have HR1 := hide_ hrow
        have c0 := HT.out.1.cell 0
        have c1 := (HT.out.2.cell m).trans (bits_at _ _ m hml)
        have c2 := HUq.out.1.cell m
        rw [hv] at c2
        simp at c0
        have hlen := hsm.out m
        have HCon := hide_ (contains_any (w1.heap.size + 1) w1.heap.size U.length o av cv (us U m) wq hlen (hide_ (fun u hu => hR.out m u hu)) hU HR1 HT)
        clear hv hrow
        by_cases hmn : m = n
        · subst hmn
          have h1 : decide (m ∈ o) = false := decide_eq_false HN4.out.1
          have h2 : lacks (us U m) o = false := (lacks_iff _ _).2 HN4.out.2
          rw [h1] at c1
          rw [h2] at HCon
          have d1 := HT.out.2.frozen m
          have HT1 : Hid (Told (wq.setCell ⟨w1.heap.size, m, none⟩ (.bool true)) (w1.heap.size + 1) w1.heap.size U.length (o ++ [m])) := hide_ ⟨HT.out.1.other _ _ (by show w1.heap.size + 1 ≠ w1.heap.size; omega), by rw [← bits_set _ _ _ hml]; exact HT.out.2.set m _⟩
          have u1 : Upd (fun k => k = w1.heap.size) wq (wq.setCell ⟨w1.heap.size, m, none⟩ (.bool true)) := (Upd.refl _ _).set _ _ (.inl rfl)
          have HS1 := hide_ (HS.out.upd u1 (fun e => absurd (blk_type HS.out.1 (e ▸ HT.out.2)) (by decide)))
          have HBv := hide_ (HB.out.trans (u1.below w.heap.size HB.out.size (fun k hk => by have := HZ1.out; omega)))
          obtain ⟨wv, hwv⟩ : ∃ wv, wv = wq.setCell ⟨w1.heap.size, m, none⟩ (.bool true) := ⟨_, rfl⟩
          rw [← hwv] at HT1 HS1 HBv
          have hol : (natI o).length ≤ 10000000000000 := by rw [natI_len, HOl.out]; omega
          obtain ⟨ga, ca, ya, wa, r1, s1, u2, c3⟩ := HS1.out.push (m : Int) hol
          have e3 : natI o ++ [(m : Int)] = natI (o ++ [m]) := by simp [natI]
          rw [e3] at s1
          rw [natI_len] at r1
          have HRa : Hid ((Builtin.append_ #[32, 32] 32 #[.slice (some ⟨g, 0, none⟩) o.length cap, .slice (some ⟨wv.heap.size, 0, none⟩) 1 1]).run Try.prog (wv.alloc (.cells #[.int .i64 (m : Int)] 3)) = .ok (.slice (some ⟨ga, 0, none⟩) (o ++ [m]).length ca) wa) := hide_ (by rw [List.length_append, List.length_singleton]; exact r1)
          have HSa := hide_ s1
          have HTa := hide_ (HT1.out.upd u2 (fun e => absurd (blk_type HS1.out.1 (e ▸ HT1.out.1)) (by decide)) (fun e => absurd (blk_type HS1.out.1 (e ▸ HT1.out.2)) (by decide)))
          have HBa := hide_ (HBv.out.trans (u2.below w.heap.size HBv.out.size (fun k hk => by omega)))
          have HOa := hide_ (HO.out.snoc hml HN4.out (fun q hq => HN5.out q hq))
          have hga : w.heap.size ≤ ga := by
            have := HBv.out.size
            rcases c3 with h | h <;> omega
          have HOla : Hid ((o ++ [m]).length = i + 1) := hide_ (by rw [List.length_append, List.length_singleton, HOl.out])
          clear r1 s1 u1 u2 c3 e3 h1 h2 HS HS1 HT1 HBv
          obtain ⟨oo, hoo⟩ : ∃ oo, o ++ [m] = oo := ⟨_, rfl⟩
          rw [hoo] at HRa HSa HTa HOa HOla
          clear hoo
          go_upto_region 10 with (go_at_call 28; refine HCon.out.mono ?_; rintro e w' ⟨rfl, rfl⟩)
          rw [← hwv]
          clear hwv c0 c1 c2 d1
          go_wp2_with (first
            | (at_builtin; refine wpList_append_run rfl (.tmp 35) (.tmp 37) 32 32 rfl rfl rfl HRa.out ?_; clear HRa))
          go_roundw
          case rel => exact ⟨i + 1, oo, ga, ca, ya, by omega, rfl, by go_num, hga, HOla, HOa, HSa, HTa, HBa⟩
          case measure => simp [intOf]; omega
        · have hmn' : m < n := by omega
          have hnr := HN5.out m hmn'
          cases h1 : decide (m ∈ o) with
          | true =>
            rw [h1] at c1
            clear h1 hnr
            go_wp2_with fail
            go_round
            case rel => exact ⟨m + 1, by omega, by go_num⟩
            case measure => simp [intOf]; omega
          | false =>
            rw [h1] at c1
            have h2 : lacks (us U m) o = true := by
              cases e : lacks (us U m) o with
              | true => rfl
              | false => exact absurd ⟨of_decide_eq_false h1, (lacks_iff _ _).1 e⟩ hnr
            rw [h2] at HCon
            clear h1 h2 hnr
            go_wp2_with (go_at_call 28; refine HCon.out.mono ?_; rintro e w' ⟨rfl, rfl⟩)
            go_round
            case rel => exact ⟨m + 1, by omega, by go_num⟩
            case measure => simp [intOf]; omega
    · obtain rfl : i = U.length := by omega
      go_wp2
      go_ret
      exact ⟨g, cap, ys, o, rfl, hg, HO, HOl, HS, HB⟩
end Go.Proofs.Ytjeafblkmipdmaa
