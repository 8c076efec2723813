/- VarintBytes' walk. -/
import Derived.Test.YtgeabhnfkkkbgaaJ
namespace Go.Proofs.Ytgeabhnfkkkbgaa
open Go.RowKit
set_option linter.unusedVariables false

/-- What was taken goes on. -/
theorem good_tk {l : List Int} {k : Nat} (h : Good l k) (hb : Bys l) : TkS (l.take k, false) := by
  have hl : (l.take k).length = k := by have := h.2.1; simp; omega
  refine ⟨⟨hb.take k, by simp only; rw [hl]; have := h.1; omega, fun h10 => ?_⟩, fun _ => ?_⟩
  · simp only [hl] at h10; have := h.1; omega
  · simp only [hl]
    exact ⟨h.1, by omega, fun j hj => by rw [getD_take _ _ _ hj]; exact h.2.2 j hj⟩
theorem good_flt {l : List Int} {k : Nat} (h : Good l (k + 1)) : flt k (l.getD k 0) = false := by
  rw [flt_no]
  have := h.2.2 k (by omega)
  have := h.1
  omega
theorem good_ld (l : List Int) : ∀ (k j : Nat), Good l (j + k) → ldS (l.take j, false) ((l.drop j).take k) = ((l.take (j + k), false), 0)
  | 0, j, h => by simp [ldS_nil]
  | k + 1, j, h => by
    have hj : j < l.length := by have := h.2.1; omega
    have hl : (l.take j).length = j := by simp; omega
    have hg : Good l (j + 1) := h.le (by omega)
    have hf := good_flt hg
    have h128 := hg.2.2 j (by omega)
    rw [drop_cons l j hj, List.take_succ_cons, ldS_go _ _ _ (by simp only [errS, hl, hf, Bool.false_eq_true, if_false])]
    have e : nextS (l.take j, false) (l.getD j 0) = (l.take (j + 1), false) := by
      simp only [nextS, hl, hf, Bool.false_eq_true, if_false]
      rw [take_snoc l j hj, decide_eq_false (by omega)]
    rw [e, good_ld l k (j + 1) (by rw [show j + 1 + k = j + (k + 1) from by omega]; exact h), show j + 1 + k = j + (k + 1) from by omega]
theorem good_load {l : List Int} {k : Nat} (h : Good l k) : ldS ([], false) (l.take k) = ((l.take k, false), 0) := by
  have := good_ld l k 0 (by rw [Nat.zero_add]; exact h)
  simpa using this
/-- Load of bytes that go on. -/
theorem load_good (a : Option Addr) (m cap : Nat) (l : List Int) (w : World) (hl : l.length = m) (hm : m ≤ maxLen) (hrow : Row .u8 w a l) (hb : Bys l) (hg : ldS ([], false) l = ((l, false), 0)) :
    Calls Try.prog 15 #[.slice a m cap] w fun e w' => ∃ b, e = .returned (.tuple #[.pointer (some ⟨b, 0, none⟩), .int .i64 0]) ∧ w.heap.size ≤ b ∧ Hid (Rdr w' b l false) ∧ Below w.heap.size w w' := by
  refine (load_any a m cap l w hl hm hrow hb).mono ?_
  rintro e w' ⟨hB, ⟨b, st, h1, rfl, h2, h3, h4⟩ | ⟨st, r, h1, h2, rfl⟩⟩
  · rw [hg] at h1
    injection h1 with h1 _
    subst h1
    exact ⟨b, rfl, h2, h3, hB⟩
  · rw [hg] at h1
    injection h1 with _ h1
    exact absurd h1.symm h2
theorem read_at (b : Nat) (l : List Int) (ov : Bool) (w : World) (m : Nat) (hlm : l.length = m) (h : Rdr w b l ov) (hl : m ≤ 10) :
    Calls Try.prog 16 #[.pointer (some ⟨b, 0, none⟩)] w fun e w' => ∃ g, e = .returned (.slice (some ⟨g, 0, none⟩) m m) ∧ w.heap.size ≤ g ∧ Hid (Blk w' g 5 (cellsL .u8 l)) ∧ Below w.heap.size w w' := by
  subst hlm
  exact read_any b l ov w h hl
theorem byte_to (b : Nat) (l : List Int) (ov : Bool) (c : Int) (w : World) (d : Bool) (r : Int) (l' : List Int) (ov' : Bool) (hd : doneS (l, ov) c = d) (hr : errS (l, ov) c = r) (hs : nextS (l, ov) c = (l', ov')) (h : Rdr w b l ov) (ht : TkS (l, ov)) :
    Calls Try.prog 18 #[.pointer (some ⟨b, 0, none⟩), .int .u8 c] w fun e w' => e = .returned (.tuple #[.bool d, .int .i64 r]) ∧ Hid (Rdr w' b l' ov') ∧ Upd (fun k => k = b) w w' := by
  refine (byte_at b (l, ov) c w d r (l', ov') hd hr hs h ht).mono ?_
  rintro e w' ⟨rfl, h1, -, h3⟩
  exact ⟨rfl, h1, h3⟩
set_option maxHeartbeats 4000000 in
set_option maxRecDepth 100000 in
theorem bytes_any (a : Option Addr) (len cap : Nat) (l : List Int) (cut : Int) (w : World) (hl : Hid (l.length = len)) (hlc : len ≤ cap) (hcm : cap ≤ maxLen) (hrow : Hid (Row .u8 w a l)) (hby : Hid (Bys l)) (hc1 : -9223372036854775808 ≤ cut) (hc2 : cut ≤ 9223372036854775807) :
    Calls Try.prog 4 #[.slice a len cap, .int .i64 cut] w fun e w' => e = .returned (.bool true) ∧ Below w.heap.size w w' := by
  unfold maxLen at hcm
  go_enter Try.func4, Try.ntmps4
  go_wp2_with fail
  refine (awake_any _).mono ?_; rintro e w1 ⟨rfl, hB1⟩
  go_wp2_with fail
  refine (get_any a len cap l _ hl.out (by unfold maxLen; omega) (hrow.out.later hB1) hby.out).mono ?_; rintro e w' ⟨n, u, r, HX, rfl, rfl⟩
  have HX : Hid (GetR l n u r) := HX
  go_wp2_with fail
  refine (new_any _).mono ?_; rintro e w2 ⟨b0, rfl, hb0, HR2, hB2⟩
  have HR2 : Hid (Rdr w2 b0 [] false) := HR2
  have hb0' : w.heap.size ≤ b0 := Nat.le_trans hB1.size hb0
  have hBw2 := below_to hB1 hB2
  clear hB1 hB2 hb0
  go_wp2_with fail
  --1
  go_loopw [8, 9] (fun p i wr => ∃ (k b : Nat), k ≤ len ∧ i = .int .i64 k ∧ p = .pointer (some ⟨b, 0, none⟩) ∧ Hid (Good l k) ∧ Hid (Rdr wr b (l.take k) false) ∧ w.heap.size ≤ b ∧ Below w.heap.size w wr) (fun _ i _ => len - (intOf i).toNat)
  case atStart => exact ⟨0, b0, Nat.zero_le _, rfl, rfl, Good.zero l, HR2, hb0', hBw2⟩
  case round =>
    clear HR2 hb0' hBw2
    obtain ⟨k, b, hk, rfl, rfl, HG, HRd, hbw, hBk⟩ := hrel
    have hk9 := HG.out.1
    have HLk : Hid ((l.take k).length = k) := by show _ = _; have := HG.out.2.1; simp; omega
    have HTk : Hid (TkS (l.take k, false)) := good_tk HG.out hby.out
    by_cases hlt : k < len
    · have hlt' : (k : Int) < len := by omega
      have hk12 : (k : Int) < 12 := by omega
      have hwo : ∃ wo : World, wo = wr := ⟨_, rfl⟩
      go_upto_region 10 with fail
      go_cut [46] (fun c wx => ∃ d, c = .bool d ∧ wx = wr)
      case first =>
        by_cases h0 : 0 ≤ cut
        · go_wp2_with fail
          go_meet
          case rel => exact ⟨_, rfl, rfl⟩
        · go_wp2_with fail
          go_meet
          case rel => exact ⟨_, rfl, rfl⟩
      case rest =>
      obtain ⟨d, rfl, rfl⟩ := hcut
      go_upto_if 46 with fail
      --2
      go_cut [8] (fun p wc => ∃ b', p = .pointer (some ⟨b', 0, none⟩) ∧ w.heap.size ≤ b' ∧ Hid (Rdr wc b' (l.take k) false) ∧ Below w.heap.size w wc)
      case first =>
        cases d with
        | false =>
          go_wp2_with fail
          go_meet
          case rel => exact ⟨b, rfl, hbw, HRd, hBk⟩
        | true =>
          go_wp2_with fail
          refine (read_at b (l.take k) false _ k HLk.out HRd.out (by omega)).mono ?_; rintro e w5 ⟨g, rfl, hg, HK5, hB5⟩
          have HR5 : Hid (Rdr w5 b (l.take k) false) := HRd.out.later hB5
          have hBw5 := below_to hBk hB5
          go_wp2_with fail
          refine (load_good _ k k (l.take k) _ HLk.out (by unfold maxLen; omega) HK5.out.row (hby.out.take k) (good_load HG.out)).mono ?_; rintro e w6 ⟨b', rfl, hb', HR6, hB6⟩
          have HR56 : Hid (Rdr w6 b (l.take k) false) := HR5.out.later hB6
          have hBw6 := below_to hBw5 hB6
          have hb6 : w.heap.size ≤ b' := Nat.le_trans hBw5.size hb'
          clear HRd HR5 hB5 hB6 HK5 hg hb' hBw5
          obtain ⟨v, hv⟩ : ∃ v, val (l.take k) = v := ⟨_, rfl⟩
          go_wp2_with fail
          refine (num_any _ _).mono ?_; rintro e w' ⟨rfl, rfl⟩
          go_wp2_with fail
          refine (n_any b' (l.take k) false _ HR6.out HTk.out.1).mono ?_; rintro e w7 ⟨rfl, hw7⟩
          have HR7 : Hid (Rdr w7 b' (l.take k) false) := by rw [← hw7]; exact HR6.out.drew
          have HR57 : Hid (Rdr w7 b (l.take k) false) := by rw [← hw7]; exact HR56.out.drew
          have hBw7 : Below w.heap.size w w7 := by rw [← hw7]; exact hBw6.drew
          clear hw7 HR6 HR56 hBw6
          go_wp2_with fail
          refine (n_any b (l.take k) false _ HR57.out HTk.out.1).mono ?_; rintro e w8 ⟨rfl, hw8⟩
          have HR8 : Hid (Rdr w8 b' (l.take k) false) := by rw [← hw8]; exact HR7.out.drew
          have hBw8 : Below w.heap.size w w8 := by rw [← hw8]; exact hBw7.drew
          clear hw8 HR7 HR57 hBw7
          rw [hv]
          clear hv
          go_wp2_with fail
          go_meet
          case rel => exact ⟨b', rfl, hb6, HR8, hBw8⟩
      case rest =>
        clear HRd hBk hbw
        obtain ⟨b', rfl, hbw, HRd, hBk⟩ := hcut
        --3
        obtain ⟨bb, off, rfl, hbb, hcs⟩ := hrow.out.open (by have := hl.out; omega)
        have hc := hcs k (by have := hl.out; omega)
        rw [← hBk.cell (p := ⟨bb, off + k, none⟩) hbb] at hc
        clear hcs
        have hbc := hby.out.at k
        have hkl : k < l.length := by have := hl.out; omega
        have HC : Hid (∃ c, c = l.getD k 0) := ⟨_, rfl⟩
        obtain ⟨c, hcE⟩ := HC.out
        have HCE : Hid (c = l.getD k 0) := hcE
        rw [← hcE] at hc hbc
        clear hcE HC
        obtain ⟨hc0, hc255⟩ := hbc
        by_cases hf : flt k c = true
        · --A
          obtain ⟨e1, e2, e3⟩ := HX.out.det (.inr (.inl ⟨k, hkl, HG.out, by rw [← HCE.out]; exact hf, rfl, rfl, rfl⟩))
          subst e1 e2 e3
          have HT2 : Hid (TkS (l.take u, true)) := ⟨HTk.out.1, fun h => by cases h⟩
          go_wp2_with fail
          refine (byte_to b' (l.take u) false c _ false 21 (l.take u) true (by simp [doneS, HLk.out, hf]) (by simp [errS, HLk.out, hf]) (by simp [nextS, HLk.out, hf]) HRd.out HTk.out).mono ?_; rintro e w6 ⟨rfl, HR6, hU6⟩
          have hBw6 : Below w.heap.size w w6 := hBk.trans (hU6.below _ hBk.size (fun k h => by subst h; exact hbw))
          clear HRd hU6 hBk hc
          go_wp2_with fail
          refine (num_any _ _).mono ?_; rintro e w' ⟨rfl, rfl⟩
          go_wp2_with fail
          refine (byte_to b' (l.take u) true 0 _ false 30 (l.take u) true (by simp [doneS]) (by simp [errS]) (by simp [nextS]) HR6.out HT2.out).mono ?_; rintro e w7 ⟨rfl, HR7, hU7⟩
          have hBw7 : Below w.heap.size w w7 := hBw6.trans (hU7.below _ hBw6.size (fun k h => by subst h; exact hbw))
          clear HR6 hU7 hBw6
          go_wp2_with fail
          refine (num_any _ _).mono ?_; rintro e w' ⟨rfl, rfl⟩
          go_wp2_with fail
          refine (num_any _ _).mono ?_; rintro e w' ⟨rfl, rfl⟩
          go_wp2_with fail
          refine (read_at b' (l.take u) true _ u HLk.out HR7.out (by omega)).mono ?_; rintro e w8 ⟨g8, rfl, -, -, hB8⟩
          go_wp2
          go_ret
          exact ⟨rfl, below_to hBw7 hB8⟩
        · have hf' : flt k c = false := by simpa using hf
          by_cases h128 : c < 128
          · --B
            obtain ⟨e1, e2, e3⟩ := HX.out.det (.inr (.inr ⟨k, hkl, HG.out, by rw [← HCE.out]; exact hf', by rw [← HCE.out]; exact h128, rfl, rfl, rfl⟩))
            subst e1 e2 e3
            have HN : Hid (nextS (l.take k, false) c = (l.take (k + 1), true)) := by
              show _ = _
              rw [take_snoc l k hkl, ← HCE.out]
              simp [nextS, HLk.out, hf', h128]
            have HT2 : Hid (TkS (l.take (k + 1), true)) := by
              have := HTk.out.next c hc0 hc255
              rw [HN.out] at this
              exact this
            have HL2 : Hid ((l.take (k + 1)).length = k + 1) := by show _ = _; simp; omega
            have hd : decide (c < 128) = true := decide_eq_true h128
            go_wp2_with fail
            refine (byte_to b' (l.take k) false c _ true 0 (l.take (k + 1)) true (by simp [doneS, HLk.out, hf', hd]) (by simp [errS, HLk.out, hf']) HN.out HRd.out HTk.out).mono ?_; rintro e w6 ⟨rfl, HR6, hU6⟩
            have hBw6 : Below w.heap.size w w6 := hBk.trans (hU6.below _ hBk.size (fun k h => by subst h; exact hbw))
            have hc6 : w6.cell? ⟨bb, off + k, none⟩ = some (.int .u8 c) := by
              rw [← hc]
              exact World.cell?_of_block (w := wc) (hU6.block bb (Nat.lt_of_lt_of_le hbb hBk.size) (by omega))
            clear HRd hU6 hBk hc
            go_wp2_with fail
            refine (num_any _ _).mono ?_; rintro e w' ⟨rfl, rfl⟩
            go_wp2_with fail
            refine (num_any _ _).mono ?_; rintro e w' ⟨rfl, rfl⟩
            go_wp2_with fail
            refine (byte_to b' (l.take (k + 1)) true c _ false 30 (l.take (k + 1)) true (by simp [doneS]) (by simp [errS]) (by simp [nextS]) HR6.out HT2.out).mono ?_; rintro e w7 ⟨rfl, HR7, hU7⟩
            have hBw7 : Below w.heap.size w w7 := hBw6.trans (hU7.below _ hBw6.size (fun k h => by subst h; exact hbw))
            clear HR6 hU7 hBw6 hc6
            --4
            obtain ⟨q, hq⟩ : ∃ q, q = k + 1 := ⟨_, rfl⟩
            have hqi : (k : Int) + 1 = (q : Int) := by omega
            have hq0 : (0 : Int) ≤ (q : Int) := by omega
            have hql : (q : Int) ≤ len := by omega
            have hqc : (q : Int) ≤ cap := by omega
            have hwq : IntKind.i64.wrap (q : Int) = (q : Int) := by rw [IntKind.wrap_i64]; omega
            have hq10 : q ≤ 10 := by omega
            rw [← hq] at HT2 HL2 HR7 HN ⊢
            obtain ⟨v, hv⟩ : ∃ v, Hid (val (l.take q) = v) := ⟨_, rfl⟩
            rw [hv.out]
            have hB0 := Below.refl w7.heap.size w7
            have HRL : Hid (Row .u8 w7 (some ⟨bb, off, none⟩) (l.take q)) := (hrow.out.later hBw7).take q
            clear hq hlt hlt' hk12 HN HCE HG HTk HLk hk9 hk hkl h128 hd hf hf'
            go_wp2_with fail
            go_region_held3 (fun w' => Below w7.heap.size w7 w') (first | assumption | exact hB0.drew | exact Below.drew (by assumption))
              (first
                | (go_at_call 12; refine (num_any _ _).mono ?_; rintro e w' ⟨rfl, rfl⟩)
                | (go_at_call 17; refine (n_any b' (l.take q) true _ (HR7.out.later (by assumption)) HT2.out.1).mono ?_; rintro e w9 ⟨rfl, hw9⟩; subst hw9; rw [hv.out])
                | (go_at_call 16; refine (read_at b' (l.take q) true _ q HL2.out (HR7.out.later (by assumption)) hq10).mono ?_; rintro e w8 ⟨g8, rfl, hg8, HK8, hB8⟩; have hB78 := below_to (by assumption) hB8)
                | (go_at_call 13; refine (same_yes _ q _ _ q _ (l.take q) _ HL2.out HL2.out (HK8.out.row) (HRL.out.later (by assumption))).mono ?_; rintro e w' ⟨rfl, rfl⟩))
            all_goals
              go_wp2
              go_ret
              exact ⟨rfl, below_to hBw7 (by assumption)⟩
          · --C
            have hc128 : 128 ≤ c := by omega
            have HG2 : Hid (Good l (k + 1)) := HG.out.next hkl (by rw [← HCE.out]; exact hf') (by rw [← HCE.out]; exact hc128)
            have HN : Hid (nextS (l.take k, false) c = (l.take (k + 1), false)) := by
              show _ = _
              rw [take_snoc l k hkl, ← HCE.out]
              simp [nextS, HLk.out, hf', hc128]
            have hd : decide (c < 128) = false := decide_eq_false h128
            have hru : r = 20 ∨ (r = 21 ∧ k + 1 ≤ u) ∨ (r = 0 ∧ k + 2 ≤ u) := by
              rcases HX.out with ⟨_, _, _, h⟩ | ⟨k', h0, h1, h2, _, h3, h⟩ | ⟨k', h0, h1, h2, h2', _, h3, h⟩
              · exact .inl h
              · refine .inr (.inl ⟨h, ?_⟩)
                rcases Nat.lt_or_ge k' (k + 1) with hh | hh
                · have := good_flt (HG2.out.le (i := k' + 1) (by omega))
                  rw [this] at h2; cases h2
                · omega
              · refine .inr (.inr ⟨h, ?_⟩)
                rcases Nat.lt_or_ge k' (k + 1) with hh | hh
                · have := HG2.out.2.2 k' hh
                  omega
                · omega
            go_wp2_with fail
            refine (byte_to b' (l.take k) false c _ false 0 (l.take (k + 1)) false (by simp [doneS, HLk.out, hf', hd]) (by simp [errS, HLk.out, hf']) HN.out HRd.out HTk.out).mono ?_; rintro e w6 ⟨rfl, HR6, hU6⟩
            have hBw6 : Below w.heap.size w w6 := hBk.trans (hU6.below _ hBk.size (fun k h => by subst h; exact hbw))
            clear HRd hU6 hBk hc
            --5
            rcases hru with rfl | ⟨rfl, hu⟩ | ⟨rfl, hu⟩
            · go_wp2_with (go_at_call 12; refine (num_any _ _).mono ?_; rintro e w' ⟨rfl, rfl⟩)
              go_roundw
              case rel => exact ⟨k + 1, b', by omega, by go_num, rfl, HG2, HR6, hbw, hBw6⟩
              case measure => simp [intOf]; omega
            · have hne : ¬ (k : Int) = u := by omega
              have hne2 : ((k : Int) == u) = false := by simpa using hne
              go_wp2_with (go_at_call 12; refine (num_any _ _).mono ?_; rintro e w' ⟨rfl, rfl⟩)
              go_roundw
              case rel => exact ⟨k + 1, b', by omega, by go_num, rfl, HG2, HR6, hbw, hBw6⟩
              case measure => simp [intOf]; omega
            · have hne : ¬ (k : Int) + 1 ≥ u := by omega
              go_wp2_with (go_at_call 12; refine (num_any _ _).mono ?_; rintro e w' ⟨rfl, rfl⟩)
              go_roundw
              case rel => exact ⟨k + 1, b', by omega, by go_num, rfl, HG2, HR6, hbw, hBw6⟩
              case measure => simp [intOf]; omega
    · --D
      have hkl : k = len := by omega
      subst hkl
      have hkl := hl.out
      obtain ⟨e1, e2, e3⟩ := HX.out.det (.inl ⟨by rw [hkl]; exact HG.out, rfl, rfl, rfl⟩)
      rw [hkl] at e2
      subst e1 e2 e3
      have HR : Hid (Rdr wr b l false) := by have h := HRd.out; rw [← hkl, List.take_length] at h; exact h
      go_wp2_with fail
      refine (num_any _ _).mono ?_; rintro e w' ⟨rfl, rfl⟩
      go_wp2_with fail
      refine (read_at b l false _ u hl.out HR.out (by omega)).mono ?_; rintro e w8 ⟨g8, rfl, hg8, HK8, hB8⟩
      have hBw8 := below_to hBk hB8
      go_wp2_with fail
      refine (same_yes _ u _ _ u _ l _ hl.out hl.out (HK8.out.row) (hrow.out.later hBw8)).mono ?_; rintro e w' ⟨rfl, rfl⟩
      go_wp2
      go_ret
      exact ⟨rfl, hBw8⟩
end Go.Proofs.Ytgeabhnfkkkbgaa
