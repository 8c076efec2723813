import Derived.Test.YtbfmoiaedopeiaaDoorPart17
import Derived.Test.YtbfmoiaedopeiaaDoorPart14
import Derived.Test.YtbfmoiaedopeiaaDoorPart12

/- awake. -/
namespace Go.Proofs.YtbfmoiaedopeiaaDoor
open Go.RowKit
set_option linter.unusedVariables false

theorem bldA1 (w : World) : (Instr.build 35 #[(0, .int .i64 5), (1, .int .i64 3), (5, .int .i64 1)]).run Tryd.prog w = .ok (.agg #[.int .i64 5, .int .i64 3, .string ⟨#[]⟩, .string ⟨#[]⟩, .int .i64 0, .int .i64 1, .int .i64 0]) w := by kernel_rfl
theorem bldA2 (w : World) : (Instr.build 35 #[(0, .int .i64 1), (1, .int .i64 2)]).run Tryd.prog w = .ok (.agg #[.int .i64 1, .int .i64 2, .string ⟨#[]⟩, .string ⟨#[]⟩, .int .i64 0, .int .i64 0, .int .i64 0]) w := by kernel_rfl
theorem bldA3 (g : Nat) (w : World) : (Instr.build 33 #[(0, .string ⟨#[97]⟩), (2, .slice (some ⟨g, 0, none⟩) 2 2)]).run Tryd.prog w = .ok (.agg #[.string ⟨#[97]⟩, .int .i64 0, .slice (some ⟨g, 0, none⟩) 2 2]) w := by kernel_rfl
theorem bldA4 (g : Nat) (w : World) : (Instr.build 24 #[(0, .slice (some ⟨g, 0, none⟩) 1 1)]).run Tryd.prog w = .ok (.agg #[.slice (some ⟨g, 0, none⟩) 1 1]) w := by kernel_rfl
theorem bldA5 (w : World) : (Instr.build 24 #[]).run Tryd.prog w = .ok (.agg #[.slice none 0 0]) w := by kernel_rfl
theorem drow_one {w : World} {g1 g2 vc n : Nat} {nm : ByteArray} {a : Int} {N : List Nd} (hn : N.length = n) (h2 : Blk w g2 33 [.string nm, .int .i64 a, .slice (some ⟨g1, 0, none⟩) n vc]) (h1 : Blk w g1 35 (cellsN N)) (hv : n ≤ vc) : DRow w (some ⟨g2, 0, none⟩) [⟨nm, a, N⟩] := by
  subst hn
  refine .inr ⟨g2, 0, rfl, h2.lt, fun i d hd => ?_⟩
  have hi := (List.getElem?_eq_some_iff.1 hd).1
  obtain rfl : i = 0 := by simp at hi; omega
  simp at hd
  subst hd
  refine ⟨some ⟨g1, 0, none⟩, vc, fun j hj => ?_, hv, (fun h => by cases h), .inr ⟨g1, 0, rfl, h1.lt, fun i x hx j hj => ?_⟩⟩
  · rw [h2.cell]
    have : 0 + 0 * 3 + j = j := by omega
    rw [this]
    rfl
  · rw [h1.cell, ← cellsN_at N i j x hx hj]
    congr 1
    omega
set_option maxRecDepth 100000 in
set_option maxHeartbeats 8000000 in
theorem awake_any (w : World) (ht : Hid (Tab w.heap.size w)) : Calls Tryd.prog 7 #[] w fun e w' => e = .returned (.bool true) ∧ Below w.heap.size w w' := by
  have b1 := bldA1
  have b2 := bldA2
  have b3 := bldA3
  have b4 := bldA4
  have b5 := bldA5
  obtain ⟨wA, hwA⟩ : ∃ wA, wA = ((w.alloc (.cells #[.int .i64 5, .int .i64 3, .string ⟨#[]⟩, .string ⟨#[]⟩, .int .i64 0, .int .i64 1, .int .i64 0, .int .i64 1, .int .i64 2, .string ⟨#[]⟩, .string ⟨#[]⟩, .int .i64 0, .int .i64 0, .int .i64 0] 35)).alloc (.cells #[.string ⟨#[97]⟩, .int .i64 0, .slice (some ⟨w.heap.size, 0, none⟩) 2 2] 33)).alloc (.cells #[.slice (some ⟨w.heap.size + 1, 0, none⟩) 1 1] 24) := ⟨_, rfl⟩
  have k1 : Blk wA w.heap.size 35 (cellsN nA) := by rw [hwA]; exact ((Blk.newA w _ 35).alloc _).alloc _
  have k2 : Blk wA (w.heap.size + 1) 33 [.string ⟨#[97]⟩, .int .i64 0, .slice (some ⟨w.heap.size, 0, none⟩) 2 2] := by
    rw [hwA]
    have h := (Blk.newA (w.alloc (.cells #[.int .i64 5, .int .i64 3, .string ⟨#[]⟩, .string ⟨#[]⟩, .int .i64 0, .int .i64 1, .int .i64 0, .int .i64 1, .int .i64 2, .string ⟨#[]⟩, .string ⟨#[]⟩, .int .i64 0, .int .i64 0, .int .i64 0] 35)) #[.string ⟨#[97]⟩, .int .i64 0, .slice (some ⟨w.heap.size, 0, none⟩) 2 2] 33).alloc (.cells #[.slice (some ⟨w.heap.size + 1, 0, none⟩) 1 1] 24)
    simpa using h
  have k3 : Blk wA (w.heap.size + 2) 24 [.slice (some ⟨w.heap.size + 1, 0, none⟩) 1 1] := by
    rw [hwA]
    have h := Blk.newA ((w.alloc (.cells #[.int .i64 5, .int .i64 3, .string ⟨#[]⟩, .string ⟨#[]⟩, .int .i64 0, .int .i64 1, .int .i64 0, .int .i64 1, .int .i64 2, .string ⟨#[]⟩, .string ⟨#[]⟩, .int .i64 0, .int .i64 0, .int .i64 0] 35)).alloc (.cells #[.string ⟨#[97]⟩, .int .i64 0, .slice (some ⟨w.heap.size, 0, none⟩) 2 2] 33)) #[.slice (some ⟨w.heap.size + 1, 0, none⟩) 1 1] 24
    simpa using h
  have hBA : Below w.heap.size w wA := by rw [hwA]; exact (((Below.refl _ _).alloc (Nat.le_refl _) _).alloc (by simp) _).alloc (by simp; omega) _
  have HDA := hide_ (drow_one (n := 2) rfl k2 k1 (Nat.le_refl _))
  have HL : Hid (Lens dA) := hide_ ⟨by decide, fun d hd => by obtain rfl := List.mem_singleton.1 hd; decide⟩
  have HL0 : Hid (Lens []) := hide_ ⟨by decide, fun d hd => by cases hd⟩
  have HTab := hide_ (ht.out.at hBA)
  have HK3 := hide_ k3
  have HBA := hide_ hBA
  clear k1 k2 k3 hBA ht
  have HPr := hide_ (print_any (some ⟨w.heap.size + 1, 0, none⟩) 1 1 dA wA rfl HL.out HDA HTab)
  go_enter Tryd.func7, Tryd.ntmps7
  go_upto_region 2 with fail
  rw [← hwA]
  clear hwA b1 b2 b3 b4
  have x0 := HK3.out.cell 0
  simp at x0
  go_wp2_with fail
  refine HPr.out.mono ?_; rintro e w1 ⟨X, k, rfl, HX, HB1⟩
  obtain ⟨rfl, rfl⟩ := prA HX.out
  have HK4 := hide_ (HK3.out.later HB1.out)
  have HD4 := hide_ (HDA.out.later HB1.out)
  have HBw := hide_ (HBA.out.trans (HB1.out.mono HBA.out.size))
  clear HX HK3 HDA HPr x0 HB1 HBA HTab
  have x0 := HK4.out.cell 0
  simp at x0
  unfold tA
  go_wp2_with fail
  refine (showSame_any (some ⟨w.heap.size + 1, 0, none⟩) (some ⟨w.heap.size + 1, 0, none⟩) 1 1 dA dA w1 HL.out HL.out HD4 HD4).mono ?_; rintro e w2 ⟨v, rfl, HV, HB2⟩
  obtain rfl : v = true := HV.out.2 rfl
  have HK5 := hide_ (HK4.out.later HB2.out)
  have HD5 := hide_ (HD4.out.later HB2.out)
  have HB3 := hide_ (HBw.out.trans (HB2.out.mono HBw.out.size))
  clear HV HK4 HD4 HB2 HBw x0
  have x0 := HK5.out.cell 0
  simp at x0
  go_wp2_with fail
  refine (showSame_any (some ⟨w.heap.size + 1, 0, none⟩) none 1 0 dA [] w2 HL.out HL0.out HD5 (hide_ (.inl rfl))).mono ?_; rintro e w3 ⟨v, rfl, HV, HB4⟩
  obtain rfl : v = false := Bool.eq_false_iff.2 (fun h => by have := HV.out.1 h; cases this)
  have HB5 := hide_ (HB3.out.trans (HB4.out.mono HB3.out.size))
  clear HV HK5 HD5 HB4 HB3 x0
  go_wp2
  go_ret
  exact ⟨rfl, HB5.out⟩
end Go.Proofs.YtbfmoiaedopeiaaDoor

/- ShowShortest. -/
namespace Go.Proofs.YtbfmoiaedopeiaaDoor
open Go.RowKit
set_option linter.unusedVariables false

theorem prs_none {s : ByteArray} {D : List Df} {E A : Nat} (h : prsT s = (D, E, A)) : (E ≠ 0 → D = []) ∧ (E = 0 → A = 0) := by
  unfold prsT at h
  by_cases h0 : (cutT s).2.1 = 0
  · rw [if_pos h0] at h
    unfold prsP at h
    cases hs : srcP ((cutT s).1.map core) 257 [] 0 with
    | error e =>
      rw [hs] at h
      have he : e.1 ≠ 0 := src_err0 hs
      injection h with h1 h
      injection h with h2 h3
      exact ⟨fun _ => h1.symm, fun e0 => absurd (h2.trans e0) he⟩
    | ok D0 =>
      rw [hs] at h
      injection h with h1 h
      injection h with h2 h3
      exact ⟨fun e0 => absurd h2.symm e0, fun _ => h3.symm⟩
  · rw [if_neg h0] at h
    injection h with h1 h
    injection h with h2 h3
    exact ⟨fun _ => h1.symm, fun e0 => absurd (h2.trans e0) h0⟩
theorem count_next {l : List UInt8} {i : Nat} {b : UInt8} (h : l[i]? = some b) : (l.take (i + 1)).count 32 = (l.take i).count 32 + (if b = 32 then 1 else 0) := by
  obtain ⟨hi, rfl⟩ := List.getElem?_eq_some_iff.1 h
  rw [List.take_succ_eq_append_getElem hi, List.count_append]
  congr 1
  by_cases e : l[i] = 32
  · rw [e]; rfl
  · rw [if_neg e]
    exact List.count_eq_zero.2 (fun hm => e (List.mem_singleton.1 hm).symm)
theorem u8_ne {b : UInt8} {n : Nat} (hn : n < 256) (h : b ≠ UInt8.ofNat n) : ¬ ((b.toNat : Int) = (n : Int)) := fun e => h (by
  have : b.toNat = n := by omega
  apply UInt8.toNat_inj.1
  rw [this, UInt8.toNat_ofNat']
  omega)
set_option maxRecDepth 100000 in
set_option maxHeartbeats 8000000 in
theorem short_any (s : ByteArray) (w : World) (hs : s.size ≤ 9223372036854775807) (ht : Hid (Tab w.heap.size w)) :
    Calls Tryd.prog 6 #[.string s] w fun e w' => e = .returned (.bool true) ∧ Below w.heap.size w w' := by
  have HAw := hide_ (awake_any w ht)
  obtain ⟨D, E, A, hp⟩ : ∃ D E A, prsT s = (D, E, A) := ⟨_, _, _, rfl⟩
  have Hp := hide_ hp
  have Hno := hide_ (prs_none hp)
  clear hp
  go_enter Tryd.func6, Tryd.ntmps6
  go_wp2_with fail
  refine HAw.out.mono ?_; rintro e w1 ⟨rfl, hB1⟩
  have HB1 := hide_ hB1
  clear hB1 HAw
  go_wp2_with fail
  refine (parse_is Hp.out w1).mono ?_; rintro e w3 ⟨a1, c1, vs1, rfl, hc1, HS, HD1, HB3'⟩
  have HL1 := hide_ HS.out.lens
  obtain ⟨n1, hn1⟩ : ∃ n1, D.length = n1 := ⟨_, rfl⟩
  have Hn1 := hide_ hn1
  rw [hn1] at hc1 ⊢
  have hn63 : n1 ≤ 9223372036854775807 := by rw [← hn1]; exact HL1.out.1
  obtain ⟨w4, hw4⟩ : ∃ w4, w4 = (w3.alloc (.cells #[.slice a1 n1 c1] 24)).alloc (.cells #[.int .i64 (E : Int), .int .i64 (A : Int)] 39) := ⟨_, rfl⟩
  have q1 : Blk w4 w3.heap.size 24 [.slice a1 n1 c1] := by rw [hw4]; exact (Blk.newA w3 #[.slice a1 n1 c1] 24).alloc _
  have q2 : Blk w4 (w3.heap.size + 1) 39 [.int .i64 (E : Int), .int .i64 (A : Int)] := by rw [hw4]; have h := Blk.newA (w3.alloc (.cells #[.slice a1 n1 c1] 24)) #[.int .i64 (E : Int), .int .i64 (A : Int)] 39; simpa using h
  have hB4 : Below w3.heap.size w3 w4 := by rw [hw4]; exact below2 w3 _ _
  have HB4 := hide_ (HB1.out.trans ((HB3'.out.trans (hB4.mono HB3'.out.size)).mono HB1.out.size))
  have HD4 := hide_ (HD1.out.1.later hB4)
  have HQ1 := hide_ q1
  have HQ2 := hide_ q2
  clear q1 q2 hB4 HB3' HD1 HS HB1 hn1 hc1 vs1
  go_upto_region 4 with fail
  rw [← hw4]
  clear hw4
  have x1 := HQ1.out.cell 0; have x2 := HQ2.out.cell 0
  simp at x1 x2
  by_cases hE : E = 0
  · subst hE
    obtain rfl : A = 0 := Hno.out.2 rfl
    have hPr := print_any a1 c1 n1 D w4 Hn1.out HL1.out HD4 (hide_ (ht.out.at HB4.out))
    have HPr := hide_ hPr
    clear hPr
    simp only [Int.natCast_zero] at x2 ⊢
    go_wp2_with fail
    refine HPr.out.mono ?_; rintro e w5 ⟨X, k, rfl, HX, HB5'⟩
    have hp0 : prsT s = (D, 0, 0) := Hp.out
    obtain ⟨rfl, hXs, hTd, hX6⟩ := short_plain hp0 HX.out
    have HTd := hide_ hTd
    have HB5 := hide_ (HB4.out.trans (HB5'.out.mono HB4.out.size))
    have HQ5 := hide_ (HQ1.out.later HB5'.out)
    clear hTd hp0 HX HPr HB5' HB4 HQ1 HQ2 HD4 x1 x2
    have x1 := HQ5.out.cell 0
    simp at x1
    have hXi : ¬ ((X.size : Int) > (s.size : Int)) := by omega
    have hXi2 : ¬ ((s.size : Int) < (X.size : Int)) := by omega
    have hXn : ¬ (s.size < X.size) := by omega
    have hXd : decide (s.size < X.size) = false := decide_eq_false hXn
    obtain ⟨l, hl⟩ : ∃ l, X.data.toList = l := ⟨_, rfl⟩
    rw [hl] at HTd
    have hll : l.length = X.size := by rw [← hl, Lib.size_eq]
    have Hl := hide_ hl
    have Hll := hide_ hll
    clear hl hll
    go_wp2_with fail
    go_loopw [7, 8] (fun x7 x8 wr => ∃ (i n : Nat), i ≤ X.size ∧ x8 = .int .i64 (i : Int) ∧ x7 = .int .i64 (n : Int) ∧ n ≤ i ∧ Hid ((l.take i).count 32 = n) ∧ w5 = wr) (fun _ x8 _ => X.size - (intOf x8).toNat)
    case atStart => exact ⟨0, 0, Nat.zero_le _, rfl, rfl, Nat.le_refl _, hide_ rfl, rfl⟩
    case round =>
      obtain ⟨i, n, hi, rfl, rfl, hni, Hn, rfl⟩ := hrel
      by_cases hlt : i < X.size
      · have hlt' : (i : Int) < X.size := by omega
        have hb : l[i]? = some (X[i]'hlt) := by rw [← Hl.out]; exact at_list X i hlt
        have hbt := HTd.out.1 i _ hb
        have Hcn := hide_ (count_next hb)
        obtain ⟨c, hc⟩ : ∃ c, X[i]'hlt = c := ⟨_, rfl⟩
        rw [hc] at hbt Hcn
        obtain ⟨t1, t2, t3, t4⟩ := hbt
        have y1 : ¬ ((c.toNat : Int) = 35) := u8_ne (n := 35) (by decide) t1
        have y2 : ¬ ((c.toNat : Int) = 10) := u8_ne (n := 10) (by decide) t2
        have y3 : ¬ ((c.toNat : Int) = 9) := u8_ne (n := 9) (by decide) t3
        clear hb t1 t2 t3
        by_cases h32 : c = 32
        · obtain ⟨t5, t6⟩ := t4 h32
          subst h32
          obtain ⟨m, rfl⟩ : ∃ m, i = m + 4 := ⟨i - 4, by omega⟩
          have hcn : Hid ((l.take (m + 4 + 1)).count 32 = n + 1) := hide_ (by have := Hcn.out; rw [Hn.out] at this; exact this)
          have hex : (X.extract m (m + 4)).data.toList = [116, 121, 112, 101] := by
            rw [Lib.extract_data, Hl.out]
            have e : m + 4 - 4 = m := by omega
            rw [e] at t6
            rw [show m + 4 - m = 4 by omega]
            exact t6
          have hex2 : (X.extract m (m + 4)).toList = [116, 121, 112, 101] := by rw [Lib.toList_data]; exact hex
          have y4 : (((32 : UInt8).toNat : Nat) : Int) = 32 := rfl
          have y5 : ¬ (((m + 4 : Nat) : Int) < 4) := by omega
          have y6 : ((m + 4 : Nat) : Int) - 4 = (m : Int) := by omega
          clear t4 t6 Hcn Hn hex
          go_wp2
          go_roundw
          case rel => exact ⟨m + 4 + 1, n + 1, by omega, by go_num, by go_num, by omega, hcn, trivial⟩
          case measure => simp [intOf]; omega
        · have y4 : ¬ ((c.toNat : Int) = 32) := u8_ne (n := 32) (by decide) h32
          have hcn : Hid ((l.take (i + 1)).count 32 = n) := hide_ (by have := Hcn.out; rw [Hn.out, if_neg h32] at this; exact this)
          have z1 : ((c.toNat : Int) == 35) = false := beq_eq_false_iff_ne.2 y1
          have z2 : ((c.toNat : Int) == 10) = false := beq_eq_false_iff_ne.2 y2
          have z3 : ((c.toNat : Int) == 9) = false := beq_eq_false_iff_ne.2 y3
          clear t4 h32 Hcn Hn
          go_wp2
          go_roundw
          case rel => exact ⟨i + 1, n, by omega, by go_num, rfl, by omega, hcn, trivial⟩
          case measure => simp [intOf]; omega
      · obtain rfl : i = X.size := by omega
        have hcnt : n = n1 := by rw [← Hn.out, ← Hn1.out, ← Hll.out, List.take_length]; exact HTd.out.2
        subst hcnt
        go_wp2
        go_ret
        exact ⟨by simp, HB5.out⟩
  · have hD0 : n1 = 0 := by rw [← Hn1.out, Hno.out.1 hE]; rfl
    subst hD0
    have hE' : ¬ ((E : Int) = 0) := by omega
    go_wp2
    go_ret
    exact ⟨rfl, HB4.out⟩
end Go.Proofs.YtbfmoiaedopeiaaDoor
