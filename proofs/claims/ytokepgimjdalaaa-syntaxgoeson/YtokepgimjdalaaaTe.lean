/- SyntaxGoesOn. -/
import Derived.Test.YtokepgimjdalaaaTd
import Derived.Test.YtokepgimjdalaaaSr
namespace Go.Proofs.Ytokepgimjdalaaa
open Go.RowKit
set_option linter.unusedVariables false

theorem nx_is (s m : ByteArray) (j : Nat) (h : m.data.toList = mores.getD j []) : s ++ ⟨#[10]⟩ ++ m = nx s j := by
  have e : (s ++ ⟨#[10]⟩ ++ m).data.toList = s.data.toList ++ 10 :: mores.getD j [] := by
    rw [← h]
    simp
  rw [nx, ← e]
/-- What the answer of a further text says. -/
def mb (j : Nat) : ByteArray := ⟨(mores.getD j []).toArray⟩
def moreC : List Value := [.string ⟨#[59]⟩, .string ⟨#[125]⟩, .string ⟨#[62]⟩, .string ⟨#[117, 56]⟩, .string ⟨#[122, 122]⟩, .string ⟨#[49]⟩, .string ⟨#[61]⟩, .string ⟨#[58]⟩, .string ⟨#[44]⟩, .string ⟨#[60]⟩, .string ⟨#[123]⟩]
theorem moreC_at (j : Nat) (hj : j < 11) : moreC[j]? = some (.string (mb j)) := by
  have h : j = 0 ∨ j = 1 ∨ j = 2 ∨ j = 3 ∨ j = 4 ∨ j = 5 ∨ j = 6 ∨ j = 7 ∨ j = 8 ∨ j = 9 ∨ j = 10 := by omega
  rcases h with rfl | rfl | rfl | rfl | rfl | rfl | rfl | rfl | rfl | rfl | rfl <;> rfl
set_option maxRecDepth 100000 in
set_option maxHeartbeats 8000000 in
theorem goes_any2 (s : ByteArray) (w : World) : Calls Try.prog 4 #[.string s] w fun e w' => e = .returned (.bool true) ∧ Below w.heap.size w w' := by
  obtain ⟨D, E, A, hR⟩ : ∃ D E A, prsT s = (D, E, A) := ⟨_, _, _, rfl⟩
  have HR := hide_ hR
  have HT : Hid ((E : Int) = 60 → (A : Int) = s.size → ∃ c, c ≤ 89 ∧ TE s c) := fun h1 h2 => te_of (by rw [hR]; show (E, A) = _; rw [show E = 60 by omega, show A = s.size by omega])
  clear hR
  go_enter Try.func4, Try.ntmps4
  go_wp2_with fail
  refine (first_any w).mono ?_; rintro e w1 ⟨rfl, hB1⟩
  have HB1 := hide_ hB1
  clear hB1
  go_wp2_with fail
  refine (parse_is HR.out w1).mono ?_; rintro e w2 ⟨a2, c2, vs2, rfl, hc2, -, HD2, HB2⟩
  have HBb := hide_ (HB1.out.trans (HB2.out.mono HB1.out.size))
  clear HD2 HB1 HB2 hc2 vs2
  obtain ⟨w3, hw3⟩ : ∃ w3, w3 = (w2.alloc (.cells #[.slice a2 D.length c2] 25)).alloc (.cells #[.int .i64 (E : Int), .int .i64 (A : Int)] 28) := ⟨_, rfl⟩
  have k4 : Blk w3 (w2.heap.size + 1) 28 [.int .i64 (E : Int), .int .i64 (A : Int)] := by rw [hw3]; have h := Blk.newA (w2.alloc (.cells #[.slice a2 D.length c2] 25)) #[.int .i64 (E : Int), .int .i64 (A : Int)] 28; simpa using h
  have hB23 : Below w2.heap.size w2 w3 := by rw [hw3]; exact below2 w2 _ _
  have HB3 := hide_ (HBb.out.trans (hB23.mono HBb.out.size))
  have f0 := k4.cell 0; have f1 := k4.cell 1
  simp at f0 f1
  clear hB23 HBb k4
  go_upto_region 4 with fail
  rw [← hw3]
  clear hw3
  by_cases hE : (E : Int) = 60
  case neg =>
    have hE' : ((E : Int) != 60) = true := by simpa using hE
    go_wp2
    go_ret
    exact ⟨rfl, HB3.out⟩
  have hE' : ((E : Int) != 60) = false := by simpa using hE
  by_cases hA : (A : Int) = s.size
  case neg =>
    have hA' : ((A : Int) != (s.size : Int)) = true := by simpa using hA
    go_wp2
    go_ret
    exact ⟨rfl, HB3.out⟩
  have hA' : ((A : Int) != (s.size : Int)) = false := by simpa using hA
  by_cases hs : (4000 : Int) < s.size
  · go_wp2
    go_ret
    exact ⟨rfl, HB3.out⟩
  obtain ⟨c0, hc0, hTE⟩ := HT.out hE hA
  have HTE := hide_ hTE
  clear hTE HT HR
  have KM := hide_ (Blk.newA w3 moreC.toArray 44)
  have HB4 := hide_ (HB3.out.alloc HB3.out.size (.cells moreC.toArray 44))
  obtain ⟨w4, hw4⟩ : ∃ w4, w4 = w3.alloc (.cells moreC.toArray 44) := ⟨_, rfl⟩
  rw [← hw4] at KM HB4
  have HW4 := hide_ hw4
  clear hw4
  go_upto_region 7 with fail
  rw [show w3.alloc (.cells #[.string ⟨#[59]⟩, .string ⟨#[125]⟩, .string ⟨#[62]⟩, .string ⟨#[117, 56]⟩, .string ⟨#[122, 122]⟩, .string ⟨#[49]⟩, .string ⟨#[61]⟩, .string ⟨#[58]⟩, .string ⟨#[44]⟩, .string ⟨#[60]⟩, .string ⟨#[123]⟩] 44) = w4 from HW4.out.symm]
  go_wp2_with fail
  go_loopw [0, 6] (fun x0 x6 wr => ∃ (s' : ByteArray) (n c : Nat), x0 = .string s' ∧ x6 = .int .i64 (n : Int) ∧ c + n ≤ 89 ∧ s'.size ≤ 4000 + 3 * n ∧ Hid (TE s' c) ∧ Hid (Blk wr w3.heap.size 44 moreC) ∧ Hid (Below w.heap.size w wr)) (fun _ x6 _ => 120 - (intOf x6).toNat)
  case atStart => exact ⟨s, 0, c0, rfl, rfl, by omega, by omega, HTE, KM, HB4⟩
  case round =>
    clear HTE KM HB4 HB3 f0 f1 HW4
    obtain ⟨s', n, c, rfl, rfl, hcn, hsz, HTE, KM, HB⟩ := hrel
    generalize wr = wq at *
    obtain ⟨a, ha, hbad, hgood⟩ := te_on HTE.out (by omega)
    have HBad := hide_ hbad
    have HGood := hide_ hgood
    clear hbad hgood
    have hn120 : (n : Int) < 120 := by omega
    go_wp2_with fail
    go_loopw [0, 7, 8] (fun x0 x7 x8 wr2 => ∃ (j : Nat) (s2 : ByteArray) (b : Bool), x0 = .string s2 ∧ x7 = .bool b ∧ x8 = .int .i64 (j : Int) ∧ j ≤ 11 ∧ Hid ((b = false ∧ s2 = s' ∧ j ≤ a) ∨ (b = true ∧ (∃ c', c' < c ∧ TE s2 c') ∧ s2.size ≤ s'.size + 3)) ∧ Hid (Blk wr2 w3.heap.size 44 moreC) ∧ Hid (Below w.heap.size w wr2)) (fun _ _ x8 _ => 12 - (intOf x8).toNat)
    case atStart => exact ⟨0, s', false, rfl, rfl, rfl, by omega, .inl ⟨rfl, rfl, Nat.zero_le _⟩, KM, HB⟩
    case round =>
      clear KM HB
      obtain ⟨j, s2, b, rfl, rfl, rfl, hj, HO, KM, HB⟩ := hrel
      generalize wr = wz at *
      cases b with
      | true =>
        obtain ⟨_, ⟨c', hc', hT'⟩, hs2⟩ := HO.out.resolve_left (by rintro ⟨h, _⟩; cases h)
        have HT' := hide_ hT'
        clear hT' HO HBad HGood
        by_cases hj11 : (j : Int) < 11
        · go_wp2
          go_roundw
          case rel => exact ⟨s2, n + 1, c', rfl, by go_num, by omega, by omega, HT', KM, HB⟩
          case measure => simp [intOf]; omega
        · go_wp2
          go_roundw
          case rel => exact ⟨s2, n + 1, c', rfl, by go_num, by omega, by omega, HT', KM, HB⟩
          case measure => simp [intOf]; omega
      | false =>
        obtain ⟨_, rfl, hja⟩ := HO.out.resolve_right (by rintro ⟨h, _⟩; cases h)
        clear HO
        have hj11 : (j : Int) < 11 := by omega
        have m0 := KM.out.cell j
        rw [moreC_at j (by omega)] at m0
        have hj11n : j < 11 := by omega
        have hmb : (mb j).size ≤ 2 := by
          have h := (mores_tw j hj11n).2.2
          rw [Lib.size_eq]
          simpa [mb] using h
        have hnz := nx_size s2 j
        have hml : (mores.getD j []).length ≤ 2 ∧ 0 < (mores.getD j []).length := ⟨(mores_tw j hj11n).2.2, (mores_tw j hj11n).1.pos⟩
        generalize (mores.getD j []).length = ml at *
        go_wp2_with fail
        rw [nx_is s2 (mb j) j (by simp [mb])]
        obtain ⟨D', E', A', hp⟩ : ∃ D' E' A', prsT (nx s2 j) = (D', E', A') := ⟨_, _, _, rfl⟩
        have HP := hide_ hp
        have HLow : Hid (j < a → E' = 60 ∧ A' = s2.size + 1) := fun h => by
          have h2 := HBad.out j h
          rw [hp] at h2
          injection h2 with h3 h4
          exact ⟨h3, h4⟩
        have HTop : Hid (j = a → E' = 0 ∨ E' = 61 ∨ E' = 5 ∨ ((E' = 60 ∧ A' = (nx s2 j).size) ∧ ∃ c', c' < c ∧ TE (nx s2 j) c')) := fun h => by
          have h2 := HGood.out
          rw [← h, hp] at h2
          rcases h2 with h2 | h2 | h2 | ⟨h2, h3⟩
          · exact .inl h2
          · exact .inr (.inl h2)
          · exact .inr (.inr (.inl h2))
          · injection h2 with h4 h5
            exact .inr (.inr (.inr ⟨⟨h4, h5⟩, h3⟩))
        clear hp m0
        generalize nx s2 j = t at *
        refine (parse_is HP.out wz).mono ?_; rintro e w5 ⟨a5, c5, vs5, rfl, hc5, -, HD5, HB5⟩
        obtain ⟨w6, hw6⟩ : ∃ w6, w6 = (w5.alloc (.cells #[.slice a5 D'.length c5] 25)).alloc (.cells #[.int .i64 (E' : Int), .int .i64 (A' : Int)] 28) := ⟨_, rfl⟩
        have k6 : Blk w6 (w5.heap.size + 1) 28 [.int .i64 (E' : Int), .int .i64 (A' : Int)] := by rw [hw6]; have h := Blk.newA (w5.alloc (.cells #[.slice a5 D'.length c5] 25)) #[.int .i64 (E' : Int), .int .i64 (A' : Int)] 28; simpa using h
        have hB56 : Below w5.heap.size w5 w6 := by rw [hw6]; exact below2 w5 _ _
        have hB6 := (HB5.out.trans (hB56.mono HB5.out.size))
        have KM6 := hide_ (KM.out.later hB6)
        have HB6 := hide_ (HB.out.trans (hB6.mono HB.out.size))
        have g0 := k6.cell 0; have g1 := k6.cell 1
        simp at g0 g1
        clear hB56 hB6 k6 HD5 HB5 hc5 KM HB vs5 HBad HGood
        go_upto_region 16 with fail
        rw [← hw6]
        clear hw6
        rcases Nat.lt_or_ge j a with hlt | hge
        · obtain ⟨rfl, rfl⟩ := HLow.out hlt
          have hne : ((s2.size : Int) + 1 == (t.size : Int)) = false := by simp; omega
          have hne2 : (((s2.size + 1 : Nat) : Int) == (t.size : Int)) = false := by simp; omega
          go_wp2
          go_roundw
          case rel => exact ⟨j + 1, s2, false, rfl, rfl, by go_num, by omega, .inl ⟨rfl, rfl, by omega⟩, KM6, HB6⟩
          case measure => simp [intOf]; omega
        · rcases HTop.out (by omega) with rfl | rfl | rfl | ⟨⟨rfl, rfl⟩, c', hc', hT'⟩
          · go_wp2
            go_ret
            exact ⟨rfl, HB6.out⟩
          · go_wp2
            go_ret
            exact ⟨rfl, HB6.out⟩
          · go_wp2
            go_ret
            exact ⟨rfl, HB6.out⟩
          · have HT' := hide_ hT'
            clear hT'
            have heq : ((t.size : Int) == (t.size : Int)) = true := by simp
            go_wp2
            go_roundw
            case rel => exact ⟨j + 1, t, true, rfl, rfl, by go_num, by omega, .inr ⟨rfl, ⟨c', hc', HT'.out⟩, by omega⟩, KM6, HB6⟩
            case measure => simp [intOf]; omega
end Go.Proofs.Ytokepgimjdalaaa
