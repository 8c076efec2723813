/- cutInto. -/
import Derived.Test.YtmeplmhngmlnaaaJ
namespace Go.Proofs.Ytmeplmhngmlnaaa
open Go.RowKit
set_option linter.unusedVariables false

theorem row_nil_of {k : IntKind} {w : World} {a : Option Addr} {l r : List Int} (h : Row k w a l) : Row k w a [] := by
  rcases h with ⟨rfl, rfl⟩ | ⟨x, rfl, hc⟩
  · exact .inl ⟨rfl, rfl⟩
  · exact .inr ⟨x, rfl, fun i hi => by simp at hi⟩
/-- Behind a cut at the front: the address that the model reckons. -/
theorem cut_rest {B : Nat} {w0 w w2 : World} {v : Value} {N : Nat} {l r : List Int} {b off c q : Nat} (h : CutSt B w v N l r (some ⟨b, off, none⟩) c) (hq : q ≤ r.length) (hB2 : Below B w0 w2) (hr0 : Row .u8 w0 (some ⟨b, off, none⟩) r) (hBs : B = w0.heap.size) {v2 : Value} {N2 : Nat}
    (hp : ∃ F P, Pcs B w2 v2 N2 0 F P ∧ joinN P N2 ++ r.drop q = l) :
    (q < c → CutSt B w2 v2 N2 l (r.drop q) (some ⟨b, off + q, none⟩) (c - q) ∧ Row .u8 w0 (some ⟨b, off + q, none⟩) (r.drop q)) ∧ (q = c → CutSt B w2 v2 N2 l (r.drop q) (some ⟨b, off, none⟩) 0 ∧ Row .u8 w0 (some ⟨b, off, none⟩) (r.drop q) ∧ r.length - q = 0) := by
  subst hBs
  have hle := h.le
  refine ⟨fun hlt => ⟨⟨hp, (hr0.drop q).later hB2, (fun e => by cases e), by rw [List.length_drop]; omega, by have := h.big; omega, h.len⟩, hr0.drop q⟩, fun he => ?_⟩
  have e0 : r.drop q = [] := List.drop_eq_nil_of_le (by omega)
  rw [e0] at hp ⊢
  exact ⟨⟨hp, (row_nil_of (r := []) hr0).later hB2, (fun e => by cases e), Nat.le_refl _, Nat.zero_le _, h.len⟩, row_nil_of (r := []) hr0, by omega⟩

set_option maxHeartbeats 4000000 in
set_option maxRecDepth 100000 in
theorem cutInto_any (a0 : Option Addr) (len0 cap0 : Nat) (l : List Int) (ac : Option Addr) (lenc capc : Nat) (cs : List Int) (w : World) (hl : Hid (l.length = len0)) (hl0 : len0 ≤ 1000) (hlc : len0 ≤ cap0) (hcm : cap0 ≤ maxLen) (hrow : Hid (Row .u8 w a0 l)) (hnil : Hid (a0 = none → cap0 = 0))
    (hc : Hid (cs.length = lenc)) (hc0 : lenc ≤ 1048576) (hcrow : Hid (Row .i64 w ac cs)) :
    Calls Try.prog 14 #[.slice a0 len0 cap0, .slice ac lenc capc] w fun e w' => ∃ g N c, e = .returned (.slice (some ⟨g, 0, none⟩) N c) ∧ 0 < N ∧ N ≤ 1048577 ∧ Below w.heap.size w w' ∧ Hid (∃ F P, Pcs w.heap.size w' (.slice (some ⟨g, 0, none⟩) N c) N 0 F P ∧ joinN P N = l) := by
  unfold maxLen at hcm
  go_enter Try.func14, Try.ntmps14
  go_wp2_with fail
  go_loopw [0, 5, 6] (fun x y i wr => ∃ (k : Nat) (a : Option Addr) (r : List Int) (c : Nat) (g : Option Addr) (co : Nat), k ≤ lenc ∧ i = .int .i64 k ∧ x = .slice a r.length c ∧ y = .slice g k co ∧ Hid (CutSt w.heap.size wr (.slice g k co) k l r a c) ∧ Hid (Row .u8 w a r) ∧ Below w.heap.size w wr) (fun _ _ i _ => lenc - (intOf i).toNat)
  case atStart => exact ⟨0, a0, l, cap0, none, 0, Nat.zero_le _, rfl, by rw [hl.out], rfl, ⟨⟨_, _, Pcs.nil _ _, by simp [joinN]⟩, hrow.out, hnil.out, by rw [hl.out]; exact hlc, by unfold maxLen; exact hcm, by rw [hl.out]; exact hl0⟩, hrow, Below.refl _ _⟩
  case round =>
    obtain ⟨k, a, r, c, g, co, hk, rfl, rfl, rfl, HS, HR, hBr⟩ := hrel
    have hrl : r.length ≤ 1000 := by
      obtain ⟨F, P, _, hj⟩ := HS.out.pcs
      have := HS.out.len
      rw [← hj, List.length_append] at this
      omega
    have hrc := HS.out.le
    have hcb := HS.out.big
    unfold maxLen at hcb
    obtain ⟨n, hn⟩ : ∃ n, r.length = n := ⟨_, rfl⟩
    have HN : Hid (r.length = n) := hn
    rw [hn] at hrl hrc ⊢
    clear hn
    by_cases hgo : k < lenc ∧ 0 < n
    · obtain ⟨hlt, hpos⟩ := hgo
      have hlt' : (k : Int) < lenc := by omega
      have hpos' : (0 : Int) < n := by omega
      obtain ⟨bc, offc, rfl, hbc, hcc⟩ := hcrow.out.open (by have := hc.out; omega)
      have hcell := hcc k (by have := hc.out; omega)
      rw [← hBr.cell (p := ⟨bc, offc + k, none⟩) hbc] at hcell
      obtain ⟨b, off, rfl, -, -⟩ := HR.out.open (by have := HN.out; omega)
      generalize cs.getD k 0 = x at *
      have hx1 : x.tmod 10 < 10 := Int.tmod_lt_of_pos x (by omega)
      have hx2 : -10 < x.tmod 10 := Int.lt_tmod_of_pos x (by omega)
      clear hcc
      go_upto_if 25 with fail
      --1
      go_cut [7] (fun s wc => ∃ t : Nat, t ≤ 9 ∧ s = .int .i64 t ∧ wr = wc)
      case first =>
        generalize x.tmod 10 = t at *
        by_cases h : t < 0
        · go_wp2
          go_meet
          case rel => exact ⟨t.natAbs, by omega, by go_num, rfl⟩
        · go_wp2
          go_meet
          case rel => exact ⟨t.natAbs, by omega, by go_num, rfl⟩
      case rest =>
        clear hx1 hx2 hcell
        obtain ⟨t, ht, rfl, rfl⟩ := hcut
        go_upto_region 8 with fail
        --2
        go_cut [7] (fun s wc => ∃ q : Nat, q ≤ n ∧ s = .int .i64 q ∧ wr = wc)
        case first =>
          by_cases h : (t : Int) ≤ n
          · go_wp2_with fail
            go_meet
            case rel => exact ⟨t, by omega, by go_num, rfl⟩
          · go_wp2_with fail
            go_meet
            case rel => exact ⟨n, by omega, by go_num, rfl⟩
        case rest =>
          obtain ⟨q, hq, rfl, rfl⟩ := hcut
          clear ht t
          obtain ⟨a1, c1, w1, g2, c2, w2, r1, r2, hp, hB2⟩ := cut_push HS.out hBr rfl (by omega) HR.out q (by rw [HN.out]; exact hq)
          obtain ⟨hA, hZ⟩ := cut_rest HS.out (by rw [HN.out]; exact hq) hB2 HR.out rfl hp
          have R1 : Hid _ := r1
          have R2 : Hid _ := r2
          have HA : Hid _ := hA
          have HZ : Hid _ := hZ
          have hq' : (q : Int) ≤ n := by omega
          have hqc : (q : Int) ≤ c := by omega
          clear r1 r2 hp hA hZ HS
          by_cases hcap : q = c
          · subst hcap
            have HZ2 : Hid _ := HZ.out rfl
            go_wp2_with (first | (at_builtin; have _t := R1; refine wpList_append_run rfl (.const (.slice none 0 0)) (.tmp 35) 30 30 rfl rfl rfl R1.out ?_; clear R1) | (at_builtin; have _t := R2; refine wpList_append_run rfl (.tmp 32) (.tmp 37) 22 22 rfl rfl rfl R2.out ?_; clear R2))
            go_roundw
            case rel => exact ⟨k + 1, _, r.drop q, 0, _, _, by omega, by go_num, by rw [List.length_drop, HN.out]; first | rfl | (congr 1; omega), rfl, HZ2.out.1, HZ2.out.2.1, hB2⟩
            case measure => simp [intOf]; omega
          · have hlt3 : (q : Int) < c := by omega
            have HZ2 : Hid _ := HA.out (by omega)
            go_wp2_with (first | (at_builtin; have _t := R1; refine wpList_append_run rfl (.const (.slice none 0 0)) (.tmp 35) 30 30 rfl rfl rfl R1.out ?_; clear R1) | (at_builtin; have _t := R2; refine wpList_append_run rfl (.tmp 32) (.tmp 37) 22 22 rfl rfl rfl R2.out ?_; clear R2))
            go_roundw
            case rel => exact ⟨k + 1, _, r.drop q, c - q, _, _, by omega, by go_num, by rw [List.length_drop, HN.out], rfl, HZ2.out.1, HZ2.out.2, hB2⟩
            case measure => simp [intOf]; omega
    · --3
      have hend : ¬ ((k : Int) < lenc ∧ (0 : Int) < n) := by omega
      obtain ⟨a1, c1, w1, g2, c2, w2, r1, r2, hp, hB2⟩ := cut_push HS.out hBr rfl (by omega) HR.out r.length (Nat.le_refl _)
      rw [HN.out] at r1 r2
      have R1 : Hid _ := r1
      have R2 : Hid _ := r2
      have HP : Hid _ := hp
      clear r1 r2 hp hgo
      go_upto_region 3 with fail
      go_cut [16] (fun s wc => s = .bool false ∧ wr = wc)
      case first =>
        by_cases h : (k : Int) < lenc
        · have h2 : ¬ (0 : Int) < n := by omega
          clear hend
          go_wp2_with fail
          go_meet
          case rel => exact ⟨by rw [decide_eq_false (by omega)], rfl⟩
        · clear hend
          go_wp2_with fail
          go_meet
          case rel => exact ⟨rfl, rfl⟩
      case rest =>
        obtain ⟨rfl, rfl⟩ := hcut
        go_wp2_with (first | (at_builtin; have _t := R1; refine wpList_append_run rfl (.const (.slice none 0 0)) (.tmp 43) 30 30 rfl rfl rfl R1.out ?_; clear R1) | (at_builtin; have _t := R2; refine wpList_append_run rfl (.tmp 42) (.tmp 45) 22 22 rfl rfl rfl R2.out ?_; clear R2))
        go_ret
        refine ⟨g2, k + 1, c2, rfl, by omega, by omega, hB2, ?_⟩
        obtain ⟨F, P, p1, p2⟩ := HP.out
        exact ⟨F, P, p1, by rw [← p2, List.drop_length, List.append_nil]⟩
end Go.Proofs.Ytmeplmhngmlnaaa
