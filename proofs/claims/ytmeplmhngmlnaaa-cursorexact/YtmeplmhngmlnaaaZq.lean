/- CursorExact: its walk. -/
import Derived.Test.YtmeplmhngmlnaaaZp
import Derived.Test.YtmeplmhngmlnaaaZo
namespace Go.Proofs.Ytmeplmhngmlnaaa
open Go.RowKit
set_option linter.unusedVariables false

section
variable {B bt n : Nat} {w0 w w' : World}
theorem Plays.later (h : Plays B w0 w bt n) (hB : Below w.heap.size w w') : Plays B w0 w' bt n := by
  obtain ⟨i, r, o, s, k, t, l⟩ := h
  exact ⟨i, r, o, s, k, t.later hB, l⟩
/-- From here on. -/
theorem Plays.here (h : Plays B w0 w bt n) : Plays B w w bt n := by
  obtain ⟨i, r, o, s, k, t, l⟩ := h
  exact ⟨i, r, o, s, k, ⟨t.sep, t.tab, Below.refl _ _, t.lo, fun _ _ h => h⟩, l⟩
theorem Plays.bel (h : Plays B w0 w bt n) : Below B w0 w := by
  obtain ⟨i, r, o, s, k, t, l⟩ := h
  exact t.bel
theorem Plays.fr (h : Plays B w0 w bt n) {q : Nat} {ys : List Value} (hb : Blk w0 q 53 ys) : Blk w q 53 ys := by
  obtain ⟨i, r, o, s, k, t, l⟩ := h
  exact t.fr q ys hb
theorem Plays.base (h : Plays B w0 w bt n) : B ≤ w.heap.size := by
  obtain ⟨i, r, o, s, k, t, l⟩ := h
  exact t.base
/-- A box that nobody knows is written. -/
theorem Plays.box (h : Plays B w0 w bt n) {q j : Nat} {ys : List Value} (hb : Blk w q 53 ys) (hq : w0.heap.size ≤ q) (hB : B ≤ q) (v : Value) : Plays B w0 (w.setCell ⟨q, j, none⟩ v) bt n := by
  obtain ⟨i, r, o, s, k, t, l⟩ := h
  exact ⟨i, r, o, s, k, tb_upd t q ((Upd.refl (fun x => x = q) w).set _ _ (.inl rfl)) (fun c hc => t.no53 hb c hc) (fun e => blk_ne t.tab.2 hb (by decide) e) ⟨hB, hq⟩, l⟩
end
/-- The book holds. -/
theorem bholds_plays (B bt n : Nat) (w0 w : World) (h : Hid (Plays B w0 w bt n)) (hn : n ≤ 900) :
    Calls Try.prog 26 #[.pointer (some ⟨bt, 8, none⟩)] w fun e w' => e = .returned (.bool true) ∧ Below w.heap.size w w' := by
  obtain ⟨i, r, o, s, k, t, l⟩ := h.out
  exact bholds_any B bt _ k.vL k.vM k.N k.F k.G k.s w t.bk t.tab (by have := l.kN; omega)
set_option maxRecDepth 100000 in
set_option maxHeartbeats 4000000 in
theorem exact_any (a0 : Option Addr) (len cap : Nat) (w : World) (hl : len ≤ maxLen) (hops : Hid (∀ i, i < len → ∃ b off, a0 = some ⟨b, off, none⟩ ∧ b < w.heap.size ∧ OpR w b off i)) :
    Calls Try.prog 5 #[.slice a0 len cap] w fun e w' => e = .returned (.bool true) ∧ Below w.heap.size w w' := by
  unfold maxLen at hl
  go_enter Try.func5, Try.ntmps5
  go_wp2_with fail
  refine (awake_any w).mono ?_; rintro e w1 ⟨rfl, hB1⟩
  go_wp2_with fail
  refine (begun_any w1).mono ?_; rintro e w2 ⟨bt, rfl, HP0⟩
  have HP : Hid (Plays w1.heap.size w2 w2 bt (2 * 0)) := HP0.out.here
  have hB2 : Below w1.heap.size w1 w2 := HP0.out.bel
  clear HP0
  --1
  go_wp2_with fail
  go_loopw [5] (fun i wr => ∃ k : Nat, k ≤ len ∧ k ≤ 200 ∧ i = .int .i64 k ∧ Hid (Plays w1.heap.size wr wr bt (2 * k)) ∧ Hid (Below w1.heap.size w1 wr)) (fun i _ => len - (intOf i).toNat)
  case atStart => exact ⟨0, Nat.zero_le _, Nat.zero_le _, rfl, HP, hB2⟩
  case round =>
    clear HP hB2
    obtain ⟨k, hk, hk2, rfl, HP, HBr⟩ := hrel
    by_cases hgo : k < len ∧ k < 200
    · obtain ⟨hlt, hlt2⟩ := hgo
      obtain ⟨b, off, rfl, hb, kind, wh, N, wd, V, a, n, cp, l, ⟨c0, c1, c2, c3, c4, c5⟩, hF⟩ := hops.out k hlt
      have hlt' : (k : Int) < len := by omega
      have hlt2' : (k : Int) < 200 := by omega
      have hb1 : b < w1.heap.size := Nat.lt_of_lt_of_le hb hB1.size
      have later : ∀ {o : Nat} {v : Value}, w.cell? ⟨b, o, none⟩ = some v → wr.cell? ⟨b, o, none⟩ = some v := fun h => (HBr.out.cell (p := ⟨b, _, none⟩) hb1).trans ((hB1.cell (p := ⟨b, _, none⟩) hb).trans h)
      have d0 := later c0; have d1 := later c1; have d2 := later c2; have d3 := later c3; have d4 := later c4; have d5 := later c5
      have HF : Hid (OpF w1 N V a n cp l) := ⟨hF.nc, hF.cm, hF.N64, hF.V64, hF.ll, hF.row.later hB1, hF.nil⟩
      have hnc : n ≤ cp := hF.nc
      have hcm : cp ≤ 9223372036854775807 := hF.cm
      clear later c0 c1 c2 c3 c4 c5 hF
      go_upto_if 33 with fail
      --2
      obtain ⟨wB, hwB⟩ : ∃ wB, wB = wr.alloc (box kind wh N wd V a n cp) := ⟨_, rfl⟩
      have hBB : Below wr.heap.size wr wB := by rw [hwB]; exact (Below.refl _ _).alloc (Nat.le_refl _) _
      have KB : Hid (Blk wB wr.heap.size 53 (boxL kind wh N wd V a n cp)) := by rw [hwB]; exact box_new wr _ _ _ _ _ _ _ _
      have HPB : Hid (Plays w1.heap.size wr wB bt (2 * k)) := HP.out.later hBB
      have hbs : w1.heap.size ≤ wr.heap.size := HP.out.base
      unfold box at hwB
      rw [← hwB]
      clear hwB d0 d1 d2 d3 d4 d5 HP
      go_cut [7] from 34 to 38 (fun _ wc => ∃ (w4 : World) (q : Nat) (lb : List Int), w4 = wc ∧ q ≤ 1000 ∧ Hid (lb.length = q) ∧ Hid (Row .u8 w1 a lb) ∧ Hid (Blk w4 wr.heap.size 53 (boxL kind wh N wd V a q cp)) ∧ Hid (Plays w1.heap.size wr w4 bt (2 * k)))
      case first =>
        by_cases h : 1000 < (n : Int)
        · have c5 : wB.cell? ⟨wr.heap.size, 5, none⟩ = some (.slice a n cp) := KB.out.cell 5
          have z5 := KB.out.frozen 5
          go_wp2
          go_meet
          case rel => exact ⟨_, 1000, l.take 1000, rfl, by omega, by show _ = _; rw [List.length_take, HF.out.ll]; omega, HF.out.row.take 1000, KB.out.set 5 _, HPB.out.box KB.out (Nat.le_refl _) hbs _⟩
        · go_wp2
          go_meet
          case rel => exact ⟨_, n, l, rfl, by omega, HF.out.ll, HF.out.row, KB, HPB⟩
      case rest =>
        clear KB HPB hBB hnc
        obtain ⟨w4, q, lb, rfl, hq, HL, HR, K4, HP4⟩ := hcut
        --3
        have c1 : w4.cell? ⟨wr.heap.size, 1, none⟩ = some (.bool wh) := K4.out.cell 1
        go_upto_if 39 with fail
        go_cut [7] from 40 to 42 (fun s wc => ∃ W : Nat, W < 2 ∧ s = .int .i64 W ∧ w4 = wc)
        case first =>
          cases wh with
          | false =>
            go_wp2
            go_meet
            case rel => exact ⟨0, by omega, rfl, rfl⟩
          | true =>
            go_wp2
            go_meet
            case rel => exact ⟨1, by omega, rfl, rfl⟩
        case rest =>
          obtain ⟨W, hW, rfl, rfl⟩ := hcut
          --4
          have HRow : Hid (∀ w', Below w1.heap.size w4 w' → Row .u8 w' a lb) := fun w' h => HR.out.later (HBr.out.trans (HP4.out.bel.trans h))
          have HB4 : Hid (Below w1.heap.size w1 w4) := HBr.out.trans HP4.out.bel
          have c0 : w4.cell? ⟨wr.heap.size, 0, none⟩ = some (.int .i64 kind) := K4.out.cell 0
          have c2 : w4.cell? ⟨wr.heap.size, 2, none⟩ = some (.int .i64 N) := K4.out.cell 2
          have c3 : w4.cell? ⟨wr.heap.size, 3, none⟩ = some (.int .i64 wd) := K4.out.cell 3
          have c4 : w4.cell? ⟨wr.heap.size, 4, none⟩ = some (.int .u64 V) := K4.out.cell 4
          have c5 : w4.cell? ⟨wr.heap.size, 5, none⟩ = some (.slice a q cp) := K4.out.cell 5
          go_wp2_with fail
          --5
          refine (inputs_any kind wh N wd V a q cp lb w1.heap.size bt w4 _ (2 * k) W HP4.out.here (by omega) hW HL.out HRow.out HF.out.nil hq).mono ?_; rintro e w5 ⟨rfl, HP5⟩
          have K5 : Hid (Blk w5 wr.heap.size 53 (boxL kind wh N wd V a q cp)) := HP5.out.fr K4.out
          clear c0 c1 c2 c3 c4 c5
          have c0 : w5.cell? ⟨wr.heap.size, 0, none⟩ = some (.int .i64 kind) := K5.out.cell 0
          have c1 : w5.cell? ⟨wr.heap.size, 1, none⟩ = some (.bool wh) := K5.out.cell 1
          have c2 : w5.cell? ⟨wr.heap.size, 2, none⟩ = some (.int .i64 N) := K5.out.cell 2
          have c3 : w5.cell? ⟨wr.heap.size, 3, none⟩ = some (.int .i64 wd) := K5.out.cell 3
          have c4 : w5.cell? ⟨wr.heap.size, 4, none⟩ = some (.int .u64 V) := K5.out.cell 4
          have c5 : w5.cell? ⟨wr.heap.size, 5, none⟩ = some (.slice a q cp) := K5.out.cell 5
          go_wp2_with fail
          --6
          refine (outputs_any kind wh N wd V a q cp lb w1.heap.size bt w4 _ (2 * k + 1) W HP5.out (by omega) hW HL.out HRow.out HF.out.nil hq HF.out.N64 HF.out.V64).mono ?_; rintro e w6 ⟨rfl, HP6⟩
          clear c0 c1 c2 c3 c4 c5 K5 HP5 K4 HP4
          go_wp2_with fail
          --7
          refine (bholds_plays w1.heap.size bt (2 * k + 1 + 1) w4 _ HP6 (by omega)).mono ?_; rintro e w7 ⟨rfl, hB7⟩
          have HP7 : Hid (Plays w1.heap.size w7 w7 bt (2 * (k + 1))) := (HP6.out.later hB7).here
          have HB7 : Hid (Below w1.heap.size w1 w7) := HB4.out.trans (HP6.out.later hB7).bel
          clear HP6 hB7 HB4
          go_wp2
          go_roundw
          case rel => exact ⟨k + 1, by omega, by omega, by go_num, HP7, HB7⟩
          case measure => simp [intOf]; omega
    · by_cases hlt : k < len
      · have hlt' : (k : Int) < len := by omega
        have hlt2' : ¬ (k : Int) < 200 := by omega
        go_wp2
        go_ret
        exact ⟨rfl, hB1.trans (HBr.out.mono hB1.size)⟩
      · have hlt' : ¬ (k : Int) < len := by omega
        go_wp2
        go_ret
        exact ⟨rfl, hB1.trans (HBr.out.mono hB1.size)⟩
end Go.Proofs.Ytmeplmhngmlnaaa
