/- Outputs: the program's and the document's. -/
import Derived.Test.YtmeplmhngmlnaaaD
namespace Go.Proofs.Ytmeplmhngmlnaaa
open Go.RowKit
set_option linter.unusedVariables false

def bytN (n k : Nat) : Nat := n / 2 ^ (8 * k) % 256
theorem byt_nat (n k : Nat) : byt (n : Int) k = (bytN n k : Int) := by
  unfold byt bytN
  have e : (2 : Int) ^ (8 * k) = ((2 ^ (8 * k) : Nat) : Int) := by rw [Int.natCast_pow]; rfl
  rw [e]; omega
theorem bytN_lt (n k : Nat) : bytN n k < 256 := Nat.mod_lt _ (by omega)
theorem rfits_no (n width : Int) (w : World) (h : width < 1 ∨ 8 < width) :
    Calls Try.prog 54 #[.int .u64 n, .int .i64 width] w fun e w' => e = .returned (.bool false) ∧ w = w' := by
  by_cases h1 : width < 1
  · go_enter Try.func54, Try.ntmps54
    go_wp2
    go_ret
    exact ⟨rfl, rfl⟩
  · have h2 : 8 < width := by omega
    clear h
    go_enter Try.func54, Try.ntmps54
    go_wp2
    go_ret
    exact ⟨rfl, rfl⟩
theorem div_step (N k : Nat) : ((N / 2 ^ (8 * k) : Nat) : Int) / 256 = ((N / 2 ^ (8 * (k + 1)) : Nat) : Int) := by
  rw [show 8 * (k + 1) = 8 * k + 8 from by omega, Nat.pow_add, ← Nat.div_div_eq_div_mul]
  omega
theorem div_wrap (N k : Nat) (hN : N < 18446744073709551616) : IntKind.u64.wrap (((N / 2 ^ (8 * k) : Nat) : Int) / 256) = ((N / 2 ^ (8 * (k + 1)) : Nat) : Int) := by
  rw [div_step]
  have := Nat.div_le_self N (2 ^ (8 * (k + 1)))
  generalize N / 2 ^ (8 * (k + 1)) = u at *
  rw [IntKind.wrap_u64]; omega
theorem fitB_nat (N wd : Nat) : fitB (N : Int) (wd : Int) = (((N / 2 ^ (8 * wd) : Nat) : Int) == 0) := by
  unfold fitB
  rw [show (8 * (wd : Int)).toNat = 8 * wd from by omega, Int.natCast_ediv, Int.natCast_pow]
  rfl
set_option maxHeartbeats 400000 in
theorem rfits_in (N wd : Nat) (w : World) (hN : N < 18446744073709551616) (h1 : 1 ≤ wd) (h2 : wd ≤ 8) :
    Calls Try.prog 54 #[.int .u64 N, .int .i64 wd] w fun e w' => e = .returned (.bool (fitB N wd)) ∧ w = w' := by
  have g1 : ¬ (wd : Int) < 1 := by omega
  have g2 : ¬ 8 < (wd : Int) := by omega
  rw [fitB_nat]
  go_enter Try.func54, Try.ntmps54
  go_wp2
  go_loop [0, 5] (fun v i => ∃ k : Nat, k ≤ wd ∧ i = .int .i64 k ∧ v = .int .u64 ((N / 2 ^ (8 * k) : Nat) : Int)) (fun _ i => wd - (intOf i).toNat)
  case atStart => exact ⟨0, Nat.zero_le _, rfl, by simp⟩
  case round =>
    obtain ⟨k, hk, rfl, rfl⟩ := hrel
    by_cases hlt : k < wd
    · have HS : Hid (IntKind.u64.wrap (((N / 2 ^ (8 * k) : Nat) : Int) / 256) = ((N / 2 ^ (8 * (k + 1)) : Nat) : Int)) := div_wrap N k hN
      generalize N / 2 ^ (8 * k) = u at *
      go_wp2
      go_round
      case rel => exact ⟨k + 1, by omega, by go_num, by rw [← HS.out]⟩
      case measure => simp [intOf]; omega
    · go_wp2
      obtain rfl : k = wd := by omega
      go_ret
      exact ⟨rfl, rfl⟩

theorem rplace_no (n pos width : Int) (w : World) (hn : 0 ≤ n) (hn2 : n ≤ 1000000) (h1 : 1 ≤ width) (h2 : width ≤ 8) (h : pos < 0 ∨ n - width < pos) :
    Calls Try.prog 53 #[.int .i64 n, .int .i64 pos, .int .i64 width] w fun e w' => e = .returned (.bool false) ∧ w = w' := by
  by_cases h3 : pos < 0
  · have h3' : ¬ 0 ≤ pos := by omega
    clear h
    go_enter Try.func53, Try.ntmps53
    go_wp2
    go_ret
    exact ⟨rfl, rfl⟩
  · have h3' : 0 ≤ pos := by omega
    by_cases h4 : pos ≤ n
    · have h5 : ¬ width ≤ n - pos := by omega
      clear h
      go_enter Try.func53, Try.ntmps53
      go_wp2
      go_ret
      exact ⟨rfl, rfl⟩
    · clear h
      go_enter Try.func53, Try.ntmps53
      go_wp2
      go_ret
      exact ⟨rfl, rfl⟩
theorem rplace_ok (n pos width : Int) (w : World) (hn : 0 ≤ n) (hn2 : n ≤ 1000000) (h1 : 1 ≤ width) (h2 : width ≤ 8) (h3 : 0 ≤ pos) (h4 : pos ≤ n - width) :
    Calls Try.prog 53 #[.int .i64 n, .int .i64 pos, .int .i64 width] w fun e w' => e = .returned (.bool true) ∧ w = w' := by
  have h5 : pos ≤ n := by omega
  have h6 : width ≤ n - pos := by omega
  go_enter Try.func53, Try.ntmps53
  go_wp2
  go_ret
  exact ⟨rfl, rfl⟩

theorem rput_w (a : Option Addr) (len cap : Nat) (pos width n : Int) (w : World) (h : width < 1 ∨ 8 < width) :
    Calls Try.prog 51 #[.slice a len cap, .int .i64 pos, .int .i64 width, .int .u64 n] w fun e w' => e = .returned (.int .i64 10) ∧ w = w' := by
  by_cases h1 : width < 1
  · go_enter Try.func51, Try.ntmps51
    go_wp2
    go_ret
    exact ⟨rfl, rfl⟩
  · have h2 : 8 < width := by omega
    clear h
    go_enter Try.func51, Try.ntmps51
    go_wp2
    go_ret
    exact ⟨rfl, rfl⟩
theorem rput_no (a : Option Addr) (len cap : Nat) (pos width n : Int) (w : World) (h1 : 1 ≤ width) (h2 : width ≤ 8) (hl : len ≤ 1000000) (h : pos < 0 ∨ (len : Int) - width < pos) :
    Calls Try.prog 51 #[.slice a len cap, .int .i64 pos, .int .i64 width, .int .u64 n] w fun e w' => e = .returned (.int .i64 3) ∧ w = w' := by
  have g1 : ¬ width < 1 := by omega
  have g2 : ¬ 8 < width := by omega
  go_enter Try.func51, Try.ntmps51
  go_wp2_with (go_at_call 53; refine (rplace_no _ _ _ _ (by omega) (by omega) h1 h2 h).mono ?_; rintro e w' ⟨rfl, rfl⟩)
  go_ret
  exact ⟨rfl, rfl⟩
theorem rput_unfit (a : Option Addr) (len cap p wd N : Nat) (w : World) (hN : N < 18446744073709551616) (h1 : 1 ≤ wd) (h2 : wd ≤ 8) (hl : len ≤ 1000000) (h : p + wd ≤ len) (hf : fitB N wd = false) :
    Calls Try.prog 51 #[.slice a len cap, .int .i64 p, .int .i64 wd, .int .u64 N] w fun e w' => e = .returned (.int .i64 10) ∧ w = w' := by
  have g1 : ¬ (wd : Int) < 1 := by omega
  have g2 : ¬ 8 < (wd : Int) := by omega
  go_enter Try.func51, Try.ntmps51
  go_wp2_with (first | (go_at_call 53; refine (rplace_ok _ _ _ _ (by omega) (by omega) (by omega) (by omega) (by omega) (by omega)).mono ?_; rintro e w' ⟨rfl, rfl⟩) | (go_at_call 54; refine (rfits_in N wd _ hN h1 h2).mono ?_; rintro e w' ⟨rfl, rfl⟩))
  go_ret
  exact ⟨rfl, rfl⟩
theorem byte_step (N k : Nat) : ((N / 2 ^ (8 * k) : Nat) : Int) % 256 = byt N k := by
  rw [byt_nat]; unfold bytN; omega
set_option maxHeartbeats 400000 in
theorem rput_ok (b off len cap p wd N : Nat) (w : World) (hN : N < 18446744073709551616) (h1 : 1 ≤ wd) (h2 : wd ≤ 8) (hl : len ≤ 1000000) (h : p + wd ≤ len) (hf : fitB N wd = true)
    (hc : ∀ i, i < len → ∃ u, w.cell? ⟨b, off + i, none⟩ = some u) (hz : ∀ i, i < len → w.frozen? ⟨b, off + i, none⟩ = false) :
    Calls Try.prog 51 #[.slice (some ⟨b, off, none⟩) len cap, .int .i64 p, .int .i64 wd, .int .u64 N] w fun e w' => e = .returned (.int .i64 0) ∧ w' = putW w b (off + p) N wd := by
  have g1 : ¬ (wd : Int) < 1 := by omega
  have g2 : ¬ 8 < (wd : Int) := by omega
  go_enter Try.func51, Try.ntmps51
  go_wp2_with (first | (go_at_call 53; refine (rplace_ok _ _ _ _ (by omega) (by omega) (by omega) (by omega) (by omega) (by omega)).mono ?_; rintro e w' ⟨rfl, rfl⟩) | (go_at_call 54; refine (rfits_in N wd _ hN h1 h2).mono ?_; rintro e w' ⟨rfl, rfl⟩))
  go_loopw [3, 9] (fun v i wr => ∃ k : Nat, k ≤ wd ∧ i = .int .i64 k ∧ v = .int .u64 ((N / 2 ^ (8 * k) : Nat) : Int) ∧ wr = putW w b (off + p) N k) (fun _ i _ => wd - (intOf i).toNat)
  case atStart => exact ⟨0, Nat.zero_le _, rfl, by simp, rfl⟩
  case round =>
    obtain ⟨k, hk, rfl, rfl, rfl⟩ := hrel
    by_cases hlt : k < wd
    · obtain ⟨u, hu⟩ := hc (p + k) (by omega)
      have hu' : (putW w b (off + p) N k).cell? ⟨b, off + (p + k), none⟩ = some u := by
        rw [← Nat.add_assoc, putW_ge _ _ _ _ _ _ (Nat.le_refl _), Nat.add_assoc]; exact hu
      have hz' : (putW w b (off + p) N k).frozen? ⟨b, off + (p + k), none⟩ = false := by rw [putW_frozen]; exact hz _ (by omega)
      clear hc hz hu
      have HS : Hid (IntKind.u64.wrap (((N / 2 ^ (8 * k) : Nat) : Int) / 256) = ((N / 2 ^ (8 * (k + 1)) : Nat) : Int)) := div_wrap N k hN
      have HT : Hid (((N / 2 ^ (8 * k) : Nat) : Int) % 256 = byt N k) := byte_step N k
      generalize N / 2 ^ (8 * k) = v at *
      have hlt' : (k : Int) < wd := by omega
      have hidx : (p : Int) + k < len := by omega
      go_wp2
      go_roundw
      case rel => exact ⟨k + 1, by omega, by go_num, by rw [← HS.out], by rw [putW, Nat.add_assoc, ← HT.out]⟩
      case measure => simp [intOf]; omega
    · go_wp2
      obtain rfl : k = wd := by omega
      go_ret
      exact ⟨rfl, rfl⟩


/-! ### What a Put answers and leaves -/
def putE (len : Nat) (pos wd : Int) (n : Int) : Int := if wd < 1 ∨ 8 < wd then 10 else if pos < 0 ∨ (len : Int) - wd < pos then 3 else if fitB n wd = true then 0 else 10
def putL (l : List Int) (p : Nat) (n : Int) : Nat → List Int
  | 0 => l
  | k + 1 => (putL l p n k).set (p + k) (byt n k)
def putR (l : List Int) (pos wd : Int) (n : Int) : List Int := if putE l.length pos wd n = 0 then putL l pos.toNat n wd.toNat else l
theorem putL_length (l : List Int) (p : Nat) (n : Int) (k : Nat) : (putL l p n k).length = l.length := by
  induction k with
  | zero => rfl
  | succ k ih => rw [putL, List.length_set, ih]
theorem putR_length (l : List Int) (pos wd : Int) (n : Int) : (putR l pos wd n).length = l.length := by
  unfold putR
  split
  · exact putL_length _ _ _ _
  · rfl
theorem tail_putW {B g off cap m : Nat} {w : World} {l : List Int} (h : Tail B w 5 .u8 (.slice (some ⟨g, off, none⟩) m cap) l) (p : Nat) (n : Int) (k : Nat) (hk : p + k ≤ l.length) :
    Tail B (putW w g (off + p) n k) 5 .u8 (.slice (some ⟨g, off, none⟩) m cap) (putL l p n k) ∧ Upd (fun q => q = g) w (putW w g (off + p) n k) := by
  induction k with
  | zero => exact ⟨h, Upd.refl _ _⟩
  | succ k ih =>
    obtain ⟨i1, i2⟩ := ih (by omega)
    have h1 := (i1.set (p + k) (byt n k) (by rw [putL_length]; omega)).2.2
    rw [← Nat.add_assoc] at h1
    exact ⟨h1, i2.set _ _ (.inl rfl)⟩

theorem put_any (B : Nat) (v : Value) (l : List Int) (pos wd : Int) (N : Nat) (w : World) (hv : Hid (Tail B w 5 .u8 v l)) (hl : Hid (l.length ≤ 1000000)) (hN : N < 18446744073709551616) :
    Calls Try.prog 28 #[v, .int .i64 pos, .int .i64 wd, .int .u64 N] w fun e w' => e = .returned (.int .i64 (putE l.length pos wd N)) ∧ Hid (Tail B w' 5 .u8 v (putR l pos wd N)) ∧ Upd (fun q => v.ownBlock = some q) w w' := by
  have hlm : l.length ≤ maxLen := by have := hl.out; unfold maxLen; omega
  obtain ⟨a, cap, e0, -⟩ := hv.out.open
  by_cases h1 : wd < 1 ∨ 8 < wd
  · have he : putE l.length pos wd N = 10 := by unfold putE; rw [if_pos h1]
    subst e0
    refine (put_w a l.length cap pos wd N w h1).mono ?_; rintro e w' ⟨rfl, rfl⟩
    unfold putR
    rw [he, if_neg (by omega)]
    exact ⟨rfl, hv, Upd.refl _ _⟩
  · by_cases h2 : pos < 0 ∨ (l.length : Int) - wd < pos
    · have he : putE l.length pos wd N = 3 := by unfold putE; rw [if_neg h1, if_pos h2]
      subst e0
      refine (put_no a l.length cap pos wd N w (by omega) (by omega) hlm h2).mono ?_; rintro e w' ⟨rfl, rfl⟩
      unfold putR
      rw [he, if_neg (by omega)]
      exact ⟨rfl, hv, Upd.refl _ _⟩
    · obtain ⟨p, rfl⟩ := Int.eq_ofNat_of_zero_le (show 0 ≤ pos by omega)
      obtain ⟨d, rfl⟩ := Int.eq_ofNat_of_zero_le (show 0 ≤ wd by omega)
      by_cases h3 : fitB N d = true
      · have he : putE l.length p d N = 0 := by unfold putE; rw [if_neg h1, if_neg h2, if_pos h3]
        clear e0
        obtain ⟨g, off, cap, rfl, hc1, hc2, hg, hcell⟩ := hv.out.addr (by omega)
        refine (put_ok g off l.length cap p d N w (by omega) (by omega) hlm (by omega) h3 (fun i hi => ⟨_, hcell i hi⟩) (fun i hi => (hv.out.set i 0 hi).2.1)).mono ?_; rintro e w' ⟨rfl, rfl⟩
        unfold putR
        rw [he, if_pos rfl, Int.toNat_natCast, Int.toNat_natCast]
        obtain ⟨t1, t2⟩ := tail_putW hv.out p N d (by omega)
        exact ⟨rfl, t1, t2.mono (fun k _ hk => by subst hk; rfl)⟩
      · have he : putE l.length p d N = 10 := by unfold putE; rw [if_neg h1, if_neg h2, if_neg h3]
        subst e0
        refine (put_unfit a l.length cap p d N w (by omega) (by omega) hlm (by omega) (by omega) (by simpa using h3)).mono ?_; rintro e w' ⟨rfl, rfl⟩
        unfold putR
        rw [he, if_neg (by omega)]
        exact ⟨rfl, hv, Upd.refl _ _⟩

theorem rput_any (B : Nat) (v : Value) (l : List Int) (pos wd : Int) (N : Nat) (w : World) (hv : Hid (Tail B w 5 .u8 v l)) (hl : Hid (l.length ≤ 1000000)) (hN : N < 18446744073709551616) :
    Calls Try.prog 51 #[v, .int .i64 pos, .int .i64 wd, .int .u64 N] w fun e w' => e = .returned (.int .i64 (putE l.length pos wd N)) ∧ Hid (Tail B w' 5 .u8 v (putR l pos wd N)) ∧ Upd (fun q => v.ownBlock = some q) w w' := by
  have hlm : l.length ≤ maxLen := by have := hl.out; unfold maxLen; omega
  obtain ⟨a, cap, e0, -⟩ := hv.out.open
  by_cases h1 : wd < 1 ∨ 8 < wd
  · have he : putE l.length pos wd N = 10 := by unfold putE; rw [if_pos h1]
    subst e0
    refine (rput_w a l.length cap pos wd N w h1).mono ?_; rintro e w' ⟨rfl, rfl⟩
    unfold putR
    rw [he, if_neg (by omega)]
    exact ⟨rfl, hv, Upd.refl _ _⟩
  · by_cases h2 : pos < 0 ∨ (l.length : Int) - wd < pos
    · have he : putE l.length pos wd N = 3 := by unfold putE; rw [if_neg h1, if_pos h2]
      subst e0
      refine (rput_no a l.length cap pos wd N w (by omega) (by omega) hl.out h2).mono ?_; rintro e w' ⟨rfl, rfl⟩
      unfold putR
      rw [he, if_neg (by omega)]
      exact ⟨rfl, hv, Upd.refl _ _⟩
    · obtain ⟨p, rfl⟩ := Int.eq_ofNat_of_zero_le (show 0 ≤ pos by omega)
      obtain ⟨d, rfl⟩ := Int.eq_ofNat_of_zero_le (show 0 ≤ wd by omega)
      by_cases h3 : fitB N d = true
      · have he : putE l.length p d N = 0 := by unfold putE; rw [if_neg h1, if_neg h2, if_pos h3]
        clear e0
        obtain ⟨g, off, cap, rfl, hc1, hc2, hg, hcell⟩ := hv.out.addr (by omega)
        refine (rput_ok g off l.length cap p d N w hN (by omega) (by omega) hl.out (by omega) h3 (fun i hi => ⟨_, hcell i hi⟩) (fun i hi => (hv.out.set i 0 hi).2.1)).mono ?_; rintro e w' ⟨rfl, rfl⟩
        unfold putR
        rw [he, if_pos rfl, Int.toNat_natCast, Int.toNat_natCast]
        obtain ⟨t1, t2⟩ := tail_putW hv.out p N d (by omega)
        exact ⟨rfl, t1, t2.mono (fun k _ hk => by subst hk; rfl)⟩
      · have he : putE l.length p d N = 10 := by unfold putE; rw [if_neg h1, if_neg h2, if_neg h3]
        subst e0
        refine (rput_unfit a l.length cap p d N w hN (by omega) (by omega) hl.out (by omega) (by simpa using h3)).mono ?_; rintro e w' ⟨rfl, rfl⟩
        unfold putR
        rw [he, if_neg (by omega)]
        exact ⟨rfl, hv, Upd.refl _ _⟩

/-! ### An output -/
structure OutAt (t : TypeId) (B : Nat) (w : World) (b : Nat) (v : Value) (l : List Int) (most : Int) : Prop where
  blk : Blk w b t [v, .int .i64 most]
  tail : Tail B w 5 .u8 v l
  lo : B ≤ b
  ne : t ≠ 5
section
variable {t : TypeId} {B b : Nat} {w w' : World} {v : Value} {l : List Int} {most : Int}
theorem OutAt.upd {S : Nat → Prop} (i : OutAt t B w b v l most) (hu : Upd S w w') (hs : ∀ k, FI b v k → ¬ S k) : OutAt t B w' b v l most :=
  ⟨i.blk.upd hu (hs _ (.inl rfl)), i.tail.upd hu (fun q hq => hs q (.inr hq)), i.lo, i.ne⟩
theorem OutAt.later (i : OutAt t B w b v l most) (hB : Below w.heap.size w w') : OutAt t B w' b v l most := i.upd (Upd.of_below (S := fun _ => False) hB) (fun _ _ h => h)
theorem OutAt.fi (i : OutAt t B w b v l most) (k : Nat) (hk : FI b v k) : B ≤ k ∧ k < w.heap.size := by
  rcases hk with rfl | hk
  · exact ⟨i.lo, i.blk.lt⟩
  · exact i.tail.lt k hk
theorem OutAt.sep (i : OutAt t B w b v l most) : v.ownBlock ≠ some b := by
  intro e
  rcases i.tail with ⟨rfl, _⟩ | ⟨g, cap, pre, post, rfl, _, h2, _⟩
  · cases e
  · injection e with e
    have e' : g = b := e
    subst e'
    exact blk_ne h2 i.blk (fun e => i.ne e.symm) rfl
theorem OutAt.c0 (i : OutAt t B w b v l most) : w.cell? ⟨b, 0, none⟩ = some v := i.blk.cell 0
theorem OutAt.c1 (i : OutAt t B w b v l most) : w.cell? ⟨b, 1, none⟩ = some (.int .i64 most) := i.blk.cell 1
/-- What a call leaves of an output. -/
def OutTo (t : TypeId) (B : Nat) (w w' : World) (b : Nat) (v : Value) (l' : List Int) (most : Int) : Prop :=
  ∃ v', OutAt t B w' b v' l' most ∧ Upd (FI b v) w w' ∧ ∀ q, v'.ownBlock = some q → v.ownBlock = some q ∨ w.heap.size ≤ q
theorem out_drew {l' : List Int} (h : OutTo t B w.drew w' b v l' most) : OutTo t B w w' b v l' most := by
  obtain ⟨v', h1, h2, h3⟩ := h
  exact ⟨v', h1, (Upd.refl _ w).drew.to h2, h3⟩
theorem out_same (i : OutAt t B w b v l most) : OutTo t B w w b v l most := ⟨v, i, Upd.refl _ _, fun q hq => .inl hq⟩
theorem out_put {w2 : World} {v' : Value} {l' : List Int} (i : OutAt t B w b v l most) (hu : Upd (fun q => v.ownBlock = some q) w w2) (ht : Tail B w2 5 .u8 v' l') (hf : ∀ q, v'.ownBlock = some q → v.ownBlock = some q ∨ w.heap.size ≤ q) :
    OutTo t B w (w2.setCell ⟨b, 0, none⟩ v') b v l' most := by
  have hb : Blk w2 b t [v, .int .i64 most] := i.blk.upd hu i.sep
  refine ⟨v', ⟨hb.set 0 v', ht.upd ((Upd.refl (fun q => q = b) w2).set ⟨b, 0, none⟩ _ (.inl rfl)) (fun q hq e => ?_), i.lo, i.ne⟩, (hu.mono (fun k _ hk => .inr hk)).set _ _ (.inl (.inl rfl)), hf⟩
  subst e
  rcases hf q hq with e | e
  · exact i.sep e
  · have := i.blk.lt; omega
theorem out_patch {w2 : World} {l' : List Int} (i : OutAt t B w b v l most) (hu : Upd (fun q => v.ownBlock = some q) w w2) (ht : Tail B w2 5 .u8 v l') : OutTo t B w w2 b v l' most :=
  ⟨v, ⟨i.blk.upd hu i.sep, ht, i.lo, i.ne⟩, hu.mono (fun k _ hk => .inr hk), fun q hq => .inl hq⟩
end
theorem bytes_any (B b : Nat) (v : Value) (l : List Int) (most : Int) (w : World) (n : Nat) (hn : Hid (l.length = n)) (hs : n ≤ 140737488351232) (i : Hid (OutAt 67 B w b v l most)) :
    Calls Try.prog 11 #[.pointer (some ⟨b, 0, none⟩)] w fun e w' => ∃ g, e = .returned (.slice (some ⟨g, 0, none⟩) n n) ∧ w.heap.size ≤ g ∧ Hid (Blk w' g 5 (cellsL .u8 l)) ∧ Below w.heap.size w w' := by
  have c0 := i.out.c0
  obtain ⟨a, cap, rfl, hrow, -⟩ := i.out.tail.open
  have HR : Hid (Row .u8 w a l) := hrow
  rw [hn.out] at c0
  clear hrow
  go_enter Try.func11, Try.ntmps11
  go_wp2_with fail
  refine (copied_any a n cap l _ hn HR hs).mono ?_; rintro e w' ⟨g, rfl, hg, HB, hB⟩
  go_wp2
  go_ret
  exact ⟨g, rfl, hg, HB, hB⟩

theorem to_yes (m : Int) (w : World) (h0 : 0 ≤ m) :
    Calls Try.prog 7 #[.int .i64 m] w fun e w' => ∃ b, e = .returned (.tuple #[.pointer (some ⟨b, 0, none⟩), .int .i64 0]) ∧ w.heap.size ≤ b ∧ Hid (OutAt 67 w.heap.size w' b (.slice none 0 0) [] m) ∧ Below w.heap.size w w' := by
  go_enter Try.func7, Try.ntmps7
  go_wp2
  go_ret2
  exact ⟨w.heap.size, rfl, Nat.le_refl _, ⟨Blk.newA w _ _, Tail.nil _ _ _ _, Nat.le_refl _, by decide⟩, (Below.refl _ _).alloc (Nat.le_refl _) _⟩
theorem to_no (m : Int) (w : World) (h : ¬ 0 ≤ m) :
    Calls Try.prog 7 #[.int .i64 m] w fun e w' => e = .returned (.tuple #[.pointer none, .int .i64 3]) ∧ w = w' := by
  go_enter Try.func7, Try.ntmps7
  go_wp2
  go_ret2
  exact ⟨rfl, rfl⟩
theorem len_any (B b : Nat) (v : Value) (l : List Int) (most : Int) (w : World) (n : Nat) (hn : Hid (l.length = n)) (i : Hid (OutAt 67 B w b v l most)) :
    Calls Try.prog 10 #[.pointer (some ⟨b, 0, none⟩)] w fun e w' => e = .returned (.int .i64 n) ∧ w = w' := by
  have c0 := i.out.c0
  obtain ⟨a, cap, rfl, -⟩ := i.out.tail.open
  rw [hn.out] at c0
  go_enter Try.func10, Try.ntmps10
  go_wp2
  go_ret
  exact ⟨rfl, rfl⟩
theorem patch_any (B b : Nat) (v : Value) (l : List Int) (most : Int) (pos wd : Int) (N : Nat) (w : World) (i : Hid (OutAt 67 B w b v l most)) (hl : Hid (l.length ≤ 1000000)) (hN : N < 18446744073709551616) :
    Calls Try.prog 12 #[.pointer (some ⟨b, 0, none⟩), .int .i64 pos, .int .i64 wd, .int .u64 N] w fun e w' => e = .returned (.int .i64 (putE l.length pos wd N)) ∧ Hid (OutTo 67 B w w' b v (putR l pos wd N) most) := by
  have c0 := i.out.c0
  have HT : Hid _ := i.out.tail
  obtain ⟨a, cap, rfl, -⟩ := i.out.tail.open
  go_enter Try.func12, Try.ntmps12
  go_wp2_with fail
  refine (put_any B _ l pos wd N _ HT hl hN).mono ?_; rintro e w' ⟨rfl, HT2, hU⟩
  go_wp2
  go_ret
  exact ⟨rfl, out_patch i.out hU HT2.out⟩
set_option maxHeartbeats 1000000 in
theorem oput_any (B b : Nat) (v : Value) (l : List Int) (most : Int) (a : Option Addr) (m cap : Nat) (r : List Int) (w : World) (i : Hid (OutAt 67 B w b v l most)) (hr : Hid (r.length = m)) (hrow : Hid (Row .u8 w a r)) (hnil : Hid (a = none → cap = 0))
    (h0 : 0 ≤ most) (h1 : most ≤ 9223372036854775807) (hs : l.length + m ≤ 1000000) :
    Calls Try.prog 9 #[.pointer (some ⟨b, 0, none⟩), .slice a m cap] w fun e w' => e = .returned (.int .i64 (if (l.length : Int) + m ≤ most then 0 else 4)) ∧ Hid (OutTo 67 B w w' b v (if (l.length : Int) + m ≤ most then l ++ r else l) most) := by
  have c0 := i.out.c0
  have c1 := i.out.c1
  by_cases hc : (l.length : Int) + m ≤ most
  · rw [if_pos hc, if_pos hc]
    have iD : OutAt 67 B w.drew b v l most := i.out.later (Below.refl _ _).drew
    obtain ⟨v', w2, hr1, ht, hu, hf⟩ := run_app_tail E30 w.drew 30 B v l iD.tail a m cap r hr.out hrow.out.drew hnil.out (by unfold maxLen; omega) (by omega) (Nat.le_trans i.out.lo (Nat.le_of_lt i.out.blk.lt))
    have hb2 := iD.blk.upd hu iD.sep
    have d0 : w2.cell? ⟨b, 0, none⟩ = some v := hb2.cell 0
    have z0 := hb2.frozen 0
    have R1 : Hid _ := hr1
    have HT : Hid _ := out_drew (out_put iD hu ht hf)
    obtain ⟨a1, q1, rfl, -⟩ := i.out.tail.open
    obtain ⟨a2, q2, rfl, -⟩ := ht.open
    clear hr1 hu ht hf hb2 iD
    generalize List.length (l ++ r) = n2 at *
    generalize List.length l = n1 at *
    have k1 : ¬ most - n1 < m := by omega
    have k2 : wrap64 (most - n1) = most - n1 := w64 _ (by omega)
    clear hc
    go_enter Try.func9, Try.ntmps9
    go_wp2_with fail
    go_region
    go_wp2_with (at_builtin; have _t := R1; refine wpList_append_run rfl (.tmp 22) (.tmp 23) 30 30 rfl rfl rfl R1.out ?_; clear R1)
    go_ret
    exact ⟨rfl, HT⟩
  · rw [if_neg hc, if_neg hc]
    have HT : Hid _ := out_drew (out_same (i.out.later (Below.refl _ _).drew))
    obtain ⟨a1, q1, rfl, -⟩ := i.out.tail.open
    generalize List.length l = n1 at *
    have k1 : most - n1 < m := by omega
    have k2 : wrap64 (most - n1) = most - n1 := w64 _ (by omega)
    clear hc
    go_enter Try.func9, Try.ntmps9
    go_wp2_with fail
    go_region
    go_wp2
    go_ret
    exact ⟨rfl, HT⟩

theorem rto_yes (m : Int) (w : World) (h0 : 0 ≤ m) :
    Calls Try.prog 41 #[.int .i64 m] w fun e w' => ∃ b, e = .returned (.tuple #[.pointer (some ⟨b, 0, none⟩), .int .i64 0]) ∧ w.heap.size ≤ b ∧ Hid (OutAt 84 w.heap.size w' b (.slice none 0 0) [] m) ∧ Below w.heap.size w w' := by
  go_enter Try.func41, Try.ntmps41
  go_wp2
  go_ret2
  exact ⟨w.heap.size, rfl, Nat.le_refl _, ⟨Blk.newA w _ _, Tail.nil _ _ _ _, Nat.le_refl _, by decide⟩, (Below.refl _ _).alloc (Nat.le_refl _) _⟩
theorem rto_no (m : Int) (w : World) (h : ¬ 0 ≤ m) :
    Calls Try.prog 41 #[.int .i64 m] w fun e w' => e = .returned (.tuple #[.pointer none, .int .i64 3]) ∧ w = w' := by
  go_enter Try.func41, Try.ntmps41
  go_wp2
  go_ret2
  exact ⟨rfl, rfl⟩
theorem rlen_any (B b : Nat) (v : Value) (l : List Int) (most : Int) (w : World) (n : Nat) (hn : Hid (l.length = n)) (i : Hid (OutAt 84 B w b v l most)) :
    Calls Try.prog 43 #[.pointer (some ⟨b, 0, none⟩)] w fun e w' => e = .returned (.int .i64 n) ∧ w = w' := by
  have c0 := i.out.c0
  obtain ⟨a, cap, rfl, -⟩ := i.out.tail.open
  rw [hn.out] at c0
  go_enter Try.func43, Try.ntmps43
  go_wp2
  go_ret
  exact ⟨rfl, rfl⟩
theorem rpatch_any (B b : Nat) (v : Value) (l : List Int) (most : Int) (pos wd : Int) (N : Nat) (w : World) (i : Hid (OutAt 84 B w b v l most)) (hl : Hid (l.length ≤ 1000000)) (hN : N < 18446744073709551616) :
    Calls Try.prog 44 #[.pointer (some ⟨b, 0, none⟩), .int .i64 pos, .int .i64 wd, .int .u64 N] w fun e w' => e = .returned (.int .i64 (putE l.length pos wd N)) ∧ Hid (OutTo 84 B w w' b v (putR l pos wd N) most) := by
  have c0 := i.out.c0
  have HT : Hid _ := i.out.tail
  obtain ⟨a, cap, rfl, -⟩ := i.out.tail.open
  go_enter Try.func44, Try.ntmps44
  go_wp2_with fail
  refine (rput_any B _ l pos wd N _ HT hl hN).mono ?_; rintro e w' ⟨rfl, HT2, hU⟩
  go_wp2
  go_ret
  exact ⟨rfl, out_patch i.out hU HT2.out⟩
set_option maxHeartbeats 1000000 in
theorem roput_any (B b : Nat) (v : Value) (l : List Int) (most : Int) (a : Option Addr) (m cap : Nat) (r : List Int) (w : World) (i : Hid (OutAt 84 B w b v l most)) (hr : Hid (r.length = m)) (hrow : Hid (Row .u8 w a r)) (hnil : Hid (a = none → cap = 0))
    (h0 : 0 ≤ most) (h1 : most ≤ 9223372036854775807) (hs : l.length + m ≤ 1000000) :
    Calls Try.prog 42 #[.pointer (some ⟨b, 0, none⟩), .slice a m cap] w fun e w' => e = .returned (.int .i64 (if (l.length : Int) + m ≤ most then 0 else 4)) ∧ Hid (OutTo 84 B w w' b v (if (l.length : Int) + m ≤ most then l ++ r else l) most) := by
  have c0 := i.out.c0
  have c1 := i.out.c1
  by_cases hc : (l.length : Int) + m ≤ most
  · rw [if_pos hc, if_pos hc]
    have iD : OutAt 84 B w.drew b v l most := i.out.later (Below.refl _ _).drew
    obtain ⟨v', w2, hr1, ht, hu, hf⟩ := run_app_tail E30 w.drew 30 B v l iD.tail a m cap r hr.out hrow.out.drew hnil.out (by unfold maxLen; omega) (by omega) (Nat.le_trans i.out.lo (Nat.le_of_lt i.out.blk.lt))
    have hb2 := iD.blk.upd hu iD.sep
    have d0 : w2.cell? ⟨b, 0, none⟩ = some v := hb2.cell 0
    have z0 := hb2.frozen 0
    have R1 : Hid _ := hr1
    have HT : Hid _ := out_drew (out_put iD hu ht hf)
    obtain ⟨a1, q1, rfl, -⟩ := i.out.tail.open
    obtain ⟨a2, q2, rfl, -⟩ := ht.open
    clear hr1 hu ht hf hb2 iD
    generalize List.length (l ++ r) = n2 at *
    generalize List.length l = n1 at *
    have k1 : ¬ most - n1 < m := by omega
    have k2 : wrap64 (most - n1) = most - n1 := w64 _ (by omega)
    clear hc
    go_enter Try.func42, Try.ntmps42
    go_wp2_with fail
    go_region
    go_wp2_with (at_builtin; have _t := R1; refine wpList_append_run rfl (.tmp 22) (.tmp 23) 30 30 rfl rfl rfl R1.out ?_; clear R1)
    go_ret
    exact ⟨rfl, HT⟩
  · rw [if_neg hc, if_neg hc]
    have HT : Hid _ := out_drew (out_same (i.out.later (Below.refl _ _).drew))
    obtain ⟨a1, q1, rfl, -⟩ := i.out.tail.open
    generalize List.length l = n1 at *
    have k1 : most - n1 < m := by omega
    have k2 : wrap64 (most - n1) = most - n1 := w64 _ (by omega)
    clear hc
    go_enter Try.func42, Try.ntmps42
    go_wp2_with fail
    go_region
    go_wp2
    go_ret
    exact ⟨rfl, HT⟩
end Go.Proofs.Ytmeplmhngmlnaaa
