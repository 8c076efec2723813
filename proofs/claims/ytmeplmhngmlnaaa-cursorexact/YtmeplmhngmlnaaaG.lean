/- CursorCap: what lies in memory. -/
import Derived.Test.YtmeplmhngmlnaaaF
namespace Go.Proofs.Ytmeplmhngmlnaaa
open Go.RowKit
set_option linter.unusedVariables false

theorem conv_later {B : Nat} {w : World} {a : Option Addr} {n c : Nat} {L : List Int} (h : Tail B w 5 .u8 (.slice a n c) L) : ∀ w', Below w.heap.size w w' → (convert 30 9 (.slice a n c)).run Try.prog w' = .ok (.string (strOfNums L)) w' := by
  intro w' hB
  obtain ⟨a', c', e, hr, _⟩ := (h.later hB).open
  injection e with e1 e2 e3
  subst e1 e2 e3
  exact conv_row E30 Try.underlying9 w' a _ c L rfl hr
theorem conv_blk {w : World} {g n : Nat} {L : List Int} (h : Blk w g 5 (cellsL .u8 L)) (hn : L.length = n) : ∀ w', Below w.heap.size w w' → (convert 30 9 (.slice (some ⟨g, 0, none⟩) n n)).run Try.prog w' = .ok (.string (strOfNums L)) w' := by
  intro w' hB
  exact conv_row E30 Try.underlying9 w' _ n n L hn (h.later hB).row
/-- A Put that does not fit changes nothing. -/
theorem put_same (a : Option Addr) (len cap : Nat) (pos wd : Int) (N : Nat) (w : World) (hl : len ≤ 1000000) (h : putE len pos wd N ≠ 0) :
    Calls Try.prog 28 #[.slice a len cap, .int .i64 pos, .int .i64 wd, .int .u64 N] w fun e w' => e = .returned (.int .i64 (putE len pos wd N)) ∧ w = w' := by
  have hlm : len ≤ maxLen := by unfold maxLen; omega
  by_cases h1 : wd < 1 ∨ 8 < wd
  · have he : putE len pos wd N = 10 := by unfold putE; rw [if_pos h1]
    rw [he]
    exact put_w a len cap pos wd N w h1
  · by_cases h2 : pos < 0 ∨ (len : Int) - wd < pos
    · have he : putE len pos wd N = 3 := by unfold putE; rw [if_neg h1, if_pos h2]
      rw [he]
      exact put_no a len cap pos wd N w (by omega) (by omega) hlm h2
    · by_cases h3 : fitB N wd = true
      · exact absurd (by unfold putE; rw [if_neg h1, if_neg h2, if_pos h3]) h
      · have he : putE len pos wd N = 10 := by unfold putE; rw [if_neg h1, if_neg h2, if_neg h3]
        rw [he]
        exact put_unfit a len cap pos wd N w (by omega) (by omega) hlm (by omega) (by omega) (by simpa using h3)
theorem patch_same (B b : Nat) (v : Value) (l : List Int) (most : Int) (pos wd : Int) (N : Nat) (x : Int) (w : World) (i : OutAt 67 B w b v l most) (hl : l.length ≤ 1000000) (hx : putE l.length pos wd N = x) (h : x ≠ 0) :
    Calls Try.prog 12 #[.pointer (some ⟨b, 0, none⟩), .int .i64 pos, .int .i64 wd, .int .u64 N] w fun e w' => e = .returned (.int .i64 x) ∧ w = w' := by
  subst hx
  have c0 := i.c0
  obtain ⟨a, cap, rfl, -⟩ := i.tail.open
  go_enter Try.func12, Try.ntmps12
  go_wp2_with fail
  refine (put_same a l.length cap pos wd N _ hl h).mono ?_; rintro e w' ⟨rfl, rfl⟩
  go_wp2
  go_ret
  exact ⟨rfl, rfl⟩

/-- What the loop keeps: the output and the list that is wanted hold the same. -/
structure CapSt (B : Nat) (w0 w : World) (o : Nat) (vo vw : Value) (L : List Int) (M : Int) : Prop where
  out : OutAt 67 B w o vo L M
  want : Tail B w 5 .u8 vw L
  sep : ∀ q, vw.ownBlock = some q → ¬ FI o vo q
  bel : Below B w0 w
  len : (L.length : Int) ≤ M
section
variable {B : Nat} {w0 w w' : World} {o : Nat} {vo vw : Value} {L : List Int} {M : Int}
theorem CapSt.later (s : CapSt B w0 w o vo vw L M) (hB : Below w.heap.size w w') : CapSt B w0 w' o vo vw L M :=
  ⟨s.out.later hB, s.want.later hB, s.sep, s.bel.trans (hB.mono s.out.base), s.len⟩
theorem cap_put {L' : List Int} {vo' : Value} (s : CapSt B w0 w o vo vw L M) (hs : OutTo 67 B w w' o vo L' M) : ∃ vo', OutAt 67 B w' o vo' L' M ∧ Tail B w' 5 .u8 vw L ∧ (∀ q, vw.ownBlock = some q → ¬ FI o vo' q) ∧ Below B w0 w' := by
  obtain ⟨v', h1, h2, h3⟩ := hs
  refine ⟨v', h1, s.want.upd h2 s.sep, fun q hq => ?_, s.bel.trans (out_below s.out h2)⟩
  rintro (e | e)
  · exact s.sep q hq (.inl e)
  · rcases h3 q e with e2 | e2
    · exact s.sep q hq (.inr e2)
    · have := (s.want.lt q hq).2; omega
/-- want grows. -/
theorem cap_app {r : List Int} {a : Option Addr} {m c : Nat} (ho : OutAt 67 B w o vo (L ++ r) M) (hw : Tail B w 5 .u8 vw L) (hsep : ∀ q, vw.ownBlock = some q → ¬ FI o vo q) (hB : Below B w0 w) (hlen : ((L ++ r).length : Int) ≤ M) (hM : M ≤ 5000)
    (hr : r.length = m) (hrow : Row .u8 w a r) (hnil : a = none → c = 0) (hb : B ≤ w.heap.size) :
    ∃ a1 c1 w1, (Builtin.append_ #[30, 30] 30 #[vw, .slice a m c]).run Try.prog w = .ok (.slice a1 (L ++ r).length c1) w1 ∧ CapSt B w0 w1 o vo (.slice a1 (L ++ r).length c1) (L ++ r) M := by
  have hl2 : (L ++ r).length = L.length + m := by rw [List.length_append, hr]
  obtain ⟨v', w1, h1, h2, h3, h4⟩ := run_app_tail E30 w 30 B vw L hw a m c r hr hrow hnil (by unfold maxLen; omega) (by omega) hb
  obtain ⟨a1, c1, rfl, -⟩ := h2.open
  refine ⟨a1, c1, w1, h1, ⟨ho.upd h3 (fun k hk e => hsep k e hk), h2, fun q hq hk => ?_, hB.trans (h3.below B hb (fun k hk => (hw.lt k hk).1)), hlen⟩⟩
  rcases h4 q hq with e | e
  · exact hsep q e hk
  · have := (ho.fi q hk).2; omega
end
theorem fit1 (N : Nat) : fitB N 1 = decide (N < 256) := by
  unfold fitB
  rw [show ((8 * 1 : Int)).toNat = 8 from rfl]
  by_cases h : N < 256
  · have e : (N : Int) / 2 ^ 8 = 0 := by omega
    rw [e]; simp [h]
  · have e : ¬ (N : Int) / 2 ^ 8 = 0 := by omega
    simp [h]
    omega
theorem putE_in (len A N : Nat) (h : A < len) (hN : N < 256) : putE len A 1 N = 0 := by
  unfold putE
  rw [if_neg (by omega), if_neg (by omega), fit1, if_pos (by simpa using hN)]
theorem putE_big (len A N : Nat) (h : A < len) (hN : 256 ≤ N) : putE len A 1 N = 10 := by
  unfold putE
  rw [if_neg (by omega), if_neg (by omega), fit1, if_neg (by simpa using hN)]
theorem putE_end (len N : Nat) : putE len len 1 N = 3 := by
  unfold putE
  rw [if_neg (by omega), if_pos (by omega)]
theorem putR_one (L : List Int) (A N : Nat) (h : A < L.length) (hN : N < 256) : putR L A 1 N = L.set A N := by
  unfold putR
  rw [putE_in _ _ _ h hN, if_pos rfl, Int.toNat_natCast, show (1 : Int).toNat = 0 + 1 from rfl, putL, putL, Nat.add_zero]
  congr 1
  rw [byt_nat]
  unfold bytN
  simp
  omega
theorem cap_set {B : Nat} {w0 w : World} {o : Nat} {vo : Value} {L : List Int} {M x : Int} {g off n c A : Nat} (ho : OutAt 67 B w o vo (L.set A x) M) (ht : Tail B w 5 .u8 (.slice (some ⟨g, off, none⟩) n c) L) (hsep : ∀ q, (Value.slice (some ⟨g, off, none⟩) n c).ownBlock = some q → ¬ FI o vo q)
    (hB : Below B w0 w) (hl : (L.length : Int) ≤ M) (hA : A < L.length) : CapSt B w0 (w.setCell ⟨g, off + A, none⟩ (.int .u8 x)) o vo (.slice (some ⟨g, off, none⟩) n c) (L.set A x) M := by
  have hu : Upd (fun q => q = g) w (w.setCell ⟨g, off + A, none⟩ (.int .u8 x)) := (Upd.refl (fun q => q = g) w).set _ _ (.inl rfl)
  exact ⟨ho.upd hu (fun k hk e => hsep g rfl (by rw [← e]; exact hk)), (ht.set A x hA).2.2, hsep, hB.setCell (ht.lt g rfl).1 _, by rw [List.length_set]; exact hl⟩
def PartsAt (w : World) (a0 : Option Addr) (len : Nat) : Prop :=
  ∀ i, i < len → ∃ b off a m c l, a0 = some ⟨b, off, none⟩ ∧ b < w.heap.size ∧ w.cell? ⟨b, off + i, none⟩ = some (.slice a m c) ∧ m ≤ c ∧ c ≤ maxLen ∧ List.length l = m ∧ Row .u8 w a l ∧ (a = none → c = 0)

end Go.Proofs.Ytmeplmhngmlnaaa
