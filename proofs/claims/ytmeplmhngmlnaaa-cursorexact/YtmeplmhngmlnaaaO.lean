/- The document's input. -/
import Derived.Test.YtmeplmhngmlnaaaF
namespace Go.Proofs.Ytmeplmhngmlnaaa
open Go.RowKit
set_option linter.unusedVariables false

structure RinAt (B : Nat) (w : World) (b : Nat) (v : Value) (l : List Int) (T : Nat) (F : Int) (en : Bool) : Prop where
  blk : Blk w b 90 [v, .int .i64 T, .int .i64 F, .bool en]
  all : Tail B w 5 .u8 v l
  lo : B ≤ b
  le : T ≤ l.length
section
variable {B b T T' : Nat} {w w' : World} {v : Value} {l l' : List Int} {F : Int} {en en' : Bool}
theorem RinAt.upd {S : Nat → Prop} (i : RinAt B w b v l T F en) (hu : Upd S w w') (hs : ∀ k, FI b v k → ¬ S k) : RinAt B w' b v l T F en :=
  ⟨i.blk.upd hu (hs _ (.inl rfl)), i.all.upd hu (fun q hq => hs q (.inr hq)), i.lo, i.le⟩
theorem RinAt.later (i : RinAt B w b v l T F en) (hB : Below w.heap.size w w') : RinAt B w' b v l T F en := i.upd (Upd.of_below (S := fun _ => False) hB) (fun _ _ h => h)
theorem RinAt.fi (i : RinAt B w b v l T F en) (k : Nat) (hk : FI b v k) : B ≤ k ∧ k < w.heap.size := by
  rcases hk with rfl | hk
  · exact ⟨i.lo, i.blk.lt⟩
  · exact i.all.lt k hk
theorem RinAt.sep (i : RinAt B w b v l T F en) : v.ownBlock ≠ some b := tail_ne i.all i.blk (by decide)
theorem RinAt.c0 (i : RinAt B w b v l T F en) : w.cell? ⟨b, 0, none⟩ = some v := i.blk.cell 0
theorem RinAt.c1 (i : RinAt B w b v l T F en) : w.cell? ⟨b, 1, none⟩ = some (.int .i64 T) := i.blk.cell 1
theorem RinAt.c2 (i : RinAt B w b v l T F en) : w.cell? ⟨b, 2, none⟩ = some (.int .i64 F) := i.blk.cell 2
theorem RinAt.c3 (i : RinAt B w b v l T F en) : w.cell? ⟨b, 3, none⟩ = some (.bool en) := i.blk.cell 3
theorem RinAt.base (i : RinAt B w b v l T F en) : B ≤ w.heap.size := Nat.le_trans i.lo (Nat.le_of_lt i.blk.lt)
theorem RinAt.mono {B' : Nat} (i : RinAt B w b v l T F en) (hb : B' ≤ B) : RinAt B' w b v l T F en := ⟨i.blk, i.all.mono hb, by have := i.lo; omega, i.le⟩
def RinTo (B : Nat) (w w' : World) (b : Nat) (v : Value) (l' : List Int) (T' : Nat) (F : Int) (en' : Bool) : Prop :=
  ∃ v', RinAt B w' b v' l' T' F en' ∧ Upd (FI b v) w w' ∧ ∀ q, v'.ownBlock = some q → v.ownBlock = some q ∨ w.heap.size ≤ q
theorem rin_same (i : RinAt B w b v l T F en) : RinTo B w w b v l T F en := ⟨v, i, Upd.refl _ _, fun q hq => .inl hq⟩
theorem rin_drew {w' : World} (h : RinTo B w.drew w' b v l' T' F en') : RinTo B w w' b v l' T' F en' := by
  obtain ⟨v', h1, h2, h3⟩ := h
  exact ⟨v', h1, (Upd.refl _ w).drew.to h2, h3⟩
theorem rgive_to {w2 : World} {v' : Value} (i : RinAt B w b v l T F en) (hu : Upd (fun q => v.ownBlock = some q) w w2) (ht : Tail B w2 5 .u8 v' l') (hl : T ≤ l'.length) (hf : ∀ q, v'.ownBlock = some q → v.ownBlock = some q ∨ w.heap.size ≤ q) :
    RinTo B w (w2.setCell ⟨b, 0, none⟩ v') b v l' T F en := by
  have hb : Blk w2 b 90 [v, .int .i64 T, .int .i64 F, .bool en] := i.blk.upd hu i.sep
  refine ⟨v', ⟨hb.set 0 v', ht.upd ((Upd.refl (fun q => q = b) w2).set ⟨b, 0, none⟩ _ (.inl rfl)) (fun q hq e => ?_), i.lo, hl⟩, (hu.mono (fun k _ hk => .inr hk)).set _ _ (.inl (.inl rfl)), hf⟩
  subst e
  rcases hf q hq with e | e
  · exact i.sep e
  · have := i.blk.lt; omega
theorem rtake_to (i : RinAt B w b v l T F en) (hl : T' ≤ l.length) : RinTo B w (w.setCell ⟨b, 1, none⟩ (.int .i64 T')) b v l T' F en := by
  have hu : Upd (fun q => q = b) w (w.setCell ⟨b, 1, none⟩ (.int .i64 T')) := (Upd.refl (fun q => q = b) w).set ⟨b, 1, none⟩ _ (.inl rfl)
  exact ⟨v, ⟨i.blk.set 1 _, i.all.upd hu (fun q hq e => i.sep (by rw [← e]; exact hq)), i.lo, hl⟩, hu.mono (fun k _ hk => .inl hk), fun q hq => .inl hq⟩
theorem rend_to (i : RinAt B w b v l T F en) : RinTo B w (w.setCell ⟨b, 3, none⟩ (.bool true)) b v l T F true := by
  have hu : Upd (fun q => q = b) w (w.setCell ⟨b, 3, none⟩ (.bool true)) := (Upd.refl (fun q => q = b) w).set ⟨b, 3, none⟩ _ (.inl rfl)
  exact ⟨v, ⟨i.blk.set 3 _, i.all.upd hu (fun q hq e => i.sep (by rw [← e]; exact hq)), i.lo, i.le⟩, hu.mono (fun k _ hk => .inl hk), fun q hq => .inl hq⟩
end
theorem rnew_yes (m : Int) (w : World) (h0 : 0 ≤ m) (h1 : m ≤ 2147483647) :
    Calls Try.prog 31 #[.int .i64 m] w fun e w' => ∃ b, e = .returned (.tuple #[.pointer (some ⟨b, 0, none⟩), .int .i64 0]) ∧ w.heap.size ≤ b ∧ Hid (RinAt w.heap.size w' b (.slice none 0 0) [] 0 m false) ∧ Below w.heap.size w w' := by
  go_enter Try.func31, Try.ntmps31
  go_wp2
  go_ret2
  exact ⟨w.heap.size, rfl, Nat.le_refl _, ⟨Blk.newA w _ _, Tail.nil _ _ _ _, Nat.le_refl _, Nat.zero_le _⟩, (Below.refl _ _).alloc (Nat.le_refl _) _⟩
theorem rnew_no (m : Int) (w : World) (h : ¬ (0 ≤ m ∧ m ≤ 2147483647)) :
    Calls Try.prog 31 #[.int .i64 m] w fun e w' => e = .returned (.tuple #[.pointer none, .int .i64 3]) ∧ w = w' := by
  by_cases h0 : 0 ≤ m
  · have h1 : ¬ m ≤ 2147483647 := by omega
    clear h
    go_enter Try.func31, Try.ntmps31
    go_wp2
    go_ret2
    exact ⟨rfl, rfl⟩
  · clear h
    go_enter Try.func31, Try.ntmps31
    go_wp2
    go_ret2
    exact ⟨rfl, rfl⟩
theorem rended_any (B b : Nat) (v : Value) (l : List Int) (T : Nat) (F : Int) (en : Bool) (w : World) (i : Hid (RinAt B w b v l T F en)) :
    Calls Try.prog 50 #[.pointer (some ⟨b, 0, none⟩)] w fun e w' => e = .returned (.bool en) ∧ w = w' := by
  have c1 := i.out.c3
  go_enter Try.func50, Try.ntmps50
  go_wp2
  go_ret
  exact ⟨rfl, rfl⟩
theorem rat_any (B b : Nat) (v : Value) (l : List Int) (T : Nat) (F p : Int) (en : Bool) (w : World) (i : Hid (RinAt B w b v l T F en)) (hp : F + T = p) (h0 : 0 ≤ F) (h1 : F + T ≤ 9223372036854775807) :
    Calls Try.prog 48 #[.pointer (some ⟨b, 0, none⟩)] w fun e w' => e = .returned (.int .i64 p) ∧ w.drew = w' := by
  have c1 := i.out.c1
  have c2 := i.out.c2
  subst hp
  have k1 : wrap64 (F + T) = F + T := w64 _ (by omega)
  go_enter Try.func48, Try.ntmps48
  go_wp2_with fail
  go_region
  go_wp2
  go_ret
  exact ⟨rfl, rfl⟩
theorem rheld_any (B b : Nat) (v : Value) (l : List Int) (T : Nat) (F : Int) (en : Bool) (w : World) (n : Nat) (hn : Hid ((l.drop T).length = n)) (i : Hid (RinAt B w b v l T F en)) (hs : Hid (l.length ≤ 1000000)) :
    Calls Try.prog 49 #[.pointer (some ⟨b, 0, none⟩)] w fun e w' => e = .returned (.int .i64 n) ∧ w.drew = w' := by
  have c0 := i.out.c0
  have c1 := i.out.c1
  obtain ⟨a, cap, rfl, -⟩ := i.out.all.open
  have hle := i.out.le
  have hlen := hn.out
  have hsz := hs.out
  rw [List.length_drop] at hlen
  obtain ⟨L, hL⟩ : ∃ L, l.length = L := ⟨_, rfl⟩
  rw [hL] at c0 hle hlen hsz
  have k1 : wrap64 ((L : Int) - T) = n := by rw [w64 _ (by omega)]; omega
  have HX : Hid ((L : Int) - T = n) := by show _ = _; omega
  clear hL hlen
  go_enter Try.func49, Try.ntmps49
  go_wp2_with fail
  go_region
  go_wp2
  go_ret
  exact ⟨ret_int HX.out, rfl⟩
theorem rend_any (B b : Nat) (v : Value) (l : List Int) (T : Nat) (F : Int) (en : Bool) (w : World) (i : Hid (RinAt B w b v l T F en)) :
    Calls Try.prog 36 #[.pointer (some ⟨b, 0, none⟩)] w fun e w' => e = .returned (.int .i64 (if en then 30 else 0)) ∧ Hid (RinTo B w w' b v l T F true) := by
  have c3 := i.out.c3
  have z3 := i.out.blk.frozen 3
  cases en with
  | true =>
    go_enter Try.func36, Try.ntmps36
    go_wp2
    go_ret
    exact ⟨rfl, rin_same i.out⟩
  | false =>
    have HT : Hid _ := rend_to i.out
    go_enter Try.func36, Try.ntmps36
    go_wp2
    go_ret
    exact ⟨rfl, HT⟩
set_option maxHeartbeats 1000000 in
theorem rgive_any (B b : Nat) (v : Value) (l : List Int) (T : Nat) (F : Int) (en : Bool) (a : Option Addr) (m cap : Nat) (r : List Int) (w : World) (i : Hid (RinAt B w b v l T F en)) (hr : Hid (r.length = m)) (hrow : Hid (Row .u8 w a r)) (hnil : Hid (a = none → cap = 0))
    (hs : Hid (l.length + m ≤ 140737488355328)) :
    Calls Try.prog 33 #[.pointer (some ⟨b, 0, none⟩), .slice a m cap] w fun e w' => e = .returned (.int .i64 (if en then 30 else 0)) ∧ Hid (RinTo B w w' b v (if en then l else l ++ r) T F en) := by
  have c0 := i.out.c0
  have c3 := i.out.c3
  cases en with
  | true =>
    go_enter Try.func33, Try.ntmps33
    go_wp2
    go_ret
    exact ⟨rfl, rin_same i.out⟩
  | false =>
    have hsz := hs.out
    obtain ⟨v', w2, hr1, ht, hu, hf⟩ := run_app_tail E30 w 30 B v l i.out.all a m cap r hr.out hrow.out hnil.out (by unfold maxLen; omega) (by omega) i.out.base
    have hb2 := i.out.blk.upd hu i.out.sep
    have d0 : w2.cell? ⟨b, 0, none⟩ = some v := hb2.cell 0
    have z0 := hb2.frozen 0
    have R1 : Hid _ := hr1
    have HT : Hid _ := rgive_to i.out hu ht (by have := i.out.le; rw [List.length_append]; omega) hf
    obtain ⟨a1, q1, rfl, -⟩ := i.out.all.open
    obtain ⟨a2, q2, rfl, -⟩ := ht.open
    clear hr1 hu ht hf hb2 hsz hs
    generalize List.length (l ++ r) = n2 at *
    generalize List.length l = n1 at *
    go_enter Try.func33, Try.ntmps33
    go_wp2_with (at_builtin; have _t := R1; refine wpList_append_run rfl (.tmp 13) (.tmp 14) 30 30 rfl rfl rfl R1.out ?_; clear R1)
    go_ret
    exact ⟨rfl, HT⟩
set_option maxHeartbeats 1000000 in
theorem rskip_any (B b : Nat) (v : Value) (l : List Int) (T : Nat) (F : Int) (en : Bool) (m : Int) (w : World) (n : Nat) (hn : Hid ((l.drop T).length = n)) (i : Hid (RinAt B w b v l T F en)) (hs : Hid (l.length ≤ 1000000)) :
    Calls Try.prog 40 #[.pointer (some ⟨b, 0, none⟩), .int .i64 m] w fun e w' => e = .returned (.int .i64 (if 0 ≤ m ∧ m ≤ n then 0 else 3)) ∧ Hid (RinTo B w w' b v l (if 0 ≤ m ∧ m ≤ n then T + m.toNat else T) F en) := by
  have c1 := i.out.c1
  have z1 := i.out.blk.frozen 1
  have hTn : T + n ≤ 1000000 := by have h1 := hn.out; have h2 := hs.out; have h3 := i.out.le; rw [List.length_drop] at h1; omega
  have hTl : T + n = l.length := by have h1 := hn.out; have h3 := i.out.le; rw [List.length_drop] at h1; omega
  by_cases h0 : 0 ≤ m
  · obtain ⟨k, rfl⟩ := Int.eq_ofNat_of_zero_le h0
    by_cases h1 : (k : Int) ≤ n
    · rw [if_pos ⟨h0, h1⟩, if_pos ⟨h0, h1⟩, Int.toNat_natCast]
      have HT : Hid (RinTo B w.drew ((w.drew).setCell ⟨b, 1, none⟩ (.int .i64 ((T + k : Nat) : Int))) b v l (T + k) F en) := rtake_to (i.out.later (Below.refl _ _).drew) (by omega)
      have k1 : ¬ (k : Int) < 0 := by omega
      have k2 : ¬ (n : Int) < k := by omega
      have k3 : wrap64 ((T : Int) + k) = ((T + k : Nat) : Int) := by rw [w64 _ (by omega)]; omega
      clear hTl
      go_enter Try.func40, Try.ntmps40
      go_wp2_with fail
      refine (rheld_any B b v l T F en _ n hn i hs).mono ?_; rintro e w9 ⟨rfl, hw9⟩
      subst hw9
      go_wp2
      go_ret
      exact ⟨rfl, rin_drew HT.out⟩
    · rw [if_neg (fun h => h1 h.2), if_neg (fun h => h1 h.2)]
      have HT : Hid _ := rin_drew (rin_same (i.out.later (Below.refl _ _).drew))
      have k1 : ¬ (k : Int) < 0 := by omega
      have k2 : (n : Int) < k := by omega
      clear hTl h1
      go_enter Try.func40, Try.ntmps40
      go_wp2_with fail
      refine (rheld_any B b v l T F en _ n hn i hs).mono ?_; rintro e w9 ⟨rfl, hw9⟩
      subst hw9
      go_wp2
      go_ret
      exact ⟨rfl, HT⟩
  · rw [if_neg (fun h => h0 h.1), if_neg (fun h => h0 h.1)]
    have k1 : m < 0 := by omega
    clear hTl
    go_enter Try.func40, Try.ntmps40
    go_wp2
    go_ret
    exact ⟨rfl, rin_same i.out⟩
end Go.Proofs.Ytmeplmhngmlnaaa
