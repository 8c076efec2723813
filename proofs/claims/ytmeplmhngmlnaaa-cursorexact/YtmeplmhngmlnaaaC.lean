/- Give, Take, Peek, Skip. -/
import Derived.Test.YtmeplmhngmlnaaaB
namespace Go.Proofs.Ytmeplmhngmlnaaa
open Go.RowKit
set_option linter.unusedVariables false

/-- What a call leaves of an input. -/
def InTo (B : Nat) (w w' : World) (b : Nat) (v : Value) (h' : List Int) (p' : Int) (en' : Bool) : Prop :=
  ∃ v', InAt B w' b v' h' p' en' ∧ Upd (FI b v) w w' ∧ ∀ q, v'.ownBlock = some q → v.ownBlock = some q ∨ w.heap.size ≤ q
section
variable {B b : Nat} {w w' : World} {v : Value} {h : List Int} {p : Int} {en : Bool}
theorem InAt.blk_upd {w2 : World} (i : InAt B w b v h p en) (hu : Upd (fun q => v.ownBlock = some q) w w2) : Blk w2 b 71 [v, .int .i64 p, .bool en] := i.blk.upd hu i.sep
/-- The list is written behind an append. -/
theorem give_to {w2 : World} {v' : Value} {h' : List Int} (i : InAt B w b v h p en) (hu : Upd (fun q => v.ownBlock = some q) w w2) (ht : Tail B w2 5 .u8 v' h') (hf : ∀ q, v'.ownBlock = some q → v.ownBlock = some q ∨ w.heap.size ≤ q) :
    InTo B w (w2.setCell ⟨b, 0, none⟩ v') b v h' p en := by
  have hb := i.blk_upd hu
  refine ⟨v', ⟨hb.set 0 v', ht.upd ((Upd.refl (fun q => q = b) w2).set ⟨b, 0, none⟩ _ (.inl rfl)) (fun q hq e => ?_), i.lo⟩, (hu.mono (fun k _ hk => .inr hk)).set _ _ (.inl (.inl rfl)), hf⟩
  subst e
  rcases hf q hq with e | e
  · exact i.sep e
  · have := i.blk.lt; omega
/-- Cut at the front. -/
theorem drop_to {v' X : Value} {h' : List Int} {p' : Int} (i : InAt B w b v h p en) (ht : Tail B w 5 .u8 v' h') (hf : ∀ q, v'.ownBlock = some q → v.ownBlock = some q) :
    InTo B w ((w.setCell ⟨b, 0, none⟩ v').setCell ⟨b, 1, none⟩ (.int .i64 p')) b v h' p' en := by
  have hu : Upd (fun q => q = b) w ((w.setCell ⟨b, 0, none⟩ v').setCell ⟨b, 1, none⟩ (.int .i64 p')) := ((Upd.refl (fun q => q = b) w).set ⟨b, 0, none⟩ _ (.inl rfl)).set ⟨b, 1, none⟩ _ (.inl rfl)
  exact ⟨v', ⟨(i.blk.set 0 v').set 1 (.int .i64 p'), ht.upd hu (fun q hq e => i.sep (by rw [← e]; exact hf q hq)), i.lo⟩, hu.mono (fun k _ hk => .inl hk), fun q hq => .inl (hf q hq)⟩
theorem drop_nil {X : Value} {p' : Int} (i : InAt B w b v h p en) : InTo B w (((w.setCell ⟨b, 0, none⟩ X).setCell ⟨b, 1, none⟩ (.int .i64 p')).setCell ⟨b, 0, none⟩ (.slice none 0 0)) b v [] p' en := by
  have hu : Upd (fun q => q = b) w (((w.setCell ⟨b, 0, none⟩ X).setCell ⟨b, 1, none⟩ (.int .i64 p')).setCell ⟨b, 0, none⟩ (.slice none 0 0)) := (((Upd.refl (fun q => q = b) w).set ⟨b, 0, none⟩ _ (.inl rfl)).set ⟨b, 1, none⟩ _ (.inl rfl)).set ⟨b, 0, none⟩ _ (.inl rfl)
  exact ⟨.slice none 0 0, ⟨((i.blk.set 0 X).set 1 (.int .i64 p')).set 0 _, Tail.nil _ _ _ _, i.lo⟩, hu.mono (fun k _ hk => .inl hk), (fun q hq => by cases hq)⟩
theorem in_same (i : InAt B w b v h p en) : InTo B w w b v h p en := ⟨v, i, Upd.refl _ _, fun q hq => .inl hq⟩
end

set_option maxHeartbeats 1000000 in
theorem give_any (B b : Nat) (v : Value) (h : List Int) (p : Int) (en : Bool) (a : Option Addr) (m cap : Nat) (r : List Int) (w : World) (i : Hid (InAt B w b v h p en)) (hr : Hid (r.length = m)) (hrow : Hid (Row .u8 w a r)) (hnil : Hid (a = none → cap = 0))
    (hs : Hid (h.length + m ≤ 140737488355328)) :
    Calls Try.prog 15 #[.pointer (some ⟨b, 0, none⟩), .slice a m cap] w fun e w' => e = .returned (.int .i64 (if en then 30 else 0)) ∧ Hid (InTo B w w' b v (if en then h else h ++ r) p en) := by
  have c0 := i.out.c0
  have c2 := i.out.c2
  cases en with
  | true =>
    go_enter Try.func15, Try.ntmps15
    go_wp2
    go_ret
    exact ⟨rfl, in_same i.out⟩
  | false =>
    have hsz := hs.out
    obtain ⟨v', w2, hr1, ht, hu, hf⟩ := run_app_tail E30 w 30 B v h i.out.held a m cap r hr.out hrow.out hnil.out (by unfold maxLen; omega) (by omega) (Nat.le_trans i.out.lo (Nat.le_of_lt i.out.blk.lt))
    have hb2 := i.out.blk_upd hu
    have d0 : w2.cell? ⟨b, 0, none⟩ = some v := hb2.cell 0
    have z0 := hb2.frozen 0
    have R1 : Hid _ := hr1
    have HT : Hid _ := give_to i.out hu ht hf
    obtain ⟨a1, q1, rfl, -⟩ := i.out.held.open
    obtain ⟨a2, q2, rfl, -⟩ := ht.open
    clear hr1 hu ht hf hb2 hsz hs
    generalize List.length (h ++ r) = n2 at *
    generalize List.length h = n1 at *
    go_enter Try.func15, Try.ntmps15
    go_wp2_with (at_builtin; have _t := R1; refine wpList_append_run rfl (.tmp 13) (.tmp 14) 30 30 rfl rfl rfl R1.out ?_; clear R1)
    go_ret
    exact ⟨rfl, HT⟩

set_option maxHeartbeats 1000000 in
theorem drop_any (B b : Nat) (v : Value) (h : List Int) (p : Int) (en : Bool) (m : Nat) (w : World) (i : Hid (InAt B w b v h p en)) (hm : Hid (m ≤ h.length)) (hp0 : 0 ≤ p) (hp1 : p + m ≤ 9223372036854775807) :
    Calls Try.prog 30 #[.pointer (some ⟨b, 0, none⟩), .int .i64 m] w fun e w' => e = .returned (.tuple #[]) ∧ Hid (InTo B w w' b v (h.drop m) (p + m) en) := by
  have c0 := i.out.c0
  have c1 := i.out.c1
  have z0 := i.out.blk.frozen 0
  have z1 := i.out.blk.frozen 1
  have hw : wrap64 (p + m) = p + m := w64 _ (by omega)
  obtain ⟨n, hn⟩ : ∃ n, h.length = n := ⟨_, rfl⟩
  have HM : m ≤ n := by rw [← hn]; exact hm.out
  have HN : Hid (h.length = n) := hn
  by_cases hlt : m < n
  · obtain ⟨g, off, cap, rfl, hc1, hc2, -⟩ := i.out.held.addr (by omega)
    rw [hn] at i c0 hc1 ⊢
    have ht := i.out.held.drop m (by omega)
    have HT : Hid _ := drop_to (X := .bool true) (p' := p + m) i.out ht (fun q hq => hq)
    unfold maxLen at hc2
    have k1 : (m : Int) < n := by omega
    have k2 : (m : Int) < cap := by omega
    have k3 : ¬ n - m = 0 := by omega
    have k4 : ¬ ((n - m : Nat) : Int) = 0 := by omega
    clear ht hn HM hm hc1 hlt
    go_enter Try.func30, Try.ntmps30
    go_wp2
    go_end0
    exact ⟨rfl, HT⟩
  · obtain rfl : m = n := by omega
    have hdr : Hid (h.drop m = []) := by show _ = _; rw [← hn]; exact List.drop_length
    obtain ⟨a, cap, rfl, -, hnil, hc1, hc2⟩ := i.out.held.open
    rw [hn] at i c0 hc1
    rw [hdr.out, hn]
    unfold maxLen at hc2
    clear hn HM hm hlt
    cases a with
    | none =>
      obtain rfl := hnil rfl
      obtain rfl : m = 0 := by omega
      go_enter Try.func30, Try.ntmps30
      go_wp2
      go_end0
      exact ⟨rfl, drop_nil i.out⟩
    | some x =>
      obtain ⟨g, off, sp⟩ := x
      by_cases hcap : m = cap
      · subst hcap
        go_enter Try.func30, Try.ntmps30
        go_wp2
        go_end0
        exact ⟨rfl, drop_nil i.out⟩
      · have k2 : (m : Int) < cap := by omega
        go_enter Try.func30, Try.ntmps30
        go_wp2
        go_end0
        exact ⟨rfl, drop_nil i.out⟩

set_option maxHeartbeats 1000000 in
theorem skip_any (B b : Nat) (v : Value) (h : List Int) (p : Int) (en : Bool) (m : Int) (w : World) (i : Hid (InAt B w b v h p en)) (hp0 : 0 ≤ p) (hp1 : p + h.length ≤ 9223372036854775807) :
    Calls Try.prog 17 #[.pointer (some ⟨b, 0, none⟩), .int .i64 m] w fun e w' => e = .returned (.int .i64 (if 0 ≤ m ∧ m ≤ h.length then 0 else 3)) ∧ Hid (InTo B w w' b v (if 0 ≤ m ∧ m ≤ h.length then h.drop m.toNat else h) (if 0 ≤ m ∧ m ≤ h.length then p + m else p) en) := by
  by_cases hc : 0 ≤ m ∧ m ≤ h.length
  · rw [if_pos hc, if_pos hc, if_pos hc]
    obtain ⟨k, rfl⟩ := Int.eq_ofNat_of_zero_le hc.1
    have hk : Hid (k ≤ h.length) := by have := hc.2; show _ ≤ _; omega
    have hp2 : p + k ≤ 9223372036854775807 := by have := hk.out; omega
    have hd : Hid (decide (0 ≤ (k : Int) ∧ (k : Int) ≤ h.length) = true) := decide_eq_true hc
    clear hp1 hc
    go_enter Try.func17, Try.ntmps17
    go_wp2_with fail
    refine (holds_any B b v h p en k _ h.length rfl i).mono ?_; rintro e w' ⟨rfl, rfl⟩
    rw [hd.out]
    go_wp2_with fail
    refine (drop_any B b v h p en k _ i hk hp0 hp2).mono ?_; rintro e w' ⟨rfl, HT⟩
    go_wp2
    go_ret
    exact ⟨rfl, HT⟩
  · rw [if_neg hc, if_neg hc, if_neg hc]
    have hd : Hid (decide (0 ≤ m ∧ m ≤ (h.length : Int)) = false) := decide_eq_false hc
    clear hp1 hc
    go_enter Try.func17, Try.ntmps17
    go_wp2_with fail
    refine (holds_any B b v h p en m _ h.length rfl i).mono ?_; rintro e w' ⟨rfl, rfl⟩
    rw [hd.out]
    go_wp2
    go_ret
    exact ⟨rfl, in_same i.out⟩
set_option maxHeartbeats 1000000 in
theorem take_any (B b : Nat) (v : Value) (h : List Int) (p : Int) (en : Bool) (w : World) (i : Hid (InAt B w b v h p en)) (hp0 : 0 ≤ p) (hp1 : p + h.length ≤ 9223372036854775807) :
    Calls Try.prog 18 #[.pointer (some ⟨b, 0, none⟩)] w fun e w' => e = .returned (.tuple #[.int .u8 (h.getD 0 0), .bool (decide (0 < h.length))]) ∧ Hid (InTo B w w' b v (h.drop 1) (if 0 < h.length then p + 1 else p) en) := by
  by_cases hc : 0 < h.length
  · rw [if_pos hc]
    have hk : Hid (1 ≤ h.length) := hc
    have hp2 : p + (1 : Nat) ≤ 9223372036854775807 := by have := hk.out; omega
    have hd : Hid (decide (0 ≤ (1 : Int) ∧ (1 : Int) ≤ h.length) = true) := decide_eq_true (by have := hk.out; omega)
    have he : Hid (decide (0 < h.length) = true) := decide_eq_true hc
    obtain ⟨g, off, cap, rfl, hc1, hc2, -, hcell⟩ := i.out.held.addr hc
    have c0 := i.out.c0
    have hx := hcell 0 hc
    rw [Nat.add_zero] at hx
    rw [he.out]
    obtain ⟨n, hn⟩ : ∃ n, h.length = n := ⟨_, rfl⟩
    have hn0 : 0 < (n : Int) := by omega
    have HN : Hid (h.length = n) := hn
    rw [hn] at c0 ⊢
    generalize h.getD 0 0 = x at *
    clear hp1 hc hcell hn hc1 hc2
    go_enter Try.func18, Try.ntmps18
    go_wp2_with fail
    refine (holds_any B b _ h p en 1 _ h.length rfl i).mono ?_; rintro e w' ⟨rfl, rfl⟩
    rw [hd.out]
    go_wp2_with fail
    refine (drop_any B b _ h p en 1 _ i hk hp0 hp2).mono ?_; rintro e w' ⟨rfl, HT⟩
    rw [HN.out] at HT
    go_wp2
    go_ret2
    exact ⟨rfl, HT⟩
  · rw [if_neg hc]
    obtain rfl : h = [] := List.length_eq_zero_iff.1 (by omega)
    go_enter Try.func18, Try.ntmps18
    go_wp2_with fail
    refine (holds_any B b v [] p en 1 _ 0 rfl i).mono ?_; rintro e w' ⟨rfl, rfl⟩
    go_wp2
    go_ret2
    exact ⟨rfl, in_same i.out⟩
set_option maxHeartbeats 1000000 in
theorem peek_yes (B b : Nat) (v : Value) (h : List Int) (p : Int) (en : Bool) (m : Nat) (w : World) (i : Hid (InAt B w b v h p en)) (hm : Hid (m ≤ h.length)) (hs : Hid (h.length ≤ 140737488351232)) :
    Calls Try.prog 16 #[.pointer (some ⟨b, 0, none⟩), .int .i64 m] w fun e w' => ∃ g, e = .returned (.tuple #[.slice (some ⟨g, 0, none⟩) m m, .bool true]) ∧ w.heap.size ≤ g ∧ Hid (Blk w' g 5 (cellsL .u8 (h.take m))) ∧ Below w.heap.size w w' := by
  have hd : Hid (decide (0 ≤ (m : Int) ∧ (m : Int) ≤ h.length) = true) := decide_eq_true (by have := hm.out; omega)
  obtain ⟨a, cap, rfl, hrow, hnil, hc1, hc2⟩ := i.out.held.open
  have c0 := i.out.c0
  obtain ⟨n, hn⟩ : ∃ n, h.length = n := ⟨_, rfl⟩
  have k1 : (m : Int) ≤ n := by have := hm.out; omega
  have k2 : (m : Int) ≤ cap := by have := hm.out; omega
  have k3 : m ≤ 140737488351232 := by have := hm.out; have := hs.out; omega
  have HR : Hid (Row .u8 w a (h.take m)) := hrow.take m
  have HL : Hid ((h.take m).length = m) := by show _ = _; rw [List.length_take]; exact Nat.min_eq_left hm.out
  rw [hn] at c0
  unfold maxLen at hc2
  clear hrow hc1 hn hs hnil
  go_enter Try.func16, Try.ntmps16
  go_wp2_with fail
  refine (holds_any B b _ h p en m _ h.length rfl i).mono ?_; rintro e w' ⟨rfl, rfl⟩
  rw [hd.out]
  go_wp2_with fail
  refine (copied_any a m cap (h.take m) _ HL HR k3).mono ?_; rintro e w' ⟨g, rfl, hg, HB, hB⟩
  go_wp2
  go_ret2
  exact ⟨g, rfl, hg, HB, hB⟩
theorem peek_no (B b : Nat) (v : Value) (h : List Int) (p : Int) (en : Bool) (m : Int) (w : World) (i : Hid (InAt B w b v h p en)) (hm : ¬ (0 ≤ m ∧ m ≤ h.length)) :
    Calls Try.prog 16 #[.pointer (some ⟨b, 0, none⟩), .int .i64 m] w fun e w' => e = .returned (.tuple #[.slice none 0 0, .bool false]) ∧ w = w' := by
  have hd : Hid (decide (0 ≤ m ∧ m ≤ (h.length : Int)) = false) := decide_eq_false hm
  clear hm
  go_enter Try.func16, Try.ntmps16
  go_wp2_with fail
  refine (holds_any B b _ h p en m _ h.length rfl i).mono ?_; rintro e w' ⟨rfl, rfl⟩
  rw [hd.out]
  go_wp2
  go_ret2
  exact ⟨rfl, rfl⟩
end Go.Proofs.Ytmeplmhngmlnaaa
