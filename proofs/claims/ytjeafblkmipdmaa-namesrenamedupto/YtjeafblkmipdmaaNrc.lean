/- Names: digits, a list of names, odd: their walks. -/
import Derived.Test.YtjeafblkmipdmaaNrb
import Derived.Lib.AppendStr
import Derived.Deep.RegionLaw
namespace Go.Proofs.Ytjeafblkmipdmaa
open Go.RowKit
set_option linter.unusedVariables false

theorem u8w (n : Int) (h : 0 ≤ n ∧ n ≤ 255) : IntKind.u8.wrap n = n := by rw [IntKind.wrap_u8]; omega
theorem i64wr (n : Int) (h : -9223372036854775808 ≤ n ∧ n ≤ 9223372036854775807) : IntKind.i64.wrap n = n := by rw [IntKind.wrap_i64]; omega
theorem E40r : Elem Try.prog 66 5 .u8 1 := ⟨Try.underlying66, Try.underlying5, by kernel_rfl⟩
theorem conv_one (w : World) (g : Nat) (x : Int) (hg : w.cell? ⟨g, 0, none⟩ = some (.int .u8 x)) : (convert 66 9 (.slice (some ⟨g, 0, none⟩) 1 1)).run Try.prog w = .ok (.string (strOfNums [x])) w :=
  conv_row E40r Try.underlying9 w (some ⟨g, 0, none⟩) 1 1 [x] rfl (Row.mk fun i hi => by
    obtain rfl : i = 0 := by simp at hi; omega
    simp [hg])
theorem conv_new (w1 : World) (x : Int) : (convert 66 9 (.slice (some ⟨w1.heap.size, 0, none⟩) 1 1)).run Try.prog (w1.alloc (.cells #[.int .u8 x] 5)) = .ok (.string (strOfNums [x])) (w1.alloc (.cells #[.int .u8 x] 5)) :=
  conv_one _ _ x (by simp)
theorem strOf_one (n : Nat) : strOfNums [48 + (n : Int)] = ⟨#[UInt8.ofNat (48 + n)]⟩ := by
  unfold strOfNums
  have : (48 + (n : Int)).toNat = 48 + n := by omega
  simp [this]
set_option maxRecDepth 100000 in
set_option maxHeartbeats 4000000 in
theorem digit_one (f n : Nat) (w : World) (h10 : n < 10) : Calls Try.prog 15 #[.int .i64 (n : Int)] w fun e w' => e = .returned (.string ⟨(decF (f + 1) n).toArray⟩) ∧ Below w.heap.size w w' := by
  have h10' : (n : Int) < 10 := by omega
  have HD : Hid (decF (f + 1) n = [UInt8.ofNat (48 + n)]) := hide_ (by rw [decF, if_pos h10])
  have hcv := conv_new w (48 + (n : Int))
  rw [strOf_one] at hcv
  generalize UInt8.ofNat (48 + n) = cc at *
  have HB : Hid (∀ o, Below w.heap.size w (w.alloc o)) := hide_ (fun o => (Below.refl _ _).alloc (Nat.le_refl _) _)
  go_enter Try.func15, Try.ntmps15
  go_wp2
  go_ret
  exact ⟨by rw [HD.out]; rfl, HB.out _⟩
set_option maxRecDepth 100000 in
set_option maxHeartbeats 4000000 in
theorem digits_any : ∀ (f n : Nat) (w : World), f ≤ 30 → n < 10 ^ (f + 1) → n ≤ 4000000000 → Calls Try.prog 15 #[.int .i64 (n : Int)] w fun e w' => e = .returned (.string ⟨(decF (f + 1) n).toArray⟩) ∧ Below w.heap.size w w' := by
  intro f
  induction f with
  | zero => exact fun n w _ hn hb => digit_one 0 n w (by simpa using hn)
  | succ f ih =>
    intro n w hf hn hb
    by_cases h10 : n < 10
    · exact digit_one (f + 1) n w h10
    have h10' : ¬ (n : Int) < 10 := by omega
    have hd : n / 10 < 10 ^ (f + 1) := by
      rw [Nat.pow_succ] at hn
      exact Nat.div_lt_of_lt_mul (by rw [Nat.mul_comm]; exact hn)
    have HD : Hid (decF (f + 1 + 1) n = decF (f + 1) (n / 10) ++ [UInt8.ofNat (48 + n % 10)]) := hide_ (decF_step _ _ h10)
    have hquo : Int.tdiv (n : Int) 10 = ((n / 10 : Nat) : Int) := by rw [Int.tdiv_eq_ediv_of_nonneg (by omega)]; rfl
    have hrem : Int.tmod (n : Int) 10 = ((n % 10 : Nat) : Int) := by rw [Int.tmod_eq_emod_of_nonneg (by omega)]; rfl
    have HIh := hide_ (fun w1 => ih (n / 10) w1 (by omega) hd (by omega))
    have hm : n % 10 < 10 := Nat.mod_lt _ (by decide)
    have hqb : n / 10 ≤ 400000000 := by omega
    generalize n % 10 = m at *
    generalize n / 10 = q at *
    have hmi : 0 ≤ (m : Int) ∧ (m : Int) ≤ 9 := by omega
    have hwq : IntKind.i64.wrap (q : Int) = (q : Int) := i64wr _ (by omega)
    have hwm : IntKind.i64.wrap (m : Int) = (m : Int) := i64wr _ (by omega)
    have hmb : (m : Int) < 10 := by omega
    have hw48 : IntKind.i64.wrap (48 + (m : Int)) = 48 + (m : Int) := i64wr _ (by omega)
    have hu48 : IntKind.u8.wrap (48 + (m : Int)) = 48 + (m : Int) := u8w _ (by omega)
    have HcvB : Hid (∀ w1 : World, (convert 66 9 (.slice (some ⟨w1.heap.size, 0, none⟩) 1 1)).run Try.prog (w1.alloc (.cells #[.int .u8 (48 + (m : Int))] 5)) = .ok (.string ⟨#[UInt8.ofNat (48 + m)]⟩) (w1.alloc (.cells #[.int .u8 (48 + (m : Int))] 5))) := hide_ (fun w1 => by
      have h := conv_new w1 (48 + (m : Int))
      rw [strOf_one] at h
      exact h)
    have HcvA : Hid (∀ w2 : World, Below ((w.alloc (.cells #[.int .u8 (48 + (m : Int))] 5)).drew).heap.size (w.alloc (.cells #[.int .u8 (48 + (m : Int))] 5)).drew w2 → (convert 66 9 (.slice (some ⟨w.heap.size, 0, none⟩) 1 1)).run Try.prog w2 = .ok (.string ⟨#[UInt8.ofNat (48 + m)]⟩) w2) := hide_ (fun w2 hB => by
      have h := conv_one w2 w.heap.size (48 + (m : Int)) (by have := ((show Blk (w.alloc (.cells #[.int .u8 (48 + (m : Int))] 5)).drew w.heap.size 5 [.int .u8 (48 + (m : Int))] from Blk.newA w #[.int .u8 (48 + (m : Int))] 5).later hB).cell 0; simpa using this)
      rw [strOf_one] at h
      exact h)
    generalize UInt8.ofNat (48 + m) = cc at *
    have hXs : (⟨(decF (f + 1) q).toArray⟩ : ByteArray).size ≤ 31 := by rw [Lib.size_eq]; have := decF_len (f + 1) q; simp; omega
    have HXd : Hid ((⟨(decF (f + 1) q).toArray⟩ : ByteArray).data.toList = decF (f + 1) q) := hide_ (by simp)
    generalize (⟨(decF (f + 1) q).toArray⟩ : ByteArray) = X at *
    have hcv0 := HcvA.out (w.alloc (.cells #[.int .u8 (48 + (m : Int))] 5)).drew (Below.refl _ _)
    have hnb : (n : Int) ≤ 4000000000 := by omega
    have HBd : Hid (Below w.heap.size w w.drew) := hide_ ((Below.refl _ _).drew)
    clear ih hn hd h10
    go_enter Try.func15, Try.ntmps15
    go_wp2_with fail
    first
    | (go_region_with (go_at_call 15; refine (HIh.out _).mono ?_; rintro e w2 ⟨rfl, hB2⟩; (have hcv2 := HcvB.out w2); (first | (have hcvA := HcvA.out w2 (by with_reducible exact hB2)) | skip); (have HB2 := hide_ hB2); (clear hB2)))
    | fail
    all_goals
      have HBf : Hid (Below w.heap.size w w2) := hide_ (by first | exact HBd.out.trans HB2.out | exact (((Below.refl _ w).alloc (Nat.le_refl _) _).drew).trans (HB2.out.mono (by simp)))
      have HV : Hid (X ++ ⟨#[cc]⟩ = (⟨(decF (f + 1 + 1) n).toArray⟩ : ByteArray)) := hide_ (by
        rw [HD.out]
        apply ByteArray.ext
        apply Array.toList_inj.1
        simp [HXd.out])
      clear HcvA HcvB hcv0 HB2
      go_wp2
      go_ret
      exact ⟨by rw [← HV.out]; rfl, by first | exact HBf.out | exact HBf.out.alloc HBf.out.size _⟩
theorem own_slc {w : World} {B e c n : Nat} {v : Value} {xs : List Value} (h : w.ownsRow B e c v n xs) : ∃ a cap, v = .slice a n cap := by
  rcases h.2 with ⟨rfl, rfl⟩ | ⟨g, cap, cur, rfl, _⟩
  · exact ⟨none, 0, rfl⟩
  · exact ⟨_, cap, rfl⟩
/-! ### odd -/
def BoTo (w : World) (e : Ending) (w' : World) : Prop := ∃ r : Bool, e = .returned (.bool r) ∧ w = w'
set_option maxRecDepth 100000 in
set_option maxHeartbeats 4000000 in
theorem odd_any (s : ByteArray) (w : World) : Calls Try.prog 13 #[.string s] w fun e w' => BoTo w e w' := by
  by_cases h : 2 < s.size
  · have h' : (2 : Int) < (s.size : Int) := by omega
    have h2 : 2 ≤ s.size := by omega
    go_enter Try.func13, Try.ntmps13
    go_wp2
    go_ret
    exact ⟨_, rfl, rfl⟩
  · have h' : ¬ (2 : Int) < (s.size : Int) := by omega
    go_enter Try.func13, Try.ntmps13
    go_wp2
    go_ret
    exact ⟨_, rfl, rfl⟩
/-! ### A list of names -/
/-- A list of names lies here. -/
def LsM (w : World) (bl B : Nat) (v : Value) (L : List ByteArray) : Prop := Blk w bl 52 [v] ∧ w.ownsRow B 9 1 v L.length (L.map .string)
theorem LsM.later {w w' : World} {bl B : Nat} {v : Value} {L : List ByteArray} (h : LsM w bl B v L) (hB : Below w.heap.size w w') : LsM w' bl B v L := ⟨h.1.later hB, ownS_upd h.2 (Upd.of_below (S := fun _ => False) hB) (fun _ _ h => h)⟩
theorem LsM.push {w : World} {bl B : Nat} {v : Value} {L : List ByteArray} (h : LsM w bl B v L) (s : ByteArray) (hl : L.length ≤ 4000000) (hB : B ≤ w.heap.size) (hb : B ≤ bl) :
    ∃ g cap w', (Builtin.append_ #[50, 50] 50 #[v, .slice (some ⟨w.heap.size, 0, none⟩) 1 1]).run Try.prog (w.alloc (.cells #[.string s] 9)) = .ok (.slice (some ⟨g, 0, none⟩) (L.length + 1) cap) w' ∧ Blk w' bl 52 [v] ∧
      LsM (w'.setCell ⟨bl, 0, none⟩ (.slice (some ⟨g, 0, none⟩) (L.length + 1) cap)) bl B (.slice (some ⟨g, 0, none⟩) (L.length + 1) cap) (L ++ [s]) ∧ Upd (fun k => k = bl ∨ v.ownBlock = some k) w (w'.setCell ⟨bl, 0, none⟩ (.slice (some ⟨g, 0, none⟩) (L.length + 1) cap)) ∧ (v.ownBlock = some g ∨ w.heap.size ≤ g) := by
  obtain ⟨g, cap, w', r1, o1, u1, c1⟩ := run_pushS (P := Try.prog) (t := 50) (e := 9) (c := 1) (z := .string ⟨#[]⟩) (bytes := 16) Try.underlying50 (by kernel_rfl) rfl (by decide) w 50 h.2 [.string s] rfl (by intro u hu; simp at hu; subst hu; rfl) (by unfold maxLen; omega) (by omega) hB
  have hne : ∀ {k : Nat}, v.ownBlock = some k → k ≠ bl := fun hk e => by
    obtain ⟨zs, hz⟩ := ownS_type h.2 hk
    subst e
    exact absurd (blk_type h.1 hz) (by decide)
  have k1 := h.1.upd u1 (fun e => hne e rfl)
  have hu2 : Upd (fun k => k = bl) w' (w'.setCell ⟨bl, 0, none⟩ (.slice (some ⟨g, 0, none⟩) (L.length + 1) cap)) := (Upd.refl _ w').set _ _ (.inl rfl)
  refine ⟨g, cap, w', r1, k1, ⟨by have := k1.set 0 (.slice (some ⟨g, 0, none⟩) (L.length + 1) cap); simpa using this, ?_⟩, ?_, c1⟩
  · rw [List.map_append, List.length_append]
    exact ownS_upd o1 hu2 (fun k hk e => by
      obtain ⟨zs, hz⟩ := ownS_type o1 hk
      subst e
      exact absurd (blk_type k1 hz) (by decide))
  · exact (u1.mono (fun k _ hk => .inr hk)).trans (hu2.mono (fun k _ hk => .inl hk)) (fun k _ h => h)
def AtTo (w : World) (bl B : Nat) (v : Value) (L : List ByteArray) (s : ByteArray) (e : Ending) (w' : World) : Prop :=
  e = .returned (.int .i64 ((ixN (addN L s) s : Nat) : Int)) ∧ ∃ v', LsM w' bl B v' (addN L s) ∧ Upd (fun k => k = bl ∨ v.ownBlock = some k) w w' ∧ (∀ k, v'.ownBlock = some k → v.ownBlock = some k ∨ w.heap.size ≤ k)
theorem AtTo.old {w : World} {bl B : Nat} {v : Value} {L : List ByteArray} {s : ByteArray} {i : Nat} (h : LsM w bl B v L) (hi : i < L.length) (hs : L[i]? = some s) (hn : ∀ j, j < i → L[j]? ≠ some s) : AtTo w bl B v L s (.returned (.int .i64 (i : Int))) w := by
  have hm : s ∈ L := List.mem_of_getElem? hs
  have e1 : addN L s = L := addN_old hm
  have e2 : ixN L s = i := by
    rcases Nat.lt_trichotomy (ixN L s) i with h1 | h1 | h1
    · exact absurd (ix_at hm) (hn _ h1)
    · exact h1
    · have := List.not_of_lt_findIdx (xs := L) (p := fun t => decide (t = s)) h1
      obtain ⟨hi2, e⟩ := List.getElem?_eq_some_iff.1 hs
      simp [e] at this
  unfold AtTo
  rw [e1, e2]
  exact ⟨rfl, v, h, Upd.refl _ _, fun k hk => .inl hk⟩
set_option maxRecDepth 100000 in
set_option maxHeartbeats 4000000 in
theorem at_any (bl B : Nat) (v : Value) (L : List ByteArray) (s : ByteArray) (w : World) (hL : L.length ≤ 4000000) (hB : B ≤ bl) (h : Hid (LsM w bl B v L)) :
    Calls Try.prog 14 #[.pointer (some ⟨bl, 0, none⟩), .string s] w fun e w' => AtTo w bl B v L s e w' := by
  obtain ⟨va, vc, hv⟩ := own_slc h.out.2
  have b0 := h.out.1.cell 0
  simp at b0
  have HB0 : Hid (B ≤ w.heap.size) := hide_ (by have := h.out.1.lt; omega)
  rw [hv] at b0
  have Hv := hide_ hv
  clear hv
  go_enter Try.func14, Try.ntmps14
  go_wp2_with fail
  go_loopw [5] (fun x5 wr => ∃ i : Nat, i ≤ L.length ∧ x5 = .int .i64 (i : Int) ∧ Hid (∀ j, j < i → L[j]? ≠ some s) ∧ w = wr) (fun x5 _ => L.length - (intOf x5).toNat)
  case atStart => exact ⟨0, Nat.zero_le _, rfl, hide_ (fun j hj => by omega), rfl⟩
  case round =>
    obtain ⟨i, hi, rfl, HN, rfl⟩ := hrel
    by_cases hlt : i < L.length
    · have hlt' : (i : Int) < (L.length : Int) := by omega
      obtain ⟨g, cap, ys, e, hbg, hcap, -, hyl, hyt, hK⟩ := ownS_blk h.out.2 (by omega)
      rw [Hv.out] at e
      obtain ⟨rfl, rfl⟩ : va = some ⟨g, 0, none⟩ ∧ vc = cap := by injection e with e1 e2 e3; exact ⟨e1, e3⟩
      have hx : L[i]? = some (L[i]'hlt) := List.getElem?_eq_getElem hlt
      have c0 : w.cell? ⟨g, i, none⟩ = some (.string (L[i]'hlt)) := by
        rw [hK.cell, ← List.getElem?_take_of_lt (show i < L.length * 1 by omega), hyt]
        simp [hlt]
      have Hx := hide_ hx
      generalize L[i]'hlt = t at *
      clear e hyl hyt hK hx
      by_cases hts : t = s
      · subst hts
        have HA := hide_ (AtTo.old h.out hlt Hx.out HN.out)
        clear hlt HN
        go_wp2
        go_ret
        exact HA.out
      · have htd : (t.toList == s.toList) = false := by rw [str_eq]; exact decide_eq_false hts
        have HN2 : Hid (∀ j, j < i + 1 → L[j]? ≠ some s) := hide_ (fun j hj e => by
          by_cases hji : j = i
          · subst hji; rw [Hx.out] at e; injection e with e; exact hts e
          · exact HN.out j (by omega) e)
        clear HN hts
        go_wp2_with fail
        go_roundw
        case rel => exact ⟨i + 1, by omega, by go_num, HN2, (by first | rfl | trivial)⟩
        case measure => simp [intOf]; omega
    · obtain rfl : i = L.length := by omega
      have hlt' : ¬ (L.length : Int) < (L.length : Int) := by omega
      have hnm : s ∉ L := fun hm => by
        obtain ⟨j, hj, e⟩ := List.getElem_of_mem hm
        exact HN.out j hj (by rw [List.getElem?_eq_getElem hj, e])
      obtain ⟨g, cap, w2, r1, k1, M1, U1, C1⟩ := h.out.push s hL HB0.out hB
      rw [Hv.out] at r1
      have HR := hide_ r1
      have hz := k1.frozen 0
      have hc := k1.cell 0
      simp at hc
      rw [Hv.out] at hc
      have q0 := M1.1.cell 0
      simp at q0
      have HA : Hid (AtTo w bl B v L s (.returned (.int .i64 (L.length : Int))) (w2.setCell ⟨bl, 0, none⟩ (.slice (some ⟨g, 0, none⟩) (L.length + 1) cap))) := hide_ (by
        have e1 : addN L s = L ++ [s] := addN_new hnm
        unfold AtTo
        rw [e1, ix_new hnm]
        refine ⟨rfl, _, M1, U1, fun k hk => ?_⟩
        have : g = k := own_is hk
        subst this
        exact C1)
      clear r1 k1 M1 U1 C1 HN hnm hi hlt
      go_wp2_with (at_builtin; refine wpList_append_run rfl (.tmp 29) (.tmp 31) 50 50 rfl rfl rfl HR.out ?_)
      go_ret
      exact HA.out
end Go.Proofs.Ytjeafblkmipdmaa
