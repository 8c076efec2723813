import Derived.Test.YtokepgimjdalaaaBp
import Derived.Test.YtokepgimjdalaaaVq

/- A text under way: put; digits. -/
namespace Go.Proofs.Ytokepgimjdalaaa
open Go.RowKit
set_option linter.unusedVariables false

theorem ownS_ge {w : World} {B e c n : Nat} {v : Value} {xs : List Value} (h : w.ownsRow B e c v n xs) {k : Nat} (hk : v.ownBlock = some k) : B ≤ k := by
  rcases h.2 with ⟨rfl, _⟩ | ⟨g, cap, cur, rfl, hb, hg, _⟩
  · simp [Value.ownBlock] at hk
  · obtain rfl : g = k := own_is hk
    exact hb
/-- Nothing is changed but the box of the text under way, and rows of bytes of the call's own. -/
def UpdB (B g : Nat) (w w' : World) : Prop := Upd (fun k => k = g ∨ (B ≤ k ∧ ∃ ys, Blk w k 5 ys)) w w'
theorem UpdB.trans {B g : Nat} {w w' w'' : World} (h : UpdB B g w w') (k : UpdB B g w' w'') : UpdB B g w w'' := by
  refine Upd.trans h k (fun j hj hS => ?_)
  rcases hS with hS | ⟨hb, ys, hS⟩
  · exact .inl hS
  · by_cases hc : j = g ∨ (B ≤ j ∧ ∃ ys, Blk w j 5 ys)
    · exact hc
    · exact .inr ⟨hb, ys, by unfold Blk at hS ⊢; rw [← h.block j hj hc]; exact hS⟩
/-- The text under way: its box, its bytes. -/
def Wrt (w : World) (B g : Nat) (b : List UInt8) : Prop := B ≤ g ∧ ∃ vb, Blk w g 59 [vb] ∧ BR B w vb b
def PutTo (w : World) (B g : Nat) (b : List UInt8) (w' : World) : Prop := Hid (Wrt w' B g b) ∧ Hid (UpdB B g w w')
set_option maxRecDepth 100000 in
set_option maxHeartbeats 4000000 in
theorem put_any (g B : Nat) (b : List UInt8) (s : ByteArray) (w : World) (hW : Hid (Wrt w B g b)) (hl : b.length ≤ 900000000) (hs : s.size ≤ 900000000) :
    Calls Try.prog 17 #[.pointer (some ⟨g, 0, none⟩), .string s] w fun e w' => e = .returned (.tuple #[]) ∧ PutTo w B g (b ++ s.data.toList) w' := by
  obtain ⟨hBg, vb, hK, hR⟩ := hW.out
  have hBw : B ≤ w.heap.size := Nat.le_trans hBg (Nat.le_of_lt hK.lt)
  obtain ⟨a, cap, hv⟩ := hR.form
  subst hv
  obtain ⟨v', w1, r1, R1, U1⟩ := hR.app s (by omega) (by omega) hBw
  have hne : ∀ (t : TypeId) (ys : List Value) (j : Nat), Blk w j t ys → t ≠ 5 → ¬ (Value.slice a b.length cap).ownBlock = some j := fun t ys j hj ht e => by
    obtain ⟨zs, hz⟩ := ownS_type hR e
    exact ht (blk_type hj hz)
  have k1 := hK.upd U1 (hne _ _ _ hK (by decide))
  have c0 := hK.cell 0
  have d0 := k1.cell 0
  have z0 := k1.frozen 0
  simp at c0 d0
  obtain ⟨a2, cap2, hv2⟩ := R1.form
  have hU : UpdB B g w (w1.setCell ⟨g, 0, none⟩ v') := by
    have h1 : UpdB B g w w1 := Upd.mono U1 (fun j _ hj => .inr ⟨ownS_ge hR hj, ownS_type hR hj⟩)
    have h2 : UpdB B g w1 (w1.setCell ⟨g, 0, none⟩ v') := (Upd.refl _ w1).set _ _ (.inl (.inl rfl))
    exact h1.trans h2
  have hfin : Wrt (w1.setCell ⟨g, 0, none⟩ v') B g (b ++ s.data.toList) := by
    refine ⟨hBg, v', by have := k1.set 0 v'; simpa using this, ?_⟩
    exact ownS_upd R1 ((Upd.refl (fun k => k = g) w1).set ⟨g, 0, none⟩ v' (.inl rfl)) (fun j hj e => by
      subst e
      obtain ⟨zs, hz⟩ := ownS_type R1 hj
      exact absurd (blk_type k1 hz) (by decide))
  subst hv2
  have hlen : (b ++ s.data.toList).length = b.length + s.size := by rw [List.length_append, ← Lib.size_eq]
  rw [hlen] at r1 hU hfin
  have HR := hide_ r1
  have HU := hide_ hU
  have HF := hide_ hfin
  clear r1 R1 U1 hU hfin hne hR hK k1 hlen
  go_enter Try.func17, Try.ntmps17
  go_wp2_with (at_builtin; have _t := HR; refine wpList_append_run rfl (.tmp 8) (.tmp 9) 54 9 rfl rfl rfl HR.out ?_; clear HR)
  exact bodyPost_end (v := .tuple #[]) (by simp [results, Try.results17]) rfl ⟨rfl, HF, HU⟩
/-! ### digits -/
theorem u8w (n : Int) (h : 0 ≤ n ∧ n ≤ 255) : IntKind.u8.wrap n = n := by rw [IntKind.wrap_u8]; omega
theorem decF_len : ∀ (f n : Nat), (decF f n).length ≤ f
  | 0, n => by simp [decF]
  | f + 1, n => by
    rw [decF]
    split
    · simp
    · have := decF_len f (n / 10)
      simp
      exact this
theorem decF_step (f n : Nat) (h : ¬ n < 10) : decF (f + 1) n = decF f (n / 10) ++ [UInt8.ofNat (48 + n % 10)] := by rw [decF, if_neg h]
theorem conv_one (w : World) (g : Nat) (x : Int) (hg : w.cell? ⟨g, 0, none⟩ = some (.int .u8 x)) : (convert 54 9 (.slice (some ⟨g, 0, none⟩) 1 1)).run Try.prog w = .ok (.string (strOfNums [x])) w :=
  conv_row E40 Try.underlying9 w (some ⟨g, 0, none⟩) 1 1 [x] rfl (Row.mk fun i hi => by
    obtain rfl : i = 0 := by simp at hi; omega
    simp [hg])
theorem conv_new (w1 : World) (x : Int) : (convert 54 9 (.slice (some ⟨w1.heap.size, 0, none⟩) 1 1)).run Try.prog (w1.alloc (.cells #[.int .u8 x] 5)) = .ok (.string (strOfNums [x])) (w1.alloc (.cells #[.int .u8 x] 5)) :=
  conv_one _ _ x (by simp)
theorem strOf_one (n : Nat) : strOfNums [48 + (n : Int)] = ⟨#[UInt8.ofNat (48 + n)]⟩ := by
  unfold strOfNums
  have : (48 + (n : Int)).toNat = 48 + n := by omega
  simp [this]
set_option maxRecDepth 100000 in
set_option maxHeartbeats 4000000 in
theorem digit_one (f n : Nat) (w : World) (h10 : n < 10) : Calls Try.prog 25 #[.int .i64 (n : Int)] w fun e w' => e = .returned (.string ⟨(decF (f + 1) n).toArray⟩) ∧ Below w.heap.size w w' := by
  have h10' : (n : Int) < 10 := by omega
  have HD : Hid (decF (f + 1) n = [UInt8.ofNat (48 + n)]) := hide_ (by rw [decF, if_pos h10])
  have hcv := conv_new w (48 + (n : Int))
  rw [strOf_one] at hcv
  generalize UInt8.ofNat (48 + n) = cc at *
  have HB : Hid (∀ o, Below w.heap.size w (w.alloc o)) := hide_ (fun o => (Below.refl _ _).alloc (Nat.le_refl _) _)
  go_enter Try.func25, Try.ntmps25
  go_wp2
  go_ret
  exact ⟨by rw [HD.out]; rfl, HB.out _⟩
set_option maxRecDepth 100000 in
set_option maxHeartbeats 4000000 in
theorem digits_any : ∀ (f n : Nat) (w : World), f ≤ 30 → n < 10 ^ (f + 1) → n ≤ 4000000000 → Calls Try.prog 25 #[.int .i64 (n : Int)] w fun e w' => e = .returned (.string ⟨(decF (f + 1) n).toArray⟩) ∧ Below w.heap.size w w' := by
  intro f
  induction f with
  | zero => exact fun n w _ hn hb => digit_one 0 n w (by simpa using hn)
  | succ f ih =>
    intro n w hf hn hb
    by_cases h10 : n < 10
    · exact digit_one (f + 1) n w h10
    have h10' : ¬ (n : Int) < 10 := by omega
    have hd : n / 10 < 10 ^ (f + 1) := by
      rw [Nat.pow_succ] at hn
      exact Nat.div_lt_of_lt_mul (by rw [Nat.mul_comm]; exact hn)
    have HD : Hid (decF (f + 1 + 1) n = decF (f + 1) (n / 10) ++ [UInt8.ofNat (48 + n % 10)]) := hide_ (decF_step _ _ h10)
    have hquo : Int.tdiv (n : Int) 10 = ((n / 10 : Nat) : Int) := by rw [Int.tdiv_eq_ediv_of_nonneg (by omega)]; rfl
    have hrem : Int.tmod (n : Int) 10 = ((n % 10 : Nat) : Int) := by rw [Int.tmod_eq_emod_of_nonneg (by omega)]; rfl
    have HIh := hide_ (fun w1 => ih (n / 10) w1 (by omega) hd (by omega))
    have hm : n % 10 < 10 := Nat.mod_lt _ (by decide)
    have hqb : n / 10 ≤ 400000000 := by omega
    generalize n % 10 = m at *
    generalize n / 10 = q at *
    have hmi : 0 ≤ (m : Int) ∧ (m : Int) ≤ 9 := by omega
    have hwq : IntKind.i64.wrap (q : Int) = (q : Int) := i64w _ (by omega)
    have hwm : IntKind.i64.wrap (m : Int) = (m : Int) := i64w _ (by omega)
    have hmb : (m : Int) < 10 := by omega
    have hw48 : IntKind.i64.wrap (48 + (m : Int)) = 48 + (m : Int) := i64w _ (by omega)
    have hu48 : IntKind.u8.wrap (48 + (m : Int)) = 48 + (m : Int) := u8w _ (by omega)
    have HcvB : Hid (∀ w1 : World, (convert 54 9 (.slice (some ⟨w1.heap.size, 0, none⟩) 1 1)).run Try.prog (w1.alloc (.cells #[.int .u8 (48 + (m : Int))] 5)) = .ok (.string ⟨#[UInt8.ofNat (48 + m)]⟩) (w1.alloc (.cells #[.int .u8 (48 + (m : Int))] 5))) := hide_ (fun w1 => by
      have h := conv_new w1 (48 + (m : Int))
      rw [strOf_one] at h
      exact h)
    have HcvA : Hid (∀ w2 : World, Below ((w.alloc (.cells #[.int .u8 (48 + (m : Int))] 5)).drew).heap.size (w.alloc (.cells #[.int .u8 (48 + (m : Int))] 5)).drew w2 → (convert 54 9 (.slice (some ⟨w.heap.size, 0, none⟩) 1 1)).run Try.prog w2 = .ok (.string ⟨#[UInt8.ofNat (48 + m)]⟩) w2) := hide_ (fun w2 hB => by
      have h := conv_one w2 w.heap.size (48 + (m : Int)) (by have := ((show Blk (w.alloc (.cells #[.int .u8 (48 + (m : Int))] 5)).drew w.heap.size 5 [.int .u8 (48 + (m : Int))] from Blk.newA w #[.int .u8 (48 + (m : Int))] 5).later hB).cell 0; simpa using this)
      rw [strOf_one] at h
      exact h)
    generalize UInt8.ofNat (48 + m) = cc at *
    have hXs : (⟨(decF (f + 1) q).toArray⟩ : ByteArray).size ≤ 31 := by rw [Lib.size_eq]; have := decF_len (f + 1) q; simp; omega
    have HXd : Hid ((⟨(decF (f + 1) q).toArray⟩ : ByteArray).data.toList = decF (f + 1) q) := hide_ (by simp)
    generalize (⟨(decF (f + 1) q).toArray⟩ : ByteArray) = X at *
    have hcv0 := HcvA.out (w.alloc (.cells #[.int .u8 (48 + (m : Int))] 5)).drew (Below.refl _ _)
    have hnb : (n : Int) ≤ 4000000000 := by omega
    have HBd : Hid (Below w.heap.size w w.drew) := hide_ ((Below.refl _ _).drew)
    clear ih hn hd h10
    go_enter Try.func25, Try.ntmps25
    go_wp2_with fail
    first
    | (go_region_with (go_at_call 25; refine (HIh.out _).mono ?_; rintro e w2 ⟨rfl, hB2⟩; (have hcv2 := HcvB.out w2); (first | (have hcvA := HcvA.out w2 (by with_reducible exact hB2)) | skip); (have HB2 := hide_ hB2); (clear hB2)))
    | fail
    all_goals
      have HBf : Hid (Below w.heap.size w w2) := hide_ (by first | exact HBd.out.trans HB2.out | exact (((Below.refl _ w).alloc (Nat.le_refl _) _).drew).trans (HB2.out.mono (by simp)))
      have HV : Hid (X ++ ⟨#[cc]⟩ = (⟨(decF (f + 1 + 1) n).toArray⟩ : ByteArray)) := hide_ (by
        rw [HD.out]
        apply ByteArray.ext
        apply Array.toList_inj.1
        simp [HXd.out])
      clear HcvA HcvB hcv0 HB2
      go_wp2
      go_ret
      exact ⟨by rw [← HV.out]; rfl, by first | exact HBf.out | exact HBf.out.alloc HBf.out.size _⟩
/-- digits, as a text's numbers are written. -/
theorem digits_dec (n : Nat) (w : World) (hn : n ≤ 2147483647) : Calls Try.prog 25 #[.int .i64 (n : Int)] w fun e w' => e = .returned (.string ⟨(dec n).toArray⟩) ∧ Below w.heap.size w w' :=
  digits_any 19 n w (by omega) (Nat.lt_of_le_of_lt hn (by decide)) (by omega)
end Go.Proofs.Ytokepgimjdalaaa
