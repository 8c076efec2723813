/- Lower: read, fixedItems. -/
import Derived.Test.YtepmgbfdmbogiaaLwp
namespace Go.Proofs.Ytepmgbfdmbogiaa
open Go.RowKit
set_option linter.unusedVariables false

/-- The types lie below B. -/
def Tb (B : Nat) (w : World) (aT : Option Addr) (T : List Ty) : Prop := ∀ w', Below B w w' → TRow w' aT T
theorem Tb.kp {B : Nat} {w w' : World} {aT : Option Addr} {T : List Ty} (h : Tb B w aT T) (hB : B ≤ w.heap.size) (hk : Kp B w w') : Tb B w' aT T := fun w'' hb => h w'' ((hk.below hB).trans hb)
theorem Tb.later {B : Nat} {w w' : World} {aT : Option Addr} {T : List Ty} (h : Tb B w aT T) (hB : B ≤ w.heap.size) (hk : Below w.heap.size w w') : Tb B w' aT T := h.kp hB (Kp.later hk)
set_option maxRecDepth 100000 in
set_option maxHeartbeats 4000000 in
theorem read_any (B gb : Nat) (aT : Option Addr) (cT : Nat) (T : List Ty) (vL : Value) (C : List In) (E : List Int) (M : List Mk) (kid : Int) (n : Nat) (t : Ty) (w : World) (hl : C.length ≤ 1000000000) (hn : T[n]? = some t) (HT : Hid (Tb B w aT T)) (h : Hid (Mb w B gb (.slice aT T.length cT) vL C E M)) :
    Calls Try.prog 31 #[.pointer (some ⟨gb, 0, none⟩), .int .i64 kid, .int .i64 (n : Int)] w fun e w' => e = .returned (.tuple #[]) ∧ Hid (Mb w' B gb (.slice aT T.length cT) vL (C ++ [rdP T kid (n : Int)]) E M) ∧ Hid (Kp B w w') := by
  have hlt := (List.getElem?_eq_some_iff.1 hn).1
  have hlt' : (n : Int) < T.length := by omega
  obtain ⟨b, o, rfl, hb, hc⟩ := (HT.out w (Below.refl _ _)).open (by omega)
  obtain ⟨va, vc, hcx, -, -, -⟩ := hc n t hn
  have hr : rdP T kid (n : Int) = if t.k = 1 then ⟨1, kid, t.n, 0⟩ else if t.k = 2 then ⟨3, kid, 0, 0⟩ else if t.k = 3 then ⟨4, kid, 0, 0⟩ else ⟨16, kid, 0, (n : Int)⟩ := by unfold rdP; rw [tyA_at hn]
  obtain ⟨k, nn, el, ps⟩ := t
  simp only at hr
  have i0 := hcx 0 (by decide); have i1 := hcx 1 (by decide); have i2 := hcx 2 (by decide); have i3 := hcx 3 (by decide)
  simp [tyc] at i0 i1 i2 i3
  obtain ⟨vC, vE, kb, -, -, -⟩ := h.out.bd
  have ib := kb.cell 0
  simp at ib
  obtain ⟨w1, hw1⟩ : ∃ wx, wx = w.alloc (.cells #[.int .i64 k, .int .i64 nn, .int .i64 el, .slice va ps.length vc] 54) := ⟨_, rfl⟩
  have hB1 : Below w.heap.size w w1 := by rw [hw1]; exact below1 _ _
  have kt : Blk w1 w.heap.size 54 [.int .i64 k, .int .i64 nn, .int .i64 el, .slice va ps.length vc] := by rw [hw1]; exact Blk.newA w _ _
  have H1 := hide_ (h.out.later hB1)
  have HK1 : Hid (Kp B w w1) := hide_ (Kp.later hB1)
  have j0 := kt.cell 0; have j1 := kt.cell 1
  simp at j0 j1
  clear hc hcx hB1 kt kb hb hn HT h hlt
  go_enter Try.func31, Try.ntmps31
  go_upto_region 1 with fail
  rw [← hw1]
  clear hw1 i0 i1 i2 i3 ib
  by_cases h1 : k = 1
  · subst h1
    rw [if_pos rfl] at hr
    have HRd := hide_ hr
    have HLy := hide_ (lay_any B gb _ vL C E M ⟨1, kid, nn, 0⟩ w1 hl H1)
    clear hr
    go_wp2_with (go_at_call 36; refine HLy.out.mono ?_; rintro e w4 ⟨rfl, HM4, HK4⟩)
    go_end0
    exact ⟨rfl, hide_ (by rw [HRd.out]; exact HM4.out), hide_ (HK1.out.trans HK4.out)⟩
  rw [if_neg h1] at hr
  by_cases h2 : k = 2
  · subst h2
    rw [if_pos rfl] at hr
    have HRd := hide_ hr
    have HLy := hide_ (lay_any B gb _ vL C E M ⟨3, kid, 0, 0⟩ w1 hl H1)
    clear hr h1
    go_wp2_with (go_at_call 36; refine HLy.out.mono ?_; rintro e w4 ⟨rfl, HM4, HK4⟩)
    go_end0
    exact ⟨rfl, hide_ (by rw [HRd.out]; exact HM4.out), hide_ (HK1.out.trans HK4.out)⟩
  rw [if_neg h2] at hr
  by_cases h3 : k = 3
  · subst h3
    rw [if_pos rfl] at hr
    have HRd := hide_ hr
    have HLy := hide_ (lay_any B gb _ vL C E M ⟨4, kid, 0, 0⟩ w1 hl H1)
    clear hr h1 h2
    go_wp2_with (go_at_call 36; refine HLy.out.mono ?_; rintro e w4 ⟨rfl, HM4, HK4⟩)
    go_end0
    exact ⟨rfl, hide_ (by rw [HRd.out]; exact HM4.out), hide_ (HK1.out.trans HK4.out)⟩
  rw [if_neg h3] at hr
  have HRd := hide_ hr
  have HLy := hide_ (lay_any B gb _ vL C E M ⟨16, kid, 0, (n : Int)⟩ w1 hl H1)
  clear hr
  have e1 : (k == 1) = false := by simpa using h1
  have e2 : (k == 2) = false := by simpa using h2
  have e3 : (k == 3) = false := by simpa using h3
  clear h1 h2 h3
  go_wp2_with (go_at_call 36; refine HLy.out.mono ?_; rintro e w4 ⟨rfl, HM4, HK4⟩)
  go_end0
  exact ⟨rfl, hide_ (by rw [HRd.out]; exact HM4.out), hide_ (HK1.out.trans HK4.out)⟩
/-- A routine's body is laid; what waits for its end is known. -/
def BodyTo (B gb : Nat) (vT vL : Value) (C : List In) (E : List Int) (m : Mk) (X : List In) (w' : World) : Prop := ∃ U W v, Mb w' B gb vT vL (C ++ U) E [⟨m.g, m.o, false, m.nu, v, W⟩] ∧ W.length ≤ 1000 ∧ (∀ k ∈ W, 0 ≤ k ∧ k < ((C ++ U).length : Int)) ∧ patL ((C ++ U).length : Int) W (C ++ U) = C ++ X ∧ U.length = X.length
theorem BodyTo.cons {B gb : Nat} {vT vL : Value} {C : List In} {E : List Int} {m : Mk} {X : List In} {w' : World} {x : In} (h : BodyTo B gb vT vL (C ++ [x]) E m X w') : BodyTo B gb vT vL C E m (x :: X) w' := by
  obtain ⟨U, W, v, h1, h2, h3, h4, h5⟩ := h
  have e : ∀ Y : List In, (C ++ [x]) ++ Y = C ++ x :: Y := fun Y => by simp
  rw [e] at h1 h3 h4
  rw [e] at h4
  exact ⟨x :: U, W, v, h1, h2, h3, h4, by simp [h5]⟩
set_option maxRecDepth 100000 in
set_option maxHeartbeats 4000000 in
theorem fixed_any (B gb : Nat) (aT : Option Addr) (cT : Nat) (T : List Ty) (vL : Value) (C : List In) (E : List Int) (m : Mk) (k nn : Int) (el : Nat) (ps : List Pt) (va : Option Addr) (vc : Nat) (t2 : Ty) (b : Int) (w : World) (hl : C.length ≤ 900000000) (hb : (C.length : Int) = b + 1) (hn : T[el]? = some t2) (hm0 : m.kn = false) (hm1 : m.W = []) (hm2 : m.nu = 0) (HT : Hid (Tb B w aT T)) (h : Hid (Mb w B gb (.slice aT T.length cT) vL C E [m])) :
    Calls Try.prog 68 #[.pointer (some ⟨gb, 0, none⟩), .agg #[.int .i64 k, .int .i64 nn, .int .i64 (el : Int), .slice va ps.length vc], .pointer (some ⟨m.g, m.o, none⟩)] w fun e w' => e = .returned (.tuple #[]) ∧ Hid (BodyTo B gb (.slice aT T.length cT) vL C E m (itF T ⟨k, nn, (el : Int), ps⟩ b) w') ∧ Hid (Kp B w w') := by
  obtain ⟨mg, mo, mk, mn, mv, mW⟩ := m
  simp only at hm0 hm1 hm2
  subst hm0 hm1 hm2
  obtain ⟨w1, hw1⟩ : ∃ wx, wx = w.alloc (.cells #[.int .i64 k, .int .i64 nn, .int .i64 (el : Int), .slice va ps.length vc] 54) := ⟨_, rfl⟩
  have hB1 : Below w.heap.size w w1 := by rw [hw1]; exact below1 _ _
  have kt : Blk w1 w.heap.size 54 [.int .i64 k, .int .i64 nn, .int .i64 (el : Int), .slice va ps.length vc] := by rw [hw1]; exact Blk.newA w _ _
  have hz1 : w1.heap.size = w.heap.size + 1 := by rw [hw1]; simp
  have hbase := h.out.base
  obtain ⟨w2, hw2⟩ : ∃ wx, wx = w1.alloc (.cells #[.bool false, .int .i64 0, .slice none 0 0] 83) := ⟨_, rfl⟩
  have hB2 : Below w1.heap.size w1 w2 := by rw [hw2]; exact below1 _ _
  have H2 : Mb w2 B gb (.slice aT T.length cT) vL C E [⟨w.heap.size + 1, 0, false, 0, .slice none 0 0, []⟩, ⟨mg, mo, false, 0, mv, []⟩] := by
    have := (h.out.later hB1).new
    rw [← hw2, hz1] at this
    exact this
  have HK2 : Hid (Kp B w w2) := hide_ ((Kp.later hB1).then hB2)
  have HKt := hide_ (kt.later hB2)
  have HT2 := hide_ (HT.out.kp hbase HK2.out)
  have hb2 : B ≤ w2.heap.size := Nat.le_trans hbase HK2.out.size
  have HSt := hide_ (set_any B gb _ vL C E [] [⟨mg, mo, false, 0, mv, []⟩] ⟨w.heap.size + 1, 0, false, 0, .slice none 0 0, []⟩ w2 (by omega) (by simp) (hide_ (fun k hk => by cases hk)) (hide_ H2))
  clear kt h HT hB1 hB2 H2
  go_enter Try.func68, Try.ntmps68
  go_upto_region 1 with fail
  rw [← hw1]
  clear hw1
  go_upto_region 2 with fail
  rw [← hw2]
  try simp only [hz1]
  clear hw2 hz1
  go_upto_region 3 with (go_at_call 35; refine HSt.out.mono ?_; rintro e w3 ⟨rfl, HM3, HK3⟩)
  simp only [patL_nil] at HM3
  have HKt3 := hide_ (HK3.out.blk HKt.out (by unfold own4; decide))
  have HT3 := hide_ (HT2.out.kp hb2 HK3.out)
  have hb3 : B ≤ w3.heap.size := Nat.le_trans hb2 HK3.out.size
  have HKa := hide_ (HK2.out.trans HK3.out)
  clear HSt HKt HT2 HK3 HK2
  have j0 := HKt3.out.cell 0; have j1 := HKt3.out.cell 1; have j2 := HKt3.out.cell 2
  simp at j0 j1 j2
  by_cases h5 : k = 5
  · subst h5
    have HL1 := hide_ (layTo_new B gb _ vL C E [⟨w.heap.size + 1, 0, true, (C.length : Int), .slice none 0 0, []⟩] [] ⟨mg, mo, false, 0, mv, []⟩ 13 nn w3 (by omega) (by simp) rfl HM3)
    go_upto_region 5 with (go_at_call 30; refine HL1.out.mono ?_; rintro e w4 ⟨rfl, HM4, HK4⟩)
    obtain ⟨v4, hM4⟩ := HM4.out
    have HKt4 := hide_ (HK4.out.blk HKt3.out (by unfold own4; decide))
    have HT4 := hide_ (HT3.out.kp hb3 HK4.out)
    have hb4 : B ≤ w4.heap.size := Nat.le_trans hb3 HK4.out.size
    have HL2 := hide_ (read_any B gb aT cT T vL _ E _ (-1) el t2 w4 (by simp; omega) hn HT4 (hide_ hM4))
    have HKb := hide_ (HKa.out.trans HK4.out)
    clear j0 j1 j2 HKt3 HL1 HT3 HM4 hM4 HK4 HKa
    have j2 := HKt4.out.cell 2
    simp at j2
    go_upto_region 6 with (go_at_call 31; refine HL2.out.mono ?_; rintro e w5 ⟨rfl, HM5, HK5⟩)
    have HL3 := hide_ (layTo_old B gb _ vL _ E _ ⟨w.heap.size + 1, 0, true, (C.length : Int), .slice none 0 0, []⟩ 19 0 w5 (by simp; omega) (List.mem_cons_self ..) rfl HM5)
    clear HL2 HT4 j2
    go_wp2_with (go_at_call 30; refine HL3.out.mono ?_; rintro e w6 ⟨rfl, HM6, HK6⟩)
    (try simp only [Exit.inBlock, Exit.then])
    refine bodyPost_ret (results_none rfl _ _ _) rfl ?_
    refine ⟨rfl, hide_ ⟨[⟨13, nn, 0, 0⟩, rdP T (-1) (el : Int), ⟨19, 0, (C.length : Int), 0⟩], [(C.length : Int)], v4, ?_, by simp, ?_, ?_, by simp [itF]⟩, hide_ (HKb.out.trans (HK5.out.trans HK6.out))⟩
    · have := HM6.out.sub (M' := [⟨mg, mo, false, 0, v4, [(C.length : Int)]⟩]) (by simp)
      simpa using this
    · intro k hk
      simp only [List.mem_singleton] at hk
      subst hk
      simp
      omega
    · rw [patL_one]
      have := patI_mid ((C ++ [(⟨13, nn, 0, 0⟩ : In), rdP T (-1) (el : Int), ⟨19, 0, (C.length : Int), 0⟩]).length : Int) C ⟨13, nn, 0, 0⟩ [rdP T (-1) (el : Int), ⟨19, 0, (C.length : Int), 0⟩] (C.length : Int) rfl
      rw [this]
      unfold itF
      rw [if_pos rfl, ← hb]
      have e : ((C ++ [(⟨13, nn, 0, 0⟩ : In), rdP T (-1) (el : Int), ⟨19, 0, (C.length : Int), 0⟩]).length : Int) = b + 4 := by simp; omega
      rw [e]
  · have h5' : (k == 5) = false := by simpa using h5
    have HL1 := hide_ (read_any B gb aT cT T vL C E _ (-1) el t2 w3 (by omega) hn HT3 HM3)
    go_upto_region 8 with (go_at_call 31; refine HL1.out.mono ?_; rintro e w4 ⟨rfl, HM4, HK4⟩)
    have HKt4 := hide_ (HK4.out.blk HKt3.out (by unfold own4; decide))
    have HL2 := hide_ (layTo_old B gb _ vL _ E _ ⟨w.heap.size + 1, 0, true, (C.length : Int), .slice none 0 0, []⟩ 14 nn w4 (by simp; omega) (List.mem_cons_self ..) rfl HM4)
    clear j0 j1 j2 HKt3 HL1 HT3
    have j1 := HKt4.out.cell 1
    simp at j1
    go_wp2_with (go_at_call 30; refine HL2.out.mono ?_; rintro e w5 ⟨rfl, HM5, HK5⟩)
    go_end0
    refine ⟨rfl, hide_ ⟨[rdP T (-1) (el : Int), ⟨14, nn, (C.length : Int), 0⟩], [], mv, ?_, by simp, ?_, ?_, by simp [itF, h5]⟩, hide_ (HKa.out.trans (HK4.out.trans HK5.out))⟩
    · have := HM5.out.sub (M' := [⟨mg, mo, false, 0, mv, []⟩]) (by simp)
      simpa using this
    · intro k hk
      cases hk
    · rw [patL_nil]
      unfold itF
      rw [if_neg h5, ← hb]
end Go.Proofs.Ytepmgbfdmbogiaa
