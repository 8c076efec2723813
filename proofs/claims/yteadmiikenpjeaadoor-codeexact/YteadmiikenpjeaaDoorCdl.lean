/- Code: the reader: instr. -/
import Derived.Test.YteadmiikenpjeaaDoorCdk
namespace Go.Proofs.YteadmiikenpjeaaDoor
open Go.RowKit
set_option linter.unusedVariables false

theorem retIn {fn : Func} {p : Tmp} (h : fn.results = #[.cell p 41]) {R : Ending → World → Prop} {tmps : Array Value} {g : Nat} {w : World} {x y z t : Value} (hp : tmps.getD p undef = .pointer (some ⟨g, 0, none⟩)) (hK : Blk w g 41 [x, y, z, t]) (hR : R (.returned (.agg #[x, y, z, t])) w) :
    bodyPost Tryd.prog fn R Exit.ret ⟨tmps, []⟩ w :=
  bodyPost_ret (results_cell_row h _ _ _ _ #[x, y, z, t] _ _ hp (show w.heap[g]? = some (.cells #[x, y, z, t] 41 (0, 0)) from hK) Tryd.underlying41 rfl (by show _ = some 4; kernel_rfl)) rfl hR
theorem rdV_rng (l : List Int) (s : Rs) (er : Int) (may : Int → Bool) (M : Int) (hM : 0 ≤ M) (hm : ∀ n, may n = true → n ≤ M) (hb : Bys l) : 0 ≤ (rdV l s er may).1 ∧ (rdV l s er may).1 ≤ M := by
  have h := get_u64 (getF_R (l.drop s.at_)) (hb.drop _)
  unfold rdV
  by_cases h0 : s.e = 0
  · rw [if_pos h0]
    by_cases h1 : (getF (l.drop s.at_)).2.2 = 0
    · rw [if_pos h1]
      by_cases h2 : may (getF (l.drop s.at_)).1 = true
      · rw [if_pos h2]; exact ⟨h.1, hm _ h2⟩
      · rw [if_neg h2]; exact ⟨Int.le_refl _, hM⟩
    · rw [if_neg h1]; exact ⟨Int.le_refl _, hM⟩
  · rw [if_neg h0]; exact ⟨Int.le_refl _, hM⟩
theorem rdN_rng (l : List Int) (s : Rs) (hb : Bys l) : 0 ≤ (rdN l s).1 ∧ (rdN l s).1 ≤ 2147483648 := rdV_rng l s 3 mayN 2147483648 (by omega) (fun n => mayN_rng) hb
theorem rdN_at (l : List Int) (s : Rs) (h : s.at_ ≤ l.length) : (rdN l s).2.at_ ≤ l.length := rdV_at l s 3 mayN h
theorem rd1_at (l : List Int) (k : Int) (s : Rs) (h : s.at_ ≤ l.length) : (rd1 l k s).2.at_ ≤ l.length := by
  unfold rd1
  split
  · exact h
  · exact rdN_at l s h
/-- The reader behind j operands, and what they are. -/
def stJ (l : List Int) (k : Int × Int × Int) (s : Rs) : Nat → Rs
  | 0 => s
  | j + 1 => (rd1 l (kat k j) (stJ l k s j)).2
def hvJ (l : List Int) (k : Int × Int × Int) (s : Rs) (j : Nat) (i : Nat) : Int := if i < j then (rd1 l (kat k i) (stJ l k s i)).1 else 0
theorem stJ_at (l : List Int) (k : Int × Int × Int) (s : Rs) (h : s.at_ ≤ l.length) : ∀ j, (stJ l k s j).at_ ≤ l.length
  | 0 => h
  | j + 1 => rd1_at l _ _ (stJ_at l k s h j)
theorem rdI_is (l : List Int) (enc : Bool) (s : Rs) : rdI l enc s = (⟨(rdV l s 140 (mayI enc)).1, hvJ l (kin (rdV l s 140 (mayI enc)).1) (rdV l s 140 (mayI enc)).2 3 0, hvJ l (kin (rdV l s 140 (mayI enc)).1) (rdV l s 140 (mayI enc)).2 3 1, hvJ l (kin (rdV l s 140 (mayI enc)).1) (rdV l s 140 (mayI enc)).2 3 2⟩, stJ l (kin (rdV l s 140 (mayI enc)).1) (rdV l s 140 (mayI enc)).2 3) := rfl
theorem ix5_0 (x y z : Value) (w : World) : (Instr.index 80 (.agg #[x, y, z]) (.int .i64 0)).run Tryd.prog w = .ok x w := by kernel_rfl
theorem ix5_1 (x y z : Value) (w : World) : (Instr.index 80 (.agg #[x, y, z]) (.int .i64 1)).run Tryd.prog w = .ok y w := by kernel_rfl
theorem ix5_2 (x y z : Value) (w : World) : (Instr.index 80 (.agg #[x, y, z]) (.int .i64 2)).run Tryd.prog w = .ok z w := by kernel_rfl
section
theorem Row.updE {k : IntKind} {w w' : World} {a : Option Addr} {l : List Int} {S : Nat → Prop} (h : Row k w a l) (hu : Upd S w w') (hs : ∀ x, a = some x → 0 < l.length → ¬ S x.block) : Row k w' a l := by
  rcases Nat.eq_zero_or_pos l.length with h0 | h0
  · have hl : l = [] := List.eq_nil_of_length_eq_zero h0
    subst hl
    rcases h with h | ⟨x, h, -⟩
    · exact .inl h
    · exact .inr ⟨x, h, fun i hi => by simp at hi⟩
  · exact h.upd hu (fun x hx => hs x hx h0)
variable (gr : Nat) (av : Option Addr) (cv : Nat) (u1 u2 : Value) (l : List Int) (s : Rs) (w : World) (hs : s.at_ ≤ l.length) (hlc : l.length ≤ cv) (hcv : l.length ≤ 9223372036854775000) (hnil : av = none → cv = 0) (hby : Hid (Bys l)) (hrow : Hid (Row .u8 w av l)) (hne : Hid (∀ x, av = some x → 0 < l.length → ¬ x.block = gr)) (h : Hid (Blk w gr 63 (rdc (.slice av l.length cv) s u1 u2)))
include hs hlc hcv hnil hby hrow hne h
set_option maxRecDepth 100000 in
set_option maxHeartbeats 4000000 in
theorem instr_any (enc : Bool) : Calls Tryd.prog 55 #[.pointer (some ⟨gr, 0, none⟩), .bool enc] w fun e w' => e = .returned (.agg #[.int .i64 (rdI l enc s).1.op, .int .i64 (rdI l enc s).1.a, .int .i64 (rdI l enc s).1.b, .int .i64 (rdI l enc s).1.c]) ∧ Hid (Blk w' gr 63 (rdc (.slice av l.length cv) (rdI l enc s).2 u1 u2)) ∧ Hid (Upd (fun k => k = gr) w w') := by
  have hmf : ∀ (fn : Fn) (first cap : Array Value) (w : World), (Instr.makeFunc fn first cap).run Tryd.prog w = .ok (.func fn first cap) w := fun _ _ _ _ => rfl
  have hgr := h.out.lt
  obtain ⟨w1, hw1⟩ : ∃ wx, wx = (w.alloc (.cells #[.bool enc] 4)).alloc (.cells #[.int .i64 0, .int .i64 0, .int .i64 0, .int .i64 0] 41) := ⟨_, rfl⟩
  have hB1 : Below w.heap.size w w1 := by rw [hw1]; exact below2 _ _ _
  obtain ⟨kq, ki⟩ := blk2 w #[.bool enc] #[.int .i64 0, .int .i64 0, .int .i64 0, .int .i64 0] 4 41
  rw [← hw1] at kq ki
  have KQ := hide_ kq
  have KI := hide_ ki
  have HB1 := hide_ hB1
  have HRI := hide_ (rdI_is l enc s)
  have HV := hide_ (varintI_any enc w.heap.size gr av cv u1 u2 l s 140 w1 hs hlc hcv hnil hby (hide_ (hrow.out.later hB1)) (hide_ (h.out.later hB1)) KQ)
  have hat := rdV_at l s 140 (mayI enc) hs
  generalize rdV l s 140 (mayI enc) = O at *
  obtain ⟨op, S0⟩ := O
  simp only at HV HRI hat
  have HKi := hide_ (fun w' => kinds_any op w')
  generalize hkk : kin op = kk at *
  obtain ⟨k0, k1, k2⟩ := kk
  unfold kv at HKi
  simp only at HKi
  have HZ1 : Hid (w.heap.size + 2 ≤ w1.heap.size) := hide_ (by rw [hw1]; simp)
  clear hkk hB1 kq ki
  go_enter Tryd.func55, Tryd.ntmps55
  go_upto_region 1 with fail
  rw [← hw1]
  clear hw1
  go_upto_region 2 with (go_at_call 69; refine HV.out.mono ?_; rintro e w2 ⟨rfl, HK2, HU2⟩)
  obtain ⟨w3, hw3⟩ : ∃ wx, wx = w2.alloc (.cells #[.int .i64 0, .int .i64 0, .int .i64 0] 79) := ⟨_, rfl⟩
  have hB3 : Below w2.heap.size w2 w3 := by rw [hw3]; exact below1 _ _
  have KH3 : Hid (Blk w3 w2.heap.size 79 [.int .i64 0, .int .i64 0, .int .i64 0]) := hide_ (by rw [hw3]; exact Blk.newA w2 _ _)
  have hz2 := HB1.out.size
  have hz3 := HU2.out.size
  have HU3 : Hid (Upd (fun k => k = gr) w w3) := hide_ (((Upd.of_below HB1.out).to HU2.out).then hB3)
  have KI3 := hide_ ((KI.out.upd HU2.out (fun e => by omega)).later hB3)
  have HK3 := hide_ (HK2.out.later hB3)
  go_upto_region 3 with fail
  rw [← hw3]
  clear hw3 hB3 HV HB1 KQ KI HU2 HK2
  go_wp2_with fail
  refine (HKi.out w3).mono ?_
  rintro e w4 ⟨rfl, hB4⟩
  have KH4 := hide_ (KH3.out.later hB4)
  have HU4 := hide_ (HU3.out.then hB4)
  have KI4 := hide_ (KI3.out.later hB4)
  have HK4 := hide_ (HK3.out.later hB4)
  have hgh : Hid (w.heap.size ≤ w2.heap.size ∧ gr < w2.heap.size ∧ w.heap.size + 1 < w2.heap.size) := hide_ (by have := HZ1.out; refine ⟨by omega, by omega, by omega⟩)
  generalize hg2 : w2.heap.size = g2 at *
  clear hB4 KH3 HU3 KI3 HK3 hg2 hz2 hz3 HKi
  go_wp2_with fail
  go_loopw [14] (fun x14 wr => ∃ j : Nat, j ≤ 3 ∧ x14 = .int .i64 (j : Int) ∧ Hid (Blk wr gr 63 (rdc (.slice av l.length cv) (stJ l (k0, k1, k2) S0 j) u1 u2)) ∧ Hid (Blk wr g2 79 [.int .i64 (hvJ l (k0, k1, k2) S0 j 0), .int .i64 (hvJ l (k0, k1, k2) S0 j 1), .int .i64 (hvJ l (k0, k1, k2) S0 j 2)]) ∧ Hid (Blk wr (w.heap.size + 1) 41 [.int .i64 0, .int .i64 0, .int .i64 0, .int .i64 0]) ∧ Hid (Upd (fun k => k = gr) w wr)) (fun x14 _ => 3 - (intOf x14).toNat)
  case atStart => exact ⟨0, by omega, rfl, HK4, KH4, KI4, HU4⟩
  case round =>
    obtain ⟨j, hj, rfl, HKq, KHq, KIq, HUq⟩ := hrel
    generalize wr = wq at *
    by_cases hlt : j < 3
    · have HNm := hide_ (number_any gr av cv u1 u2 l (stJ l (k0, k1, k2) S0 j) wq (stJ_at l _ S0 hat j) hlc hcv hnil hby (hide_ (Row.updE hrow.out HUq.out hne.out)) HKq)
      have hrng := rdN_rng l (stJ l (k0, k1, k2) S0 j) hby.out
      have HSt1 : Hid (kat (k0, k1, k2) j ≠ 0 → stJ l (k0, k1, k2) S0 (j + 1) = (rdN l (stJ l (k0, k1, k2) S0 j)).2 ∧ hvJ l (k0, k1, k2) S0 (j + 1) j = (rdN l (stJ l (k0, k1, k2) S0 j)).1 - 1) := hide_ (fun hk => by
        refine ⟨?_, ?_⟩
        · rw [stJ, rd1, if_neg hk]
        · unfold hvJ; rw [if_pos (by omega), rd1, if_neg hk])
      have HSt0 : Hid (kat (k0, k1, k2) j = 0 → stJ l (k0, k1, k2) S0 (j + 1) = stJ l (k0, k1, k2) S0 j ∧ hvJ l (k0, k1, k2) S0 (j + 1) j = 0) := hide_ (fun hk => by
        refine ⟨?_, ?_⟩
        · rw [stJ, rd1, if_pos hk]
        · unfold hvJ; rw [if_pos (by omega), rd1, if_pos hk])
      have HOld : Hid (∀ i, i ≠ j → hvJ l (k0, k1, k2) S0 (j + 1) i = hvJ l (k0, k1, k2) S0 j i) := hide_ (fun i hi => by
        unfold hvJ
        by_cases h1 : i < j
        · rw [if_pos h1, if_pos (by omega)]
        · rw [if_neg h1, if_neg (by omega)])
      have HZ : Hid (hvJ l (k0, k1, k2) S0 j j = 0) := hide_ (by unfold hvJ; rw [if_neg (by omega)])
      generalize rdN l (stJ l (k0, k1, k2) S0 j) = N at *
      obtain ⟨n, Sn⟩ := N
      simp only at HNm hrng HSt1
      have hnw : wrap64 (n - 1) = n - 1 := w64 _ (by omega)
      have ix0 := ix5_0 (.int .i64 k0) (.int .i64 k1) (.int .i64 k2)
      have ix1 := ix5_1 (.int .i64 k0) (.int .i64 k1) (.int .i64 k2)
      have ix2 := ix5_2 (.int .i64 k0) (.int .i64 k1) (.int .i64 k2)
      have h3 : j = 0 ∨ j = 1 ∨ j = 2 := by omega
      rcases h3 with rfl | rfl | rfl
      · simp only [kat] at HSt1 HSt0
        by_cases hk : k0 = 0
        · obtain ⟨e1, e2⟩ := HSt0.out hk
          have HK2 := HKq.out
          rw [← e1] at HK2
          have KH2 := KHq.out
          rw [← HOld.out 1 (by omega), ← HOld.out 2 (by omega), HZ.out] at KH2
          rw [← e2] at KH2
          have HK3 := hide_ HK2
          have KH3 := hide_ KH2
          subst hk
          clear HK2 KH2 e1 e2
          go_wp2_with fail
          go_roundw
          case rel => exact ⟨1, by omega, by go_num, HK3, KH3, KIq, HUq⟩
          case measure => simp [intOf]
        · obtain ⟨e1, e2⟩ := HSt1.out hk
          have hkb : (k0 != 0) = true := by simpa using hk
          rw [← e1] at HNm
          have HE2 := hide_ e2
          clear e1 e2
          go_upto_region 8 with (first | (go_at_call 54; refine HNm.out.mono ?_; rintro e w5 ⟨rfl, HK5, HU5⟩; (have KH5 := hide_ (KHq.out.upd HU5.out (fun e => by have := hgh.out; omega))); (have q0 := KH5.out.cell 0); (have qz := (fun i => KH5.out.frozen i)); simp at q0))
          have hg2r : Hid (w.heap.size ≤ g2 ∧ ¬ gr = g2 ∧ ¬ (w.heap.size + 1) = g2) := hide_ (by have := hgh.out; omega)
          have KI5 := hide_ ((KIq.out.upd HU5.out (fun e => by have := hgh.out; omega)).other ⟨g2, 0, none⟩ (.int .i64 (n - 1)) hg2r.out.2.2)
          have HK6 := hide_ (HK5.out.other ⟨g2, 0, none⟩ (.int .i64 (n - 1)) hg2r.out.2.1)
          have KH6 := hide_ (KH5.out.set 0 (.int .i64 (n - 1)))
          have HU6 := hide_ ((HUq.out.to HU5.out).set ⟨g2, 0, none⟩ (.int .i64 (n - 1)) (.inr hg2r.out.1))
          go_wp2_with fail
          go_roundw
          case rel =>
            refine ⟨1, by omega, by go_num, HK6, ?_, KI5, HU6⟩
            have := KH6.out
            simp only [List.set_cons_zero] at this
            rw [HOld.out 1 (by omega), HOld.out 2 (by omega)]
            rw [HE2.out]
            exact hide_ this
          case measure => simp [intOf]
      · simp only [kat] at HSt1 HSt0
        by_cases hk : k1 = 0
        · obtain ⟨e1, e2⟩ := HSt0.out hk
          have HK2 := HKq.out
          rw [← e1] at HK2
          have KH2 := KHq.out
          rw [← HOld.out 0 (by omega), ← HOld.out 2 (by omega), HZ.out] at KH2
          rw [← e2] at KH2
          have HK3 := hide_ HK2
          have KH3 := hide_ KH2
          subst hk
          clear HK2 KH2 e1 e2
          go_wp2_with fail
          go_roundw
          case rel => exact ⟨2, by omega, by go_num, HK3, KH3, KIq, HUq⟩
          case measure => simp [intOf]
        · obtain ⟨e1, e2⟩ := HSt1.out hk
          have hkb : (k1 != 0) = true := by simpa using hk
          rw [← e1] at HNm
          have HE2 := hide_ e2
          clear e1 e2
          go_upto_region 8 with (first | (go_at_call 54; refine HNm.out.mono ?_; rintro e w5 ⟨rfl, HK5, HU5⟩; (have KH5 := hide_ (KHq.out.upd HU5.out (fun e => by have := hgh.out; omega))); (have q0 := KH5.out.cell 1); (have qz := (fun i => KH5.out.frozen i)); simp at q0))
          have hg2r : Hid (w.heap.size ≤ g2 ∧ ¬ gr = g2 ∧ ¬ (w.heap.size + 1) = g2) := hide_ (by have := hgh.out; omega)
          have KI5 := hide_ ((KIq.out.upd HU5.out (fun e => by have := hgh.out; omega)).other ⟨g2, 1, none⟩ (.int .i64 (n - 1)) hg2r.out.2.2)
          have HK6 := hide_ (HK5.out.other ⟨g2, 1, none⟩ (.int .i64 (n - 1)) hg2r.out.2.1)
          have KH6 := hide_ (KH5.out.set 1 (.int .i64 (n - 1)))
          have HU6 := hide_ ((HUq.out.to HU5.out).set ⟨g2, 1, none⟩ (.int .i64 (n - 1)) (.inr hg2r.out.1))
          go_wp2_with fail
          go_roundw
          case rel =>
            refine ⟨2, by omega, by go_num, HK6, ?_, KI5, HU6⟩
            have := KH6.out
            simp only [List.set_cons_zero, List.set_cons_succ] at this
            rw [HOld.out 0 (by omega), HOld.out 2 (by omega)]
            rw [HE2.out]
            exact hide_ this
          case measure => simp [intOf]
      · simp only [kat] at HSt1 HSt0
        by_cases hk : k2 = 0
        · obtain ⟨e1, e2⟩ := HSt0.out hk
          have HK2 := HKq.out
          rw [← e1] at HK2
          have KH2 := KHq.out
          rw [← HOld.out 0 (by omega), ← HOld.out 1 (by omega), HZ.out] at KH2
          rw [← e2] at KH2
          have HK3 := hide_ HK2
          have KH3 := hide_ KH2
          subst hk
          clear HK2 KH2 e1 e2
          go_wp2_with fail
          go_roundw
          case rel => exact ⟨3, by omega, by go_num, HK3, KH3, KIq, HUq⟩
          case measure => simp [intOf]
        · obtain ⟨e1, e2⟩ := HSt1.out hk
          have hkb : (k2 != 0) = true := by simpa using hk
          rw [← e1] at HNm
          have HE2 := hide_ e2
          clear e1 e2
          go_upto_region 8 with (first | (go_at_call 54; refine HNm.out.mono ?_; rintro e w5 ⟨rfl, HK5, HU5⟩; (have KH5 := hide_ (KHq.out.upd HU5.out (fun e => by have := hgh.out; omega))); (have q0 := KH5.out.cell 2); (have qz := (fun i => KH5.out.frozen i)); simp at q0))
          have hg2r : Hid (w.heap.size ≤ g2 ∧ ¬ gr = g2 ∧ ¬ (w.heap.size + 1) = g2) := hide_ (by have := hgh.out; omega)
          have KI5 := hide_ ((KIq.out.upd HU5.out (fun e => by have := hgh.out; omega)).other ⟨g2, 2, none⟩ (.int .i64 (n - 1)) hg2r.out.2.2)
          have HK6 := hide_ (HK5.out.other ⟨g2, 2, none⟩ (.int .i64 (n - 1)) hg2r.out.2.1)
          have KH6 := hide_ (KH5.out.set 2 (.int .i64 (n - 1)))
          have HU6 := hide_ ((HUq.out.to HU5.out).set ⟨g2, 2, none⟩ (.int .i64 (n - 1)) (.inr hg2r.out.1))
          go_wp2_with fail
          go_roundw
          case rel =>
            refine ⟨3, by omega, by go_num, HK6, ?_, KI5, HU6⟩
            have := KH6.out
            simp only [List.set_cons_zero, List.set_cons_succ] at this
            rw [HOld.out 0 (by omega), HOld.out 1 (by omega)]
            rw [HE2.out]
            exact hide_ this
          case measure => simp [intOf]
    · obtain rfl : j = 3 := by omega
      have c0 := KHq.out.cell 0; have c1 := KHq.out.cell 1; have c2 := KHq.out.cell 2
      have d0 := KIq.out.cell 0; have d1 := KIq.out.cell 1; have d2 := KIq.out.cell 2; have d3 := KIq.out.cell 3
      have dz := fun i => KIq.out.frozen i
      simp at c0 c1 c2 d0 d1 d2 d3
      generalize hvJ l (k0, k1, k2) S0 3 0 = a at *
      generalize hvJ l (k0, k1, k2) S0 3 1 = b at *
      generalize hvJ l (k0, k1, k2) S0 3 2 = c at *
      generalize stJ l (k0, k1, k2) S0 3 = S3 at *
      have HU := hide_ HUq.out
      have hgi : Hid (w.heap.size ≤ w.heap.size + 1 ∧ ¬ gr = w.heap.size + 1) := hide_ ⟨by omega, by omega⟩
      go_wp2
      refine retIn rfl rfl ((((KIq.out.set 0 _).set 1 _).set 2 _).set 3 _) ?_
      refine ⟨by rw [HRI.out], ?_, hide_ ((((HU.out.set _ _ (.inr hgi.out.1)).set _ _ (.inr hgi.out.1)).set _ _ (.inr hgi.out.1)).set _ _ (.inr hgi.out.1))⟩
      rw [HRI.out]
      exact hide_ ((((HKq.out.other _ _ hgi.out.2).other _ _ hgi.out.2).other _ _ hgi.out.2).other _ _ hgi.out.2)
end
end Go.Proofs.YteadmiikenpjeaaDoor
