/- Lower: items, fields. -/
import Derived.Test.YtepmgbfdmbogiaaLwd
import Derived.Test.YtepmgbfdmbogiaaEg
namespace Go.Proofs.Ytepmgbfdmbogiaa
open Go.RowKit
set_option linter.unusedVariables false

theorem below_le {B B2 : Nat} {w w2 : World} (h : Below B w w2) (hB : B2 ≤ B) : Below B2 w w2 := ⟨h.os, h.tape, h.output, h.size, fun k hk => h.block k (by omega)⟩
/-- A type and its parts lie below B. -/
def Tc (B : Nat) (w : World) (aT : Option Addr) (T : List Ty) : Prop := ∀ n t, T[n]? = some t → ∃ b o va vc, aT = some ⟨b, o, none⟩ ∧ t.ps.length ≤ vc ∧ (va = none → vc = 0) ∧ ∀ w', Below B w w' → (∀ j, j < 4 → w'.cell? ⟨b, o + n * 4 + j, none⟩ = (tyc t (.slice va t.ps.length vc))[j]?) ∧ PRow w' va t.ps
theorem Tc.kp {B : Nat} {w w' : World} {aT : Option Addr} {T : List Ty} (h : Tc B w aT T) (hB : B ≤ w.heap.size) (hk : Kp B w w') : Tc B w' aT T := fun n t ht => by
  obtain ⟨b, o, va, vc, h1, h2, h3, h4⟩ := h n t ht
  exact ⟨b, o, va, vc, h1, h2, h3, fun w'' hb => h4 w'' ((hk.below hB).trans hb)⟩
theorem Tc.of {w0 w : World} {B : Nat} {aT : Option Addr} {T : List Ty} (h : TRow w0 aT T) (hB : w0.heap.size ≤ B) (hb : Below w0.heap.size w0 w) : Tc B w aT T := fun n t ht => by
  obtain ⟨b, o, rfl, hbl, hc⟩ := h.open (by have := (List.getElem?_eq_some_iff.1 ht).1; omega)
  obtain ⟨va, vc, h1, h2, h3, h4⟩ := hc n t ht
  refine ⟨b, o, va, vc, rfl, h2, h3, fun w' hw => ?_⟩
  have hb' : Below w0.heap.size w0 w' := hb.trans (below_le hw hB)
  exact ⟨fun j hj => (hb'.cell (p := ⟨b, o + n * 4 + j, none⟩) hbl).trans (h1 j hj), h4.later hb'⟩
theorem Tb.of {w0 w : World} {B : Nat} {aT : Option Addr} {T : List Ty} (h : TRow w0 aT T) (hB : w0.heap.size ≤ B) (hb : Below w0.heap.size w0 w) : Tb B w aT T := fun w' hw => h.later (hb.trans (below_le hw hB))
/-- A layout and its slots lie below B. -/
def Lc (B : Nat) (w : World) (aL : Option Addr) (Y : List Ly) : Prop := ∀ (n : Nat) (y : Ly), Y[n]? = some y → ∃ b o sa sc, aL = some ⟨b, o, none⟩ ∧ ∀ w', Below B w w' → w'.cell? ⟨b, o + n * 2, none⟩ = some (.int .i64 y.sz) ∧ w'.cell? ⟨b, o + n * 2 + 1, none⟩ = some (.slice sa y.sl.length sc) ∧ GRow 3 slc w' sa y.sl
theorem Lc.kp {B : Nat} {w w' : World} {aL : Option Addr} {Y : List Ly} (h : Lc B w aL Y) (hB : B ≤ w.heap.size) (hk : Kp B w w') : Lc B w' aL Y := fun n t ht => by
  obtain ⟨b, o, sa, sc, h1, h2⟩ := h n t ht
  exact ⟨b, o, sa, sc, h1, fun w'' hb => h2 w'' ((hk.below hB).trans hb)⟩
theorem rowP_v (X : List Ex) (ps : List Pt) : ∀ (i : Nat) (p : Pt), ps[i]? = some p → ∃ s : Sl, (rowP X ps).sl[i]? = some s ∧ s.v = !(exAt X p.ty).f := by
  refine snoc_ind (P := fun ps => ∀ (i : Nat) (p : Pt), ps[i]? = some p → ∃ s : Sl, (rowP X ps).sl[i]? = some s ∧ s.v = !(exAt X p.ty).f) (fun i p h => by simp at h) (fun l x ih => ?_) ps
  intro i p h
  rw [rowP_snoc]
  have hl := rowP_len X l
  by_cases hi : i < l.length
  · rw [List.getElem?_append_left hi] at h
    obtain ⟨s, hs, hv⟩ := ih i p h
    exact ⟨s, by unfold addF; simp only; rw [List.getElem?_append_left (by omega)]; exact hs, hv⟩
  · have hi2 : i = l.length := by
      have := (List.getElem?_eq_some_iff.1 h).1
      simp at this
      omega
    subst hi2
    simp at h
    subst h
    refine ⟨slotP (exAt X x.ty) (rowP X l).sz, by unfold addF; simp only; rw [List.getElem?_append_right (by omega), hl]; simp, ?_⟩
    unfold slotP
    cases (exAt X x.ty).f <;> rfl
set_option maxRecDepth 100000 in
set_option maxHeartbeats 4000000 in
theorem items_any (B gb : Nat) (aT aL : Option Addr) (cT nL cL : Nat) (T : List Ty) (X : List Ex) (Y : List Ly) (C : List In) (E : List Int) (m : Mk) (n : Nat) (k nn : Int) (el : Nat) (ps : List Pt) (t2 : Ty) (y : Ly) (w : World) (hl : C.length ≤ 800000000) (hn : T[n]? = some ⟨k, nn, (el : Int), ps⟩) (hY : Y.length = nL) (hy : Y[n]? = some y) (hsl : y.sl = [slotP (exAt X (el : Int)) 0]) (hel : T[el]? = some t2) (hk : k = 4 ∨ k = 5) (hm0 : m.kn = false) (hm1 : m.W = []) (hm2 : m.nu = 0) (HT : Hid (Tb B w aT T)) (HC : Hid (Tc B w aT T)) (HL : Hid (Lc B w aL Y)) (h : Hid (Mb w B gb (.slice aT T.length cT) (.slice aL nL cL) C E [m])) :
    Calls Try.prog 32 #[.pointer (some ⟨gb, 0, none⟩), .int .i64 (n : Int), .pointer (some ⟨m.g, m.o, none⟩)] w fun e w' => e = .returned (.tuple #[]) ∧ Hid (BodyTo B gb (.slice aT T.length cT) (.slice aL nL cL) C E m (⟨5, 0, 0, 0⟩ :: (if (exAt X (el : Int)).f then itF T ⟨k, nn, (el : Int), ps⟩ (C.length : Int) else itV ⟨k, nn, (el : Int), ps⟩ y.sz (C.length : Int))) w') ∧ Hid (Kp B w w') := by
  have hnl : n < nL := by rw [← hY]; exact (List.getElem?_eq_some_iff.1 hy).1
  have hnl' : (n : Int) < (nL : Int) := by omega
  have hnt : (n : Int) < (T.length : Int) := by have := (List.getElem?_eq_some_iff.1 hn).1; omega
  have hbase := h.out.base
  have HLy := hide_ (lay_any B gb _ _ C E [m] ⟨5, 0, 0, 0⟩ w (by omega) h)
  have HY := hide_ hY
  clear hY
  go_enter Try.func32, Try.ntmps32
  go_upto_region 1 with (go_at_call 36; refine HLy.out.mono ?_; rintro e w2 ⟨rfl, HM2, HK2⟩)
  clear HLy
  have HT2 := hide_ (HT.out.kp hbase HK2.out)
  have HC2 := hide_ (HC.out.kp hbase HK2.out)
  have HL2 := hide_ (HL.out.kp hbase HK2.out)
  have hb2 : B ≤ w2.heap.size := Nat.le_trans hbase HK2.out.size
  obtain ⟨bL, oL, sa, sc, rfl, hly⟩ := HL2.out n y hy
  obtain ⟨l0, l1, hsr⟩ := hly w2 (Below.refl _ _)
  have l1' := l1
  rw [hsl] at l1 hsr
  simp only [List.length_singleton] at l1
  obtain ⟨bS, oS, rfl, hbS, hsc⟩ := hsr.open (by simp)
  obtain ⟨vC, vE, kb, -, -, -⟩ := HM2.out.bd
  have ib := kb.cell 1
  simp at ib
  obtain ⟨w3, hw3⟩ : ∃ wx, wx = w2.alloc (.cells #[.int .i64 y.sz, .slice (some ⟨bS, oS, none⟩) 1 sc] 79) := ⟨_, rfl⟩
  have hB3 : Below w2.heap.size w2 w3 := by rw [hw3]; exact below1 _ _
  have kl : Blk w3 w2.heap.size 79 [.int .i64 y.sz, .slice (some ⟨bS, oS, none⟩) 1 sc] := by rw [hw3]; exact Blk.newA w2 _ _
  have HM3 := hide_ (HM2.out.later hB3)
  have HK3 : Hid (Kp B w2 w3) := hide_ (Kp.later hB3)
  have HT3 := hide_ (HT2.out.kp hb2 HK3.out)
  have HC3 := hide_ (HC2.out.kp hb2 HK3.out)
  have hb3 : B ≤ w3.heap.size := Nat.le_trans hb2 HK3.out.size
  have HKa := hide_ (HK2.out.trans HK3.out)
  have HKl := hide_ kl
  have hsv := hsc 0 _ rfl 1 (by decide)
  simp only [Nat.zero_mul, Nat.add_zero] at hsv
  have e1 : (slc (slotP (exAt X (el : Int)) 0))[1]? = some (.bool (!(exAt X (el : Int)).f)) := by unfold slotP; cases (exAt X (el : Int)).f <;> rfl
  rw [e1] at hsv
  have s1 : w3.cell? ⟨bS, oS + 1, none⟩ = some (.bool (!(exAt X (el : Int)).f)) := (hB3.cell (p := ⟨bS, oS + 1, none⟩) hbS).trans hsv
  have k1 := kl.cell 1
  simp at k1
  clear hly hsr hsc hsv e1 kl hB3 HT2 HC2 HL2 HL HC HT h HM2 HK2 HK3 l1' kb
  go_upto_region 2 with fail
  rw [← hw3]
  clear hw3 l0 l1 ib
  cases hf : (exAt X (el : Int)).f with
  | true =>
    rw [hf] at s1
    simp only [Bool.not_true] at s1
    obtain ⟨bT, oT, va, vc, rfl, -, -, htc⟩ := HC3.out n _ hn
    obtain ⟨hcc, -⟩ := htc w3 (Below.refl _ _)
    have i0 := hcc 0 (by decide); have i1 := hcc 1 (by decide); have i2 := hcc 2 (by decide); have i3 := hcc 3 (by decide)
    simp [tyc] at i0 i1 i2 i3
    obtain ⟨vC3, vE3, kb3, -, -, -⟩ := HM3.out.bd
    have ib := kb3.cell 0
    simp at ib
    have HV := hide_ (fixed_any B gb _ cT T _ (C ++ [⟨5, 0, 0, 0⟩]) E m k nn el ps va vc t2 (C.length : Int) w3 (by simp; omega) (by simp) hel hm0 hm1 hm2 HT3 HM3)
    clear htc hcc kb3
    go_wp2_with (go_at_call 68; refine HV.out.mono ?_; rintro e w5 ⟨rfl, HM5, HK5⟩)
    go_end0
    exact ⟨rfl, hide_ HM5.out.cons, hide_ (HKa.out.trans HK5.out)⟩
  | false =>
    rw [hf] at s1
    simp only [Bool.not_false] at s1
    obtain ⟨bT, oT, va, vc, rfl, -, -, htc⟩ := HC3.out n _ hn
    obtain ⟨vC3, vE3, kb3, -, -, -⟩ := HM3.out.bd
    have HV : Hid (Calls Try.prog 67 #[.pointer (some ⟨gb, 0, none⟩), .agg #[.int .i64 k, .int .i64 nn, .int .i64 (el : Int), .slice va ps.length vc], .int .i64 y.sz, .pointer (some ⟨m.g, m.o, none⟩)] w3.drew fun e w' => e = .returned (.tuple #[]) ∧ Hid (BodyTo B gb (.slice (some ⟨bT, oT, none⟩) T.length cT) (.slice (some ⟨bL, oL, none⟩) nL cL) (C ++ [⟨5, 0, 0, 0⟩]) E m (itV ⟨k, nn, (el : Int), ps⟩ y.sz (C.length : Int)) w') ∧ Hid (Kp B w3.drew w')) := hide_ (by
      rcases hk with rfl | rfl
      · exact var_vec B gb _ _ (C ++ [⟨5, 0, 0, 0⟩]) E m nn (el : Int) y.sz ps va vc (C.length : Int) w3.drew (by simp; omega) (by simp) hm0 hm1 hm2 (hide_ (HM3.out.later ((Below.refl _ _).drew)))
      · exact var_list B gb _ _ (C ++ [⟨5, 0, 0, 0⟩]) E m nn (el : Int) y.sz ps va vc (C.length : Int) w3.drew (by simp; omega) (by simp) hm0 hm1 hm2 (hide_ (HM3.out.later ((Below.refl _ _).drew))))
    have HSS : Hid (∀ w', Below w3.heap.size w3 w' → (fun w' => w'.cell? ⟨gb, 0, none⟩ = some (.slice (some ⟨bT, oT, none⟩) T.length cT) ∧ w'.cell? ⟨bT, oT + n * 4, none⟩ = some (.int .i64 k) ∧ w'.cell? ⟨bT, oT + n * 4 + 1, none⟩ = some (.int .i64 nn) ∧ w'.cell? ⟨bT, oT + n * 4 + 2, none⟩ = some (.int .i64 (el : Int)) ∧ w'.cell? ⟨bT, oT + n * 4 + 3, none⟩ = some (.slice va ps.length vc) ∧ w'.cell? ⟨w2.heap.size, 0, none⟩ = some (.int .i64 y.sz)) w') := hide_ (fun w' hb => by
      obtain ⟨hcc, -⟩ := htc w' (below_le hb hb3)
      have i0 := hcc 0 (by decide); have i1 := hcc 1 (by decide); have i2 := hcc 2 (by decide); have i3 := hcc 3 (by decide)
      simp [tyc] at i0 i1 i2 i3
      have ib := (kb3.later hb).cell 0
      have il := (HKl.out.later hb).cell 0
      simp at ib il
      exact ⟨ib, i0, i1, i2, i3, il⟩)
    clear htc kb3 hk
    go_upto_region 3 with fail
    clear s1 k1
    refine wp_region_last 11 (fun w' => w'.cell? ⟨gb, 0, none⟩ = some (.slice (some ⟨bT, oT, none⟩) T.length cT) ∧ w'.cell? ⟨bT, oT + n * 4, none⟩ = some (.int .i64 k) ∧ w'.cell? ⟨bT, oT + n * 4 + 1, none⟩ = some (.int .i64 nn) ∧ w'.cell? ⟨bT, oT + n * 4 + 2, none⟩ = some (.int .i64 (el : Int)) ∧ w'.cell? ⟨bT, oT + n * 4 + 3, none⟩ = some (.slice va ps.length vc) ∧ w'.cell? ⟨w2.heap.size, 0, none⟩ = some (.int .i64 y.sz)) (by kernel_rfl) (HSS.out _ ((Below.refl w3.heap.size w3).drew)) (fun hHeld => ?_)
    refine wpAnyF_take [11] (by kernel_rfl) (i := 0) (v := ?vi1) rfl (by kernel_rfl) (by kernel_rfl) (by kernel_rfl) (fun _ _ _ h => h) (Or.inl ⟨by kernel_rfl, ?hyi1⟩) hHeld ?resti1
    case hyi1 => intro w' hSw; (try dsimp only at hSw); go_simp; try with_reducible rfl
    simp only [Act.put]
    refine wpAnyF_take [11, 7, 6, 4, 3, 2] (by kernel_rfl) (i := 1) (v := ?vi2) rfl (by kernel_rfl) (by kernel_rfl) (by kernel_rfl) (fun _ _ _ h => h) (Or.inl ⟨by kernel_rfl, ?hyi2⟩) hHeld ?resti2
    case hyi2 => intro w' hSw; (try dsimp only at hSw); go_simp; try with_reducible rfl
    simp only [Act.put]
    refine wpAnyF_take [11, 7, 6, 4, 3] (by kernel_rfl) (i := 2) (v := ?vi3) rfl (by kernel_rfl) (by kernel_rfl) (by kernel_rfl) (fun _ _ _ h => h) (Or.inl ⟨by kernel_rfl, ?hyi3⟩) hHeld ?resti3
    case hyi3 => intro w' hSw; (try dsimp only at hSw); go_simp; try with_reducible rfl
    simp only [Act.put]
    refine wpAnyF_take [11, 7, 6, 4] (by kernel_rfl) (i := 3) (v := ?vi4) rfl (by kernel_rfl) (by kernel_rfl) (by kernel_rfl) (fun _ _ _ h => h) (Or.inl ⟨by kernel_rfl, ?hyi4⟩) hHeld ?resti4
    case hyi4 => intro w' hSw; (try dsimp only at hSw); go_simp; try with_reducible rfl
    simp only [Act.put]
    refine wpAnyF_take [11, 7, 6] (by kernel_rfl) (i := 4) (v := ?vi5) rfl (by kernel_rfl) (by kernel_rfl) (by kernel_rfl) (fun _ _ _ h => h) (Or.inl ⟨by kernel_rfl, ?hyi5⟩) hHeld ?resti5
    case hyi5 => intro w' hSw; (try dsimp only at hSw); go_simp; try with_reducible rfl
    simp only [Act.put]
    refine wpAnyF_take [11, 7, 6] (by kernel_rfl) (i := 5) (v := ?vi6) rfl (by kernel_rfl) (by kernel_rfl) (by kernel_rfl) (fun _ _ _ h => h) (Or.inl ⟨by kernel_rfl, ?hyi6⟩) hHeld ?resti6
    case hyi6 => intro w' hSw; (try dsimp only at hSw); go_simp; try with_reducible rfl
    simp only [Act.put]
    refine wpAnyF_take [11, 7] (by kernel_rfl) (i := 6) (v := ?vi7) rfl (by kernel_rfl) (by kernel_rfl) (by kernel_rfl) (fun _ _ _ h => h) (Or.inl ⟨by kernel_rfl, ?hyi7⟩) hHeld ?resti7
    case hyi7 => intro w' hSw; (try dsimp only at hSw); go_simp; try with_reducible rfl
    simp only [Act.put]
    refine wpAnyF_take [11] (by kernel_rfl) (i := 7) (v := ?vi8) rfl (by kernel_rfl) (by kernel_rfl) (by kernel_rfl) (fun _ _ _ h => h) (Or.inl ⟨by kernel_rfl, ?hyi8⟩) hHeld ?resti8
    case hyi8 => intro w' hSw; (try dsimp only at hSw); go_simp; try with_reducible rfl
    simp only [Act.put]
    refine wpAnyF_take [11, 9] (by kernel_rfl) (i := 8) (v := ?vi9) rfl (by kernel_rfl) (by kernel_rfl) (by kernel_rfl) (fun _ _ _ h => h) (Or.inl ⟨by kernel_rfl, ?hyi9⟩) hHeld ?resti9
    case hyi9 => intro w' hSw; (try dsimp only at hSw); go_simp; try with_reducible rfl
    simp only [Act.put]
    refine wpAnyF_take [11] (by kernel_rfl) (i := 9) (v := ?vi10) rfl (by kernel_rfl) (by kernel_rfl) (by kernel_rfl) (fun _ _ _ h => h) (Or.inl ⟨by kernel_rfl, ?hyi10⟩) hHeld ?resti10
    case hyi10 => intro w' hSw; (try dsimp only at hSw); go_simp; try with_reducible rfl
    simp only [Act.put]
    refine wpAnyF_take [11] (by kernel_rfl) (i := 10) (v := ?vi11) rfl (by kernel_rfl) (by kernel_rfl) (by kernel_rfl) (fun _ _ _ h => h) (Or.inl ⟨by kernel_rfl, ?hyi11⟩) hHeld ?resti11
    case hyi11 => intro w' hSw; (try dsimp only at hSw); go_simp; try with_reducible rfl
    simp only [Act.put]
    refine wpAnyF_ready (rs := [11]) (by kernel_rfl) (by simp) ?_
    refine AllReadyF.last rfl (fun K hK => ?_)
    go_simp
    refine HV.out.mono ?_
    rintro e w5 ⟨rfl, HM5, HK5⟩
    dsimp only
    refine hK.out _ _ ?_
    clear hK K
    refine wpAnyF_done (by kernel_rfl) ?_ _
    go_wp2_with fail
    go_end0
    exact ⟨rfl, hide_ HM5.out.cons, hide_ (HKa.out.trans ((Kp.later ((Below.refl w3.heap.size w3).drew)).trans HK5.out))⟩
end Go.Proofs.Ytepmgbfdmbogiaa
