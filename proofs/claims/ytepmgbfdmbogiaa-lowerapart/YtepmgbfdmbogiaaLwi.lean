/- Lower: arms. -/
import Derived.Test.YtepmgbfdmbogiaaLwe
namespace Go.Proofs.Ytepmgbfdmbogiaa
open Go.RowKit
set_option linter.unusedVariables false

theorem infoMk : (Try.prog.info? 83).map (fun i => (i.zero, i.size, i.bytes)) = some (some (.agg #[.bool false, .int .i64 0, .slice none 0 0]), 3, 40) := by kernel_rfl
theorem makeM (n : Nat) (hn : n ≤ 1000000000) (w : World) : (Instr.makeSlice 116 (.int .i64 (n : Int)) (.int .i64 (n : Int))).run Try.prog w = .ok (.slice (some ⟨w.heap.size, 0, none⟩) n n) (w.alloc (.cells (madeCells #[.bool false, .int .i64 0, .slice none 0 0] (n * 3)) 83)) := by
  obtain ⟨i0, hi, hz0, hz1, hz2⟩ := info_parts infoMk
  have hb : (i0.bytes : Int) * (n : Int) ≤ 281474976710656 := by rw [hz2]; omega
  have hr := run_make (P := Try.prog) w 116 83 i0 (.agg #[.bool false, .int .i64 0, .slice none 0 0]) Try.underlying116 hi hz0 .i64 .i64 n n (by omega) (Int.le_refl _) hb (by omega)
  rw [Int.toNat_natCast, hz1] at hr
  exact hr
theorem madeM (n j r : Nat) (h : j < n) (hr : r < 3) : (madeCells #[.bool false, .int .i64 0, .slice none 0 0] (n * 3)).toList[j * 3 + r]? = [.bool false, .int .i64 0, .slice none 0 0][r]? := by
  have hlt : j * 3 + r < n * 3 := by omega
  rw [Array.getElem?_toList]
  unfold madeCells
  rw [Array.getElem?_map, Array.getElem?_range, if_pos hlt]
  have e : (j * 3 + r) % 3 = r := by omega
  match r, hr with
  | 0, _ => simp at e ⊢
  | 1, _ => simp at e ⊢
  | 2, _ => simp at e ⊢
/-- The marks of the arms: those below i wait, or are known. -/
def RsOk (gr : Nat) (b : Int) (m i k : Nat) (rs : List Mk) : Prop := rs.length = m ∧ ∀ j r, rs[j]? = some r → r.g = gr ∧ r.o = j * 3 ∧ r.nu = (if j < k then r.nu else 0) ∧ (k ≤ j → r.kn = false ∧ r.W = if j < i then [b + 1 + (j : Int)] else [])
theorem RsOk.set {gr : Nat} {b : Int} {m i k i' k' : Nat} {rs : List Mk} (h : RsOk gr b m i k rs) {j : Nat} {r' : Mk} (hj : j < m) (h1 : r'.g = gr) (h2 : r'.o = j * 3) (h3 : r'.nu = (if j < k' then r'.nu else 0)) (h4 : k' ≤ j → r'.kn = false ∧ r'.W = if j < i' then [b + 1 + (j : Int)] else []) (hi : ∀ q, q ≠ j → ((q < i) ↔ (q < i'))) (hk : ∀ q, q ≠ j → ((q < k) ↔ (q < k'))) : RsOk gr b m i' k' (rs.set j r') := by
  refine ⟨by rw [List.length_set]; exact h.1, fun q r hq => ?_⟩
  by_cases e : q = j
  · subst e
    rw [List.getElem?_set_self (by rw [h.1]; exact hj)] at hq
    injection hq with hq
    subst hq
    exact ⟨h1, h2, h3, h4⟩
  · rw [List.getElem?_set_ne (fun h => e h.symm)] at hq
    obtain ⟨a1, a2, a3, a4⟩ := h.2 q r hq
    refine ⟨a1, a2, ?_, fun hkq => ?_⟩
    · by_cases hh : q < k'
      · rw [if_pos hh]
      · rw [if_neg (by have := hk q e; omega)] at a3
        rw [if_neg hh]
        exact a3
    · have := a4 (by have := hk q e; omega)
      simp only [hi q e] at this
      exact this
theorem split_at {α : Type} {l : List α} {i : Nat} {x : α} (h : l[i]? = some x) : l = l.take i ++ x :: l.drop (i + 1) := by
  have hi := (List.getElem?_eq_some_iff.1 h).1
  have := (List.take_append_drop i l).symm
  rw [List.drop_eq_getElem_cons hi, (List.getElem?_eq_some_iff.1 h).2] at this
  exact this
theorem set_split {α : Type} {l : List α} {i : Nat} (y : α) (h : i < l.length) : l.set i y = l.take i ++ y :: l.drop (i + 1) := by
  rw [List.set_eq_take_append_cons_drop, if_pos h]
/-- The marks of a made slice. -/
theorem Mb.made {w : World} {B gb : Nat} {vT vL : Value} {C : List In} {E : List Int} {M : List Mk} (h : Mb w B gb vT vL C E M) (n : Nat) : Mb (w.alloc (.cells (madeCells #[.bool false, .int .i64 0, .slice none 0 0] (n * 3)) 83)) B gb vT vL C E ((List.range n).map (fun j => ⟨w.heap.size, j * 3, false, 0, .slice none 0 0, []⟩) ++ M) := by
  have h1 := h.later (below1 w (.cells (madeCells #[.bool false, .int .i64 0, .slice none 0 0] (n * 3)) 83))
  have hk0 := Blk.newA w (madeCells #[.bool false, .int .i64 0, .slice none 0 0] (n * 3)) 83
  obtain ⟨vC, vE, hk, hc, he, hd⟩ := h1.bd
  refine ⟨h.lb, ⟨vC, vE, hk, hc, he, fun m hm => ?_⟩, fun m hm => ?_, ?_⟩
  · rcases List.mem_append.1 hm with hm | hm
    · obtain ⟨j, _, rfl⟩ := List.mem_map.1 hm
      intro k e
      simp [Value.ownBlock] at e
    · exact hd m hm
  · rcases List.mem_append.1 hm with hm | hm
    · obtain ⟨j, hj, rfl⟩ := List.mem_map.1 hm
      have hj := List.mem_range.1 hj
      exact ⟨h.base, ⟨_, hk0, madeM n j 0 hj (by decide), madeM n j 1 hj (by decide), madeM n j 2 hj (by decide)⟩, IOwn.nil _ _⟩
    · exact h1.ms m hm
  · rw [List.pairwise_append]
    refine ⟨?_, h.ap, fun p hp q hq => ?_⟩
    · rw [List.pairwise_map]
      refine List.Pairwise.imp ?_ List.pairwise_lt_range
      intro a b hab
      refine ⟨.inr (.inl ?_), fun k e => by simp [Value.ownBlock] at e⟩
      show a * 3 + 3 ≤ b * 3
      omega
    · obtain ⟨j, _, rfl⟩ := List.mem_map.1 hp
      refine ⟨.inl ?_, fun k e => by simp [Value.ownBlock] at e⟩
      obtain ⟨_, ⟨xs, hx, _⟩, _⟩ := h.ms q hq
      have := hx.lt
      show w.heap.size ≠ q.g
      omega
theorem rs0 (gr n : Nat) (b : Int) : RsOk gr b n 0 0 ((List.range n).map (fun j => ⟨gr, j * 3, false, 0, .slice none 0 0, []⟩)) := by
  refine ⟨by simp, fun j r hj => ?_⟩
  rw [List.getElem?_map] at hj
  by_cases h : j < n
  · rw [List.getElem?_range h] at hj
    injection hj with hj
    subst hj
    exact ⟨rfl, rfl, rfl, fun _ => ⟨rfl, rfl⟩⟩
  · rw [List.getElem?_eq_none (by simp; omega)] at hj
    cases hj
theorem arm_len (T : List Ty) (ps : List Pt) (C : List In) (k i : Nat) (hi : i < ps.length) : (C ++ (⟨8, (ps.length : Int), 0, 0⟩ :: (hdP ps (C.length : Int) k ps.length ++ bdP T ps 0 i))).length = C.length + 1 + ps.length + 2 * i := by
  simp [hdP_len, bdP_len T ps 0 i hi]
  omega
theorem arm_pat (T : List Ty) (ps : List Pt) (C : List In) (i : Nat) (hi : i < ps.length) : patL ((C ++ (⟨8, (ps.length : Int), 0, 0⟩ :: (hdP ps (C.length : Int) i ps.length ++ bdP T ps 0 i))).length : Int) [(C.length : Int) + 1 + (i : Int)] (C ++ (⟨8, (ps.length : Int), 0, 0⟩ :: (hdP ps (C.length : Int) i ps.length ++ bdP T ps 0 i))) = C ++ (⟨8, (ps.length : Int), 0, 0⟩ :: (hdP ps (C.length : Int) (i + 1) ps.length ++ bdP T ps 0 i)) := by
  rw [arm_len T ps C i i hi]
  have e : (C.length : Int) + 1 + (i : Int) = (C.length : Int) + ((i + 1 : Nat) : Int) := by omega
  rw [e]
  refine patL_off _ C _ _ (i + 1) ⟨9, (ptA ps i).tag, 0, 0⟩ ?_ ?_
  · rw [List.getElem?_cons_succ, List.getElem?_append_left (by rw [hdP_len]; exact hi), hdP_at hi, if_neg (by omega)]
  · rw [List.set_cons_succ, List.set_append_left _ _ (by rw [hdP_len]; exact hi), ← hdP_pat ps (C.length : Int) i ps.length hi]
    have e2 : ((C.length + 1 + ps.length + 2 * i : Nat) : Int) = (C.length : Int) + 1 + ps.length + 2 * (i : Int) := by omega
    rw [e2]
set_option maxRecDepth 100000 in
set_option maxHeartbeats 4000000 in
theorem arms_any (B gb : Nat) (aT : Option Addr) (cT : Nat) (vL : Value) (T : List Ty) (C : List In) (E : List Int) (m : Mk) (ps : List Pt) (va : Option Addr) (vc : Nat) (w : World) (hl : C.length ≤ 800000000) (hpl : ps.length ≤ 100) (hp0 : 0 < ps.length) (HPt : Hid (∀ (i : Nat) (p : Pt), ps[i]? = some p → ∃ (n : Nat) (t : Ty), p.ty = (n : Int) ∧ T[n]? = some t)) (hm0 : m.kn = false) (hm1 : m.W = []) (hm2 : m.nu = 0) (HT : Hid (Tb B w aT T)) (HP : Hid (∀ w', Below B w w' → PRow w' va ps)) (h : Hid (Mb w B gb (.slice aT T.length cT) vL C E [m])) :
    Calls Try.prog 33 #[.pointer (some ⟨gb, 0, none⟩), .slice va ps.length vc, .pointer (some ⟨m.g, m.o, none⟩)] w fun e w' => e = .returned (.tuple #[]) ∧ Hid (BodyTo B gb (.slice aT T.length cT) vL C E m (armP T ps (C.length : Int)) w') ∧ Hid (Kp B w w') := by
  obtain ⟨mg, mo, mk, mn, mv, mW⟩ := m
  simp only at hm0 hm1 hm2
  subst hm0 hm1 hm2
  have hbase := h.out.base
  have HLy := hide_ (lay_any B gb _ vL C E [⟨mg, mo, false, 0, mv, []⟩] ⟨8, (ps.length : Int), 0, 0⟩ w (by omega) h)
  go_enter Try.func33, Try.ntmps33
  go_upto_region 1 with (go_at_call 36; refine HLy.out.mono ?_; rintro e w1 ⟨rfl, HM1, HK1⟩)
  clear HLy h
  have hmk := makeM ps.length (by omega) w1
  obtain ⟨w2, hw2⟩ : ∃ wx, wx = w1.alloc (.cells (madeCells #[.bool false, .int .i64 0, .slice none 0 0] (ps.length * 3)) 83) := ⟨_, rfl⟩
  have HM2 := hide_ (HM1.out.made ps.length)
  rw [← hw2] at HM2 hmk
  have HK2 : Hid (Kp B w w2) := hide_ (HK1.out.then (by rw [hw2]; exact below1 _ _))
  have HR2 := hide_ (rs0 w1.heap.size ps.length (C.length : Int))
  clear hw2 HM1 HK1
  generalize w1.heap.size = gr at *
  go_upto_region 3 with fail
  clear hmk
  go_loopw [19] (fun x19 wr => ∃ (i : Nat), i ≤ ps.length ∧ x19 = .int .i64 (i : Int) ∧ Hid (∃ rs, RsOk gr (C.length : Int) ps.length i 0 rs ∧ Mb wr B gb (.slice aT T.length cT) vL (C ++ (⟨8, (ps.length : Int), 0, 0⟩ :: hdP ps (C.length : Int) 0 i)) E (rs ++ [⟨mg, mo, false, 0, mv, []⟩])) ∧ Hid (Kp B w wr)) (fun x19 _ => ps.length - (intOf x19).toNat)
  case atStart => exact ⟨0, Nat.zero_le _, rfl, hide_ ⟨_, HR2.out, HM2.out⟩, HK2⟩
  case round =>
    obtain ⟨i, hi, rfl, HMr, HKr⟩ := hrel
    generalize wr = wq at *
    clear HM2 HR2 HK2
    obtain ⟨rs, hrs, hM⟩ := HMr.out
    have HRs := hide_ hrs
    have HMq := hide_ hM
    clear hrs hM HMr
    by_cases hlt : i < ps.length
    · have hlt' : (i : Int) < ps.length := by omega
      have hx : ps[i]? = some (ps[i]'hlt) := List.getElem?_eq_getElem hlt
      have hpa := ptA_at hx
      obtain ⟨bP, oP, rfl, hbP, hcP⟩ := (HP.out wq (HKr.out.below hbase)).open (by omega)
      obtain ⟨r, hr⟩ : ∃ r, rs[i]? = some r := ⟨_, List.getElem?_eq_getElem (by rw [HRs.out.1]; exact hlt)⟩
      obtain ⟨r1, r2, r3, r4⟩ := HRs.out.2 i r hr
      obtain ⟨r5, r6⟩ := r4 (Nat.zero_le _)
      rw [if_neg (by omega)] at r3
      rw [if_neg (by omega)] at r6
      have HHd := hide_ (hdP_succ ps (C.length : Int) i)
      rw [hpa] at HHd
      have hlx : (C ++ (⟨8, (ps.length : Int), 0, 0⟩ :: hdP ps (C.length : Int) 0 i)).length = C.length + 1 + i := by simp [hdP_len]; omega
      have hMs := HMq.out
      rw [split_at hr, List.append_assoc, List.cons_append] at hMs
      have hcl := layTo_new B gb _ vL _ E (rs.take i) (rs.drop (i + 1) ++ [⟨mg, mo, false, 0, mv, []⟩]) r 9 (ps[i]'hlt).tag wq.drew (by omega) (by rw [r6]; simp) r5 (hide_ (hMs.later ((Below.refl _ _).drew)))
      rw [r1, r2] at hcl
      have HV := hide_ hcl
      have HFin : Hid (∀ w', (∃ v, Mb w' B gb (.slice aT T.length cT) vL ((C ++ (⟨8, (ps.length : Int), 0, 0⟩ :: hdP ps (C.length : Int) 0 i)) ++ [⟨9, (ps[i]'hlt).tag, r.nu, 0⟩]) E (rs.take i ++ ⟨gr, i * 3, false, r.nu, v, r.W ++ [((C ++ (⟨8, (ps.length : Int), 0, 0⟩ :: hdP ps (C.length : Int) 0 i)).length : Int)]⟩ :: (rs.drop (i + 1) ++ [⟨mg, mo, false, 0, mv, []⟩]))) → ∃ rs', RsOk gr (C.length : Int) ps.length (i + 1) 0 rs' ∧ Mb w' B gb (.slice aT T.length cT) vL (C ++ (⟨8, (ps.length : Int), 0, 0⟩ :: hdP ps (C.length : Int) 0 (i + 1))) E (rs' ++ [⟨mg, mo, false, 0, mv, []⟩])) := hide_ (fun w' ⟨v, hv⟩ => by
        refine ⟨rs.set i ⟨gr, i * 3, false, r.nu, v, r.W ++ [((C ++ (⟨8, (ps.length : Int), 0, 0⟩ :: hdP ps (C.length : Int) 0 i)).length : Int)]⟩, HRs.out.set hlt rfl rfl (by show r.nu = _; rw [if_neg (by omega)]; exact r3) (fun _ => ⟨rfl, ?_⟩) (fun q hq => by omega) (fun q hq => Iff.rfl), ?_⟩
        · show r.W ++ _ = _
          rw [r6, if_pos (by omega), hlx]
          simp
        · rw [set_split _ (by rw [HRs.out.1]; exact hlt), HHd.out, List.append_assoc, List.cons_append]
          rw [r3] at hv ⊢
          simpa using hv)
      have HSS : Hid (∀ w', Below wq.heap.size wq w' → w'.cell? ⟨bP, oP + i * 3 + 1, none⟩ = some (.int .i64 (ps[i]'hlt).tag)) := hide_ (fun w' hb => by
        have := hcP i _ hx 1 (by decide)
        exact (hb.cell (p := ⟨bP, oP + i * 3 + 1, none⟩) hbP).trans this)
      generalize ps[i]'hlt = p at *
      clear hMs hcl hx hpa hcP hbP HRs HMq r1 r2 r3 r4 r5 r6 hr hlx HHd
      go_upto_region 5 with fail
      refine wp_region_last 9 (fun w' => w'.cell? ⟨bP, oP + i * 3 + 1, none⟩ = some (.int .i64 p.tag)) (by kernel_rfl) (HSS.out _ ((Below.refl wq.heap.size wq).drew)) (fun hHeld => ?_)
      refine wpAnyF_take [9] (by kernel_rfl) (i := 0) (v := ?va1) rfl (by kernel_rfl) (by kernel_rfl) (by kernel_rfl) (fun _ _ _ h => h) (Or.inl ⟨by kernel_rfl, ?hya1⟩) hHeld ?resta1
      case hya1 => intro w' hSw; (try dsimp only at hSw); go_simp; try with_reducible rfl
      simp only [Act.put]
      refine wpAnyF_take [9, 5, 4, 3] (by kernel_rfl) (i := 1) (v := ?va2) rfl (by kernel_rfl) (by kernel_rfl) (by kernel_rfl) (fun _ _ _ h => h) (Or.inl ⟨by kernel_rfl, ?hya2⟩) hHeld ?resta2
      case hya2 => intro w' hSw; (try dsimp only at hSw); go_simp; try with_reducible rfl
      simp only [Act.put]
      refine wpAnyF_take [9, 5, 4, 3] (by kernel_rfl) (i := 2) (v := ?va3) rfl (by kernel_rfl) (by kernel_rfl) (by kernel_rfl) (fun _ _ _ h => h) (Or.inl ⟨by kernel_rfl, ?hya3⟩) hHeld ?resta3
      case hya3 => intro w' hSw; (try dsimp only at hSw); go_simp; try with_reducible rfl
      simp only [Act.put]
      refine wpAnyF_take [9, 5, 4] (by kernel_rfl) (i := 3) (v := ?va4) rfl (by kernel_rfl) (by kernel_rfl) (by kernel_rfl) (fun _ _ _ h => h) (Or.inl ⟨by kernel_rfl, ?hya4⟩) hHeld ?resta4
      case hya4 => intro w' hSw; (try dsimp only at hSw); go_simp; try with_reducible rfl
      simp only [Act.put]
      refine wpAnyF_take [9, 5] (by kernel_rfl) (i := 4) (v := ?va5) rfl (by kernel_rfl) (by kernel_rfl) (by kernel_rfl) (fun _ _ _ h => h) (Or.inl ⟨by kernel_rfl, ?hya5⟩) hHeld ?resta5
      case hya5 => intro w' hSw; (try dsimp only at hSw); go_simp; try with_reducible rfl
      simp only [Act.put]
      refine wpAnyF_take [9] (by kernel_rfl) (i := 5) (v := ?va6) rfl (by kernel_rfl) (by kernel_rfl) (by kernel_rfl) (fun _ _ _ h => h) (Or.inl ⟨by kernel_rfl, ?hya6⟩) hHeld ?resta6
      case hya6 => intro w' hSw; (try dsimp only at hSw); go_simp; try with_reducible rfl
      simp only [Act.put]
      refine wpAnyF_take [9, 8] (by kernel_rfl) (i := 6) (v := ?va7) rfl (by kernel_rfl) (by kernel_rfl) (by kernel_rfl) (fun _ _ _ h => h) (Or.inl ⟨by kernel_rfl, ?hya7⟩) hHeld ?resta7
      case hya7 => intro w' hSw; (try dsimp only at hSw); go_simp; try with_reducible rfl
      simp only [Act.put]
      refine wpAnyF_take [9, 8] (by kernel_rfl) (i := 7) (v := ?va8) rfl (by kernel_rfl) (by kernel_rfl) (by kernel_rfl) (fun _ _ _ h => h) (Or.inl ⟨by kernel_rfl, ?hya8⟩) hHeld ?resta8
      case hya8 => intro w' hSw; (try dsimp only at hSw); go_simp; try with_reducible rfl
      simp only [Act.put]
      refine wpAnyF_take [9] (by kernel_rfl) (i := 8) (v := ?va9) rfl (by kernel_rfl) (by kernel_rfl) (by kernel_rfl) (fun _ _ _ h => h) (Or.inl ⟨by kernel_rfl, ?hya9⟩) hHeld ?resta9
      case hya9 => intro w' hSw; (try dsimp only at hSw); go_simp; try with_reducible rfl
      simp only [Act.put]
      refine wpAnyF_ready (rs := [9]) (by kernel_rfl) (by simp) ?_
      refine AllReadyF.last rfl (fun K hK => ?_)
      go_simp
      refine HV.out.mono ?_
      rintro e w5 ⟨rfl, HM5, HK5⟩
      dsimp only
      refine hK.out _ _ ?_
      clear hK K
      refine wpAnyF_done (by kernel_rfl) ?_ _
      clear HSS
      go_wp2_with fail
      go_roundw
      case rel => exact ⟨i + 1, by omega, by go_num, hide_ (HFin.out _ HM5.out), hide_ (HKr.out.trans ((Kp.later ((Below.refl wq.heap.size wq).drew)).trans HK5.out))⟩
      case measure => simp [intOf]; omega
    · obtain rfl : i = ps.length := by omega
      clear hlt hi
      have HM0 : Hid (∃ rs v, RsOk gr (C.length : Int) ps.length ps.length 0 rs ∧ Mb wq B gb (.slice aT T.length cT) vL (C ++ (⟨8, (ps.length : Int), 0, 0⟩ :: (hdP ps (C.length : Int) 0 ps.length ++ bdP T ps 0 0))) E (rs ++ [⟨mg, mo, false, 0, v, jmW (C.length : Int) ps 0⟩])) := hide_ ⟨rs, mv, HRs.out, by have := HMq.out; simpa [bdP, jmW] using this⟩
      clear HMq HRs
      go_wp2_with fail
      go_loopw [35] (fun x35 wr => ∃ (i : Nat), i ≤ ps.length ∧ x35 = .int .i64 (i : Int) ∧ Hid (∃ rs v, RsOk gr (C.length : Int) ps.length ps.length i rs ∧ Mb wr B gb (.slice aT T.length cT) vL (C ++ (⟨8, (ps.length : Int), 0, 0⟩ :: (hdP ps (C.length : Int) i ps.length ++ bdP T ps 0 i))) E (rs ++ [⟨mg, mo, false, 0, v, jmW (C.length : Int) ps i⟩])) ∧ Hid (Kp B w wr)) (fun x35 _ => ps.length - (intOf x35).toNat)
      case atStart => exact ⟨0, Nat.zero_le _, rfl, HM0, HKr⟩
      case round =>
        obtain ⟨i, hi, rfl, HMs, HKs⟩ := hrel
        generalize wr = wz at *
        clear HM0 HKr
        obtain ⟨rs2, v, hrs, hM⟩ := HMs.out
        have HRs := hide_ hrs
        have HMz := hide_ hM
        clear hrs hM HMs
        by_cases hlt : i < ps.length
        · have hlt' : (i : Int) < ps.length := by omega
          have hx : ps[i]? = some (ps[i]'hlt) := List.getElem?_eq_getElem hlt
          have hpa := ptA_at hx
          obtain ⟨n, t2, hn1, hn2⟩ := HPt.out i _ hx
          obtain ⟨r, hr⟩ : ∃ r, rs2[i]? = some r := ⟨_, List.getElem?_eq_getElem (by rw [HRs.out.1]; exact hlt)⟩
          obtain ⟨r1, r2, r3, r4⟩ := HRs.out.2 i r hr
          obtain ⟨r5, r6⟩ := r4 (Nat.le_refl _)
          rw [if_pos hlt] at r6
          have hlx := arm_len T ps C i i hlt
          have hpt := arm_pat T ps C i hlt
          have hjl := jmW_len (C.length : Int) ps i
          have HBs := hide_ (bdP_succ T ps 0 i)
          rw [hpa, hn1] at HBs
          have hMs := HMz.out
          rw [split_at hr, List.append_assoc, List.cons_append] at hMs
          have hcl := set_any B gb _ vL _ E (rs2.take i) (rs2.drop (i + 1) ++ [⟨mg, mo, false, 0, v, jmW (C.length : Int) ps i⟩]) r wz (by omega) (by rw [r6]; simp) (hide_ (fun k hk => by rw [r6] at hk; simp only [List.mem_singleton] at hk; subst hk; rw [hlx]; omega)) (hide_ hMs)
          rw [r6, hpt, r1, r2] at hcl
          have HV := hide_ hcl
          have HFin : Hid (∀ u, RsOk gr (C.length : Int) ps.length ps.length (i + 1) (rs2.set i ⟨gr, i * 3, true, u, r.v, [(C.length : Int) + 1 + (i : Int)]⟩)) := hide_ (fun u => HRs.out.set hlt rfl rfl (by show u = _; rw [if_pos (by omega)]) (fun h => absurd h (by omega)) (fun q hq => Iff.rfl) (fun q hq => by omega))
          have HSp : Hid (∀ u, rs2.take i ++ (⟨gr, i * 3, true, u, r.v, [(C.length : Int) + 1 + (i : Int)]⟩ : Mk) :: (rs2.drop (i + 1) ++ [⟨mg, mo, false, 0, v, jmW (C.length : Int) ps i⟩]) = rs2.set i ⟨gr, i * 3, true, u, r.v, [(C.length : Int) + 1 + (i : Int)]⟩ ++ [⟨mg, mo, false, 0, v, jmW (C.length : Int) ps i⟩]) := hide_ (fun u => by rw [set_split _ (by rw [HRs.out.1]; exact hlt), List.append_assoc, List.cons_append])
          have hlx2 := arm_len T ps C (i + 1) i hlt
          generalize hLn : ((C ++ (⟨8, (ps.length : Int), 0, 0⟩ :: (hdP ps (C.length : Int) i ps.length ++ bdP T ps 0 i))).length : Int) = u at *
          clear hMs hcl r1 r2 r3 r4 r5 r6 hr hpt hLn hlx HMz HRs
          go_upto_region 11 with (go_at_call 35; refine HV.out.mono ?_; rintro e w4 ⟨rfl, HM4, HK4⟩)
          have hM4 := HM4.out
          rw [HSp.out u] at hM4
          have HM4 := hide_ hM4
          have HK5 := hide_ (HKs.out.trans HK4.out)
          have HT4 := hide_ (HT.out.kp hbase HK5.out)
          obtain ⟨bP, oP, rfl, hbP, hcP⟩ := (HP.out w4 (HK5.out.below hbase)).open (by omega)
          have i2 := hcP i _ hx 2 (by decide)
          generalize ps[i]'hlt = p at *
          simp [ptc] at i2
          rw [hn1] at i2
          have HR := hide_ (read_any B gb aT cT T vL _ E _ 0 n t2 w4 (by omega) hn2 HT4 HM4)
          clear hM4 HV HSp HK4 HKs hcP hx hpa hn1 HT4 HM4
          go_upto_region 12 with (go_at_call 31; refine HR.out.mono ?_; rintro e w6 ⟨rfl, HM6, HK6⟩)
          have HK7 := hide_ (HK5.out.trans HK6.out)
          have hl7 : ((C ++ (⟨8, (ps.length : Int), 0, 0⟩ :: (hdP ps (C.length : Int) (i + 1) ps.length ++ bdP T ps 0 i))) ++ [rdP T 0 (n : Int)]).length = C.length + 1 + ps.length + 2 * i + 1 := by rw [List.length_append, hlx2]; simp
          clear HR i2 HK5 HK6
          by_cases hj : i + 1 < ps.length
          · have hj' : (i : Int) < (ps.length : Int) - 1 := by omega
            have HJ := hide_ (jmW_succ (C.length : Int) ps i hj)
            rw [if_pos hj] at HBs
            have hcl := layTo_new B gb _ vL _ E (rs2.set i ⟨gr, i * 3, true, u, r.v, [(C.length : Int) + 1 + (i : Int)]⟩) [] ⟨mg, mo, false, 0, v, jmW (C.length : Int) ps i⟩ 19 0 w6 (by omega) (by show (jmW (C.length : Int) ps i).length ≤ 1000000000; omega) rfl HM6
            rw [hl7] at hcl
            have HL := hide_ hcl
            clear hcl hl7 hlx2
            go_wp2_with (go_at_call 30; refine HL.out.mono ?_; rintro e w8 ⟨rfl, HM8, HK8⟩)
            go_roundw
            case rel => exact ⟨i + 1, by omega, by go_num, hide_ (by
              obtain ⟨v8, h8⟩ := HM8.out
              refine ⟨_, v8, HFin.out u, ?_⟩
              rw [HBs.out, HJ.out]
              have e : ((C.length + 1 + ps.length + 2 * i + 1 : Nat) : Int) = (C.length : Int) + 1 + ps.length + 2 * (i : Int) + 1 := by omega
              rw [e] at h8
              simpa using h8), hide_ (HK7.out.trans HK8.out)⟩
            case measure => simp [intOf]; omega
          · have hj' : ¬ (i : Int) < (ps.length : Int) - 1 := by omega
            have HJ := hide_ (jmW_last (C.length : Int) ps i hj)
            rw [if_neg hj] at HBs
            clear hl7 hlx2
            go_wp2_with fail
            go_roundw
            case rel => exact ⟨i + 1, by omega, by go_num, hide_ (by
              refine ⟨_, v, HFin.out u, ?_⟩
              rw [HBs.out, HJ.out]
              have := HM6.out
              simpa using this), HK7⟩
            case measure => simp [intOf]; omega
        · obtain rfl : i = ps.length := by omega
          go_wp2_with fail
          go_end0
          have hlf : (C ++ (⟨8, (ps.length : Int), 0, 0⟩ :: (hdP ps (C.length : Int) ps.length ps.length ++ bdP T ps 0 ps.length))).length = C.length + 3 * ps.length := by
            simp [hdP_len, bdP_all T ps 0 hp0]
            omega
          refine ⟨rfl, hide_ ⟨⟨8, (ps.length : Int), 0, 0⟩ :: (hdP ps (C.length : Int) ps.length ps.length ++ bdP T ps 0 ps.length), jmW (C.length : Int) ps ps.length, v, HMz.out.sub (by simp), by have := jmW_len (C.length : Int) ps ps.length; show _ ≤ 1000; omega, fun k hk => ?_, ?_, ?_⟩, HKs⟩
          · have := jmW_in (C.length : Int) ps ps.length k hk
            have h2 : k < (C.length : Int) + 3 * ps.length := by
              unfold jmW at hk
              obtain ⟨j, hj, rfl⟩ := List.mem_map.1 hk
              have := List.mem_range.1 hj
              omega
            rw [hlf]
            omega
          · rw [hlf]
            have e : ((C.length + 3 * ps.length : Nat) : Int) = (C.length : Int) + 3 * ps.length := by omega
            rw [e]
            have := bdP_pat T ps ((C.length : Int) + 3 * ps.length) (C.length : Int) (C ++ (⟨8, (ps.length : Int), 0, 0⟩ :: hdP ps (C.length : Int) ps.length ps.length)) (by omega) (by simp [hdP_len]; omega) ps.length (Nat.le_refl _)
            simpa [armP] using this
          · simp [armP, hdP_len, bdP_all T ps _ hp0]
end Go.Proofs.Ytepmgbfdmbogiaa
