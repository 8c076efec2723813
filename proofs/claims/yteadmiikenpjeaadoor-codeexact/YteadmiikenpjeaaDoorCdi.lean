/- Code: Encode. -/
import Derived.Test.YteadmiikenpjeaaDoorCdh
import Derived.Laws.EntriesVeiled
namespace Go.Proofs.YteadmiikenpjeaaDoor
open Go.RowKit
set_option linter.unusedVariables false

/-- Bytes of the call's own. -/
def BOwn (w : World) (B : Nat) (v : Value) (l : List Int) : Prop := w.ownsRow B 5 1 v l.length (cellsL .u8 l)
theorem BOwn.later {w w' : World} {B : Nat} {v : Value} {l : List Int} (h : BOwn w B v l) (hB : Below w.heap.size w w') : BOwn w' B v l := ownS_upd h (Upd.of_below (S := fun _ => False) hB) (fun _ _ h => h)
theorem BOwn.row {w : World} {B : Nat} {v : Value} {l : List Int} (h : BOwn w B v l) : ∃ a c, v = .slice a l.length c ∧ Row .u8 w a l ∧ (a = none → c = 0) ∧ l.length ≤ c ∧ c ≤ maxLen := by
  obtain ⟨a, c, h1, h2, h3, h4, h5, -⟩ := own_open h rfl
  exact ⟨a, c, h1, h2, h3, h4, h5⟩
theorem BOwn.nil (w : World) (B : Nat) : BOwn w B (.slice none 0 0) [] := World.ownsRow_nil _ _ _ _
/-- What Encode answers. -/
def encA (enc : Bool) (C : List In) (E : List Int) : List Int := if chk enc C E = (0, 0) then encP enc C E else []
theorem retVF {fn : Func} {p u : Tmp} (h : fn.results = #[.tmp u, .cell p 33]) {R : Ending → World → Prop} {tmps : Array Value} {g : Nat} {w : World} {x y v : Value} (hu : tmps.getD u undef = v) (hp : tmps.getD p undef = .pointer (some ⟨g, 0, none⟩)) (hK : Blk w g 33 [x, y]) (hR : R (.returned (.tuple #[v, .agg #[x, y]])) w) :
    bodyPost Tryd.prog fn R Exit.ret ⟨tmps, []⟩ w :=
  bodyPost_ret (results_tmp_cell_row h _ _ _ _ #[x, y] _ _ hp (show w.heap[g]? = some (.cells #[x, y] 33 (0, 0)) from hK) Tryd.underlying33 rfl (by show _ = some 2; kernel_rfl)) rfl (by rw [hu]; exact hR)
theorem mbyte_any (enc : Bool) (w : World) : Calls Tryd.prog 23 #[.bool enc] w fun e w' => e = .returned (.int .u8 (if enc then 1 else 0)) ∧ w = w' := by
  cases enc
  all_goals
    go_enter Tryd.func23, Tryd.ntmps23
    go_wp2
    go_ret
    exact ⟨rfl, rfl⟩
theorem blk3 (w : World) (xs ys zs : Array Value) (t t' t'' : TypeId) : Blk (((w.alloc (.cells xs t)).alloc (.cells ys t')).alloc (.cells zs t'')) w.heap.size t xs.toList ∧ Blk (((w.alloc (.cells xs t)).alloc (.cells ys t')).alloc (.cells zs t'')) (w.heap.size + 1) t' ys.toList ∧ Blk (((w.alloc (.cells xs t)).alloc (.cells ys t')).alloc (.cells zs t'')) (w.heap.size + 2) t'' zs.toList := by
  obtain ⟨h1, h2⟩ := blk2 w xs ys t t'
  refine ⟨h1.alloc _, h2.alloc _, ?_⟩
  have := Blk.newA ((w.alloc (.cells xs t)).alloc (.cells ys t')) zs t''
  simpa using this
theorem below3 (w : World) (o o' o'' : Obj) : Below w.heap.size w (((w.alloc o).alloc o').alloc o'') := (below2 w o o').alloc (by simp; omega) _
set_option maxRecDepth 100000 in
set_option maxHeartbeats 8000000 in
theorem encode_any (enc : Bool) (ac ae : Option Addr) (cc ce : Nat) (C : List In) (E : List Int) (w : World) (hcc : C.length ≤ cc) (hcl : cc ≤ 9223372036854775807) (hCl : C.length ≤ 140737488355328) (hce : E.length ≤ ce) (hel : E.length ≤ 140737488355328) (hr : Hid (IRow w ac C)) (he : Hid (Row .i64 w ae E)) :
    Calls Tryd.prog 8 #[.agg #[.bool enc, .slice ac C.length cc, .slice ae E.length ce]] w fun e w' => (∃ v, e = .returned (.tuple #[v, .agg #[.int .i64 (chk enc C E).1, .int .i64 (chk enc C E).2]]) ∧ Hid (BOwn w' w.heap.size v (encA enc C E))) ∧ Below w.heap.size w w' := by
  have hmf : ∀ (fn : Fn) (first cap : Array Value) (w : World), (Instr.makeFunc fn first cap).run Tryd.prog w = .ok (.func fn first cap) w := fun _ _ _ _ => rfl
  obtain ⟨w1, hw1⟩ : ∃ wx, wx = (w.alloc (.cells #[.bool enc, .slice ac C.length cc, .slice ae E.length ce] 25)).alloc (.cells #[.int .i64 0, .int .i64 0] 33) := ⟨_, rfl⟩
  have hB1 : Below w.heap.size w w1 := by rw [hw1]; exact below2 _ _ _
  obtain ⟨kp, kf⟩ := blk2 w #[.bool enc, .slice ac C.length cc, .slice ae E.length ce] #[.int .i64 0, .int .i64 0] 25 33
  rw [← hw1] at kp kf
  have KP := hide_ kp
  have KF := hide_ kf
  have HB1 := hide_ hB1
  have p0 := kp.cell 0; have p1 := kp.cell 1; have p2 := kp.cell 2
  simp at p0 p1 p2
  have HCk := hide_ (check_any enc ac ae cc ce C E w1 hcc hcl hCl hce hel (hide_ (hr.out.later hB1)) (hide_ (he.out.later hB1)))
  obtain ⟨fe, hfe⟩ : ∃ x, (chk enc C E).1 = x := ⟨_, rfl⟩
  obtain ⟨fa, hfa⟩ : ∃ x, (chk enc C E).2 = x := ⟨_, rfl⟩
  rw [hfe, hfa] at HCk
  rw [hfe, hfa]
  have HFe := hide_ hfe
  have HFa := hide_ hfa
  have Hgs : Hid (w.heap.size ≤ w.heap.size + 1) := hide_ (by omega)
  clear hB1 kp kf hfe hfa
  go_enter Tryd.func8, Tryd.ntmps8
  go_upto_region 1 with fail
  rw [← hw1]
  clear hw1
  go_wp2_with fail
  refine HCk.out.mono ?_
  rintro e w2 ⟨rfl, hB2⟩
  obtain ⟨w3, hw3⟩ : ∃ wx, wx = w2.alloc (.cells #[.int .i64 fe, .int .i64 fa] 33) := ⟨_, rfl⟩
  have hB3 : Below w2.heap.size w2 w3 := by rw [hw3]; exact below1 _ _
  have K3 : Hid (Blk w3 w2.heap.size 33 [.int .i64 fe, .int .i64 fa]) := hide_ (by rw [hw3]; exact Blk.newA w2 _ _)
  have hB13 := below_to hB2 hB3
  have KP3 := hide_ (KP.out.later hB13)
  have KF3 := hide_ (KF.out.later hB13)
  have HB3 := hide_ (below_to HB1.out hB13)
  clear p0 p1 p2
  have p0 := KP3.out.cell 0; have p1 := KP3.out.cell 1; have p2 := KP3.out.cell 2
  have f0 := K3.out.cell 0; have f1 := K3.out.cell 1
  simp at p0 p1 p2 f0 f1
  clear hB2 hB3 hB13 HCk
  by_cases hfe0 : fe = 0
  · have hck : chk enc C E = (0, 0) := by
      have h1 := HFe.out
      rw [hfe0] at h1
      have h2 : Chk enc C E := by
        by_cases h : chk enc C E = (0, 0)
        · exact chk_ok.1 h
        · exfalso
          unfold chk at h h1
          split at h1
          · cases h1
          · rename_i hl
            rw [if_neg hl] at h
            cases e1 : fst0 (frm enc C E.length) C.length with
            | some i => rw [e1] at h1; cases h1
            | none =>
              rw [e1] at h1 h
              cases e2 : fst0 (entOk C.length E) E.length with
              | some i => rw [e2] at h1; cases h1
              | none => rw [e2] at h; exact h rfl
      exact chk_ok.2 h2
    have HC := hide_ (chk_ok.1 hck)
    have hfa0 : fa = 0 := by rw [← HFa.out, hck]
    subst hfe0 hfa0
    have HEn : Hid (encA enc C E = encP enc C E) := hide_ (by unfold encA; rw [if_pos hck])
    have hncl := HC.out.nc
    have hnel := HC.out.ne
    have HMb := hide_ (mbyte_any enc w3)
    obtain ⟨mb, hmb⟩ : ∃ m : Int, (if enc = true then 1 else 0) = m := ⟨_, rfl⟩
    rw [hmb] at HMb
    obtain ⟨w4, hw4⟩ : ∃ wx, wx = ((w3.alloc (.cells #[.int .u8 109, .int .u8 mb] 5)).alloc (.cells #[.slice (some ⟨w3.heap.size, 0, none⟩) 2 2] 30)).alloc (.cells #[fnB (w3.heap.size + 1)] 60) := ⟨_, rfl⟩
    have hB4 : Below w3.heap.size w3 w4 := by rw [hw4]; exact below3 _ _ _ _
    obtain ⟨kb, kx, kf⟩ := blk3 w3 #[.int .u8 109, .int .u8 mb] #[.slice (some ⟨w3.heap.size, 0, none⟩) 2 2] #[fnB (w3.heap.size + 1)] 5 30 60
    rw [← hw4] at kb kx kf
    have hz3 := HB3.out.size
    have HX4 : Hid (Bx w4 w.heap.size (w3.heap.size + 1) [109, mb]) := hide_ ⟨by omega, _, kx, kb.owns w.heap.size 2 2 (by omega) rfl (by omega) (by unfold maxLen; omega)⟩
    have KG4 : Hid (Blk w4 (w3.heap.size + 1 + 1) 60 [fnB (w3.heap.size + 1)]) := hide_ kf
    have KP4 := hide_ (KP3.out.later hB4)
    have KF4 := hide_ (KF3.out.later hB4)
    have HB4 := hide_ (below_to HB3.out hB4)
    have HMB : Hid (encP enc C E = [109, mb] ++ form E.length ++ E.flatMap entB ++ form C.length ++ C.flatMap insB) := hide_ (by unfold encP; rw [hmb])
    have HBB : Hid (w.heap.size ≤ w4.heap.size) := hide_ HB4.out.size
    go_upto_region 2 with fail
    rw [← hw3]
    clear hw3
    go_upto_region 6 with (go_at_call 23; refine HMb.out.mono ?_; rintro e w' ⟨rfl, rfl⟩)
    rw [← hw4]
    have HEr4 := hide_ (he.out.later HB4.out)
    have HCr4 := hide_ (hr.out.later HB4.out)
    generalize hgx : w3.heap.size + 1 = gx at *
    generalize hgp : gx + 1 = gp at *
    clear hw4 kb kx kf hB4 hz3 p0 p1 p2 f0 f1 K3 KP3 KF3 HB3 HMb KP KF HB1 hmb hgx hgp hck
    have p1 := KP4.out.cell 1; have p2 := KP4.out.cell 2
    have g0 := KG4.out.cell 0
    simp [fnB] at p1 p2 g0
    have HPt := hide_ (put_c w.heap.size gx [109, mb] E.length w4 (by omega) (by simp) HX4)
    go_upto_region 7 with (go_at_call 24; refine HPt.out.mono ?_; rintro e w5 ⟨rfl, HX5, HK5⟩)
    have hfl := form_ten E.length (by omega)
    have HL5 : Hid ((([109, mb] : List Int) ++ form E.length).length ≤ 100) := hide_ (by simp; omega)
    have HP5 : Hid (([109, mb] : List Int) ++ form E.length = ([109, mb] : List Int) ++ form E.length) := hide_ rfl
    generalize hP5 : ([109, mb] : List Int) ++ form E.length = P5 at *
    clear hP5 HP5 HPt HX4 p1 p2 g0
    have KP5 := hide_ (HK5.out.2 _ _ _ (by decide) (by decide) KP4.out)
    have KF5 := hide_ (HK5.out.2 _ _ _ (by decide) (by decide) KF4.out)
    have KG5 := hide_ (HK5.out.2 _ _ _ (by decide) (by decide) KG4.out)
    have HB5 := hide_ (HB4.out.trans HK5.out.1)
    have HEr5 := hide_ (he.out.later HB5.out)
    clear KP4 KF4 KG4 HK5 HB4 HEr4 HCr4 HBB hfl
    have p1 := KP5.out.cell 1; have p2 := KP5.out.cell 2
    simp at p1 p2
    go_wp2_with fail
    clear p1 p2
    go_loopw [30] (fun x30 wr => ∃ j : Nat, j ≤ E.length ∧ x30 = .int .i64 (j : Int) ∧ Hid (Bx wr w.heap.size gx (P5 ++ (E.take j).flatMap entB)) ∧ Hid (Kb w.heap.size w5 wr)) (fun x30 _ => E.length - (intOf x30).toNat)
    case atStart => exact ⟨0, Nat.zero_le _, rfl, hide_ (by have := HX5.out; simpa using this), hide_ (Kb.refl _ _)⟩
    case round =>
      obtain ⟨j, hj, rfl, HXj, HKj⟩ := hrel
      generalize wr = wq at *
      have KPq := hide_ (HKj.out.2 _ _ _ (by decide) (by decide) KP5.out)
      have KGq := hide_ (HKj.out.2 _ _ _ (by decide) (by decide) KG5.out)
      have g0 := KGq.out.cell 0
      simp [fnB] at g0
      by_cases hlt : j < E.length
      · have hlt' : (j : Int) < E.length := by omega
        obtain ⟨b, off, rfl, hb, hcs⟩ := (he.out.later (HB5.out.trans HKj.out.1)).open (by omega)
        have hc := hcs j hlt
        have hx : E[j]? = some (E[j]'hlt) := List.getElem?_eq_getElem hlt
        have hen := HC.out.ent j hlt
        rw [List.getD, hx, Option.getD_some] at hc hen
        have HTk := hide_ (take_flat (f := entB) hx)
        have hel := ent_len E (fun i hi => by have := HC.out.ent i hi; omega) j (by omega)
        generalize E[j]'hlt = v at *
        obtain ⟨n, rfl⟩ := Int.eq_ofNat_of_zero_le hen.1
        have HPj := put_c w.heap.size gx (P5 ++ (E.take j).flatMap entB) n wq (by omega) (by rw [List.length_append]; have := HL5.out; omega) HXj
        have e1 : P5 ++ (E.take j).flatMap entB ++ form n = P5 ++ (E.take (j + 1)).flatMap entB := by rw [HTk.out, List.append_assoc]; rfl
        rw [e1] at HPj
        have HPo := hide_ HPj
        clear HPj e1 hcs hel
        go_wp2_with (go_at_call 24; refine HPo.out.mono ?_; rintro e w6 ⟨rfl, HX6, HK6⟩)
        go_roundw
        case rel => exact ⟨j + 1, by omega, by go_num, HX6, hide_ (HKj.out.trans HK6.out)⟩
        case measure => simp [intOf]; omega
      · obtain rfl : j = E.length := by omega
        have HP7 : Hid (encP enc C E = P5 ++ (E.take E.length).flatMap entB ++ form C.length ++ C.flatMap insB) := hide_ (by rw [HMB.out, List.take_length])
        have hel := ent_len E (fun i hi => by have := HC.out.ent i hi; omega) E.length (by omega)
        have HL7 : Hid ((P5 ++ (E.take E.length).flatMap entB).length ≤ 20000000) := hide_ (by rw [List.length_append]; have := HL5.out; omega)
        generalize P5 ++ (E.take E.length).flatMap entB = P7 at *
        have HKz := hide_ HKj.out
        have HB7 := hide_ (HB5.out.trans HKj.out.1)
        have KFq := hide_ (HKj.out.2 _ _ _ (by decide) (by decide) KF5.out)
        clear HKj KP5 KG5 KF5 HB5 HEr5 HX5 hel HL5 HMB
        generalize hwz : wq = wz at *
        clear hwz HKz
        have HPt := hide_ (put_c w.heap.size gx P7 C.length wz (by omega) (by have := HL7.out; omega) HXj)
        have p1 := KPq.out.cell 1; have p2 := KPq.out.cell 2
        simp at p1 p2
        go_upto_region 13 with (go_at_call 24; refine HPt.out.mono ?_; rintro e w8 ⟨rfl, HX8, HK8⟩)
        have hfl := form_ten C.length (by omega)
        have HL8 : Hid ((P7 ++ form C.length).length ≤ 20000100) := hide_ (by rw [List.length_append]; have := HL7.out; omega)
        generalize P7 ++ form C.length = P8 at *
        have KP8 := hide_ (HK8.out.2 _ _ _ (by decide) (by decide) KPq.out)
        have KG8 := hide_ (HK8.out.2 _ _ _ (by decide) (by decide) KGq.out)
        have KF8 := hide_ (HK8.out.2 _ _ _ (by decide) (by decide) KFq.out)
        have HB8 := hide_ (HB7.out.trans HK8.out.1)
        clear HPt p1 p2 g0 HK8 KPq KGq KFq HB7 HXj HL7 hfl
        have p1 := KP8.out.cell 1; have p2 := KP8.out.cell 2
        simp at p1 p2
        go_wp2_with fail
        clear p1 p2
        go_loopw [46] (fun x46 wr => ∃ j : Nat, j ≤ C.length ∧ x46 = .int .i64 (j : Int) ∧ Hid (Bx wr w.heap.size gx (P8 ++ (C.take j).flatMap insB)) ∧ Hid (Kb w.heap.size w8 wr)) (fun x46 _ => C.length - (intOf x46).toNat)
        case atStart => exact ⟨0, Nat.zero_le _, rfl, hide_ (by have := HX8.out; simpa using this), hide_ (Kb.refl _ _)⟩
        case round =>
          obtain ⟨j, hj, rfl, HXj, HKj⟩ := hrel
          generalize wr = wq at *
          by_cases hlt : j < C.length
          · have hlt' : (j : Int) < C.length := by omega
            obtain ⟨b, off, rfl, hb, hcs⟩ := (hr.out.later (HB8.out.trans HKj.out.1)).open (by omega)
            have hx : C[j]? = some (C[j]'hlt) := List.getElem?_eq_getElem hlt
            have hcx := hcs j _ hx
            have HIn := hide_ (HC.out.inB hx)
            have HTk := hide_ (take_flat (f := insB) hx)
            have hel := code_len C (fun i x hx => HC.out.inB hx) j (by omega)
            generalize C[j]'hlt = x at *
            have i0 := hcx 0 (by decide); have i1 := hcx 1 (by decide); have i2 := hcx 2 (by decide); have i3 := hcx 3 (by decide)
            simp [inc] at i0 i1 i2 i3
            obtain ⟨n, hn⟩ := Int.eq_ofNat_of_zero_le (show 0 ≤ x.op by have := HIn.out.op; omega)
            have hn47 : n ≤ 47 := by have := HIn.out.op; omega
            obtain ⟨wA, hwA⟩ : ∃ wx, wx = wq.alloc (.cells #[.int .i64 x.op, .int .i64 x.a, .int .i64 x.b, .int .i64 x.c] 41) := ⟨_, rfl⟩
            have hBA : Below wq.heap.size wq wA := by rw [hwA]; exact below1 _ _
            have KA : Hid (Blk wA wq.heap.size 41 (inc x)) := hide_ (by rw [hwA]; exact Blk.newA wq _ _)
            have HKA := hide_ (HKj.out.trans (Kb.of_below HXj.out.size hBA))
            have KGq := hide_ (HKA.out.2 _ _ _ (by decide) (by decide) KG8.out)
            have HXA := hide_ (HXj.out.later hBA)
            have HP1 := put_c w.heap.size gx (P8 ++ (C.take j).flatMap insB) n wA (by omega) (by rw [List.length_append]; have := HL8.out; omega) HXA
            have HLx : Hid ((P8 ++ (C.take j).flatMap insB ++ form n).length ≤ 9000000000) := hide_ (by rw [List.length_append, List.length_append]; have := HL8.out; have := form_ten n (by omega); omega)
            have HFin : Hid (P8 ++ (C.take j).flatMap insB ++ form n ++ (nmd x).flatMap opB = P8 ++ (C.take (j + 1)).flatMap insB) := hide_ (by rw [HTk.out]; unfold insB; rw [hn]; simp only [Int.toNat_natCast, List.append_assoc])
            rw [← hn] at HP1
            have HPo := hide_ HP1
            have k0 := KA.out.cell 0; have k1 := KA.out.cell 1; have k2 := KA.out.cell 2; have k3 := KA.out.cell 3
            have g0 := KGq.out.cell 0
            simp [fnB, inc] at g0 k0 k1 k2 k3
            generalize hgA : wq.heap.size = gA at *
            clear HP1 hcs hcx hel hBA hn hx HXA
            go_upto_region 16 with fail
            rw [← hwA]
            clear hwA i0 i1 i2 i3
            go_upto_region 17 with (go_at_call 24; refine HPo.out.mono ?_; rintro e wC ⟨rfl, HXC, HKC⟩)
            have KAC := hide_ (HKC.out.2 _ _ _ (by decide) (by decide) KA.out)
            have KGC := hide_ (HKC.out.2 _ _ _ (by decide) (by decide) KGq.out)
            have HEa := each_any w.heap.size gx gp _ x wC HIn.out HLx.out HXC KGC
            rw [HFin.out] at HEa
            have HEo := hide_ HEa
            clear HEa k0 k1 k2 k3 g0
            have k0 := KAC.out.cell 0; have k1 := KAC.out.cell 1; have k2 := KAC.out.cell 2; have k3 := KAC.out.cell 3
            simp [inc] at k0 k1 k2 k3
            go_wp2_with (go_at_call 26; refine HEo.out.mono ?_; rintro e wD ⟨rfl, HXD, HKD⟩)
            go_roundw
            case rel => exact ⟨j + 1, by omega, by go_num, HXD, hide_ ((HKA.out.trans HKC.out).trans HKD.out)⟩
            case measure => simp [intOf]; omega
          · obtain rfl : j = C.length := by omega
            have HRs : Hid (encA enc C E = P8 ++ (C.take C.length).flatMap insB) := hide_ (by rw [HEn.out, HP7.out, List.take_length])
            have KFq := hide_ (HKj.out.2 _ _ _ (by decide) (by decide) KF8.out)
            obtain ⟨h1, v, h2, h3⟩ := HXj.out
            rw [← HRs.out] at h3
            have HV := hide_ h3
            obtain ⟨av, cv, hv, -⟩ := own_open h3 rfl
            subst hv
            have x0 := h2.cell 0
            have fz := fun i => KFq.out.frozen i
            have g0 := KFq.out.cell 0; have g1 := KFq.out.cell 1
            simp at x0 g0 g1
            have HBq := hide_ (HB8.out.trans HKj.out.1)
            clear h2 h3 h1
            go_wp2
            refine retVF rfl rfl rfl (wr2f KFq.out _ _) ?_
            refine ⟨⟨_, rfl, hide_ ?_⟩, below_set (below_set HBq.out _ _ _ Hgs.out) _ _ _ Hgs.out⟩
            refine ownS_upd HV.out (((Upd.refl (fun k => k = w.heap.size + 1) wq).set _ _ (.inl rfl)).set _ _ (.inl rfl)) (fun k hk e => ?_)
            subst e
            obtain ⟨zs, hz⟩ := ownS_type HV.out hk
            exact absurd (blk_type KFq.out hz) (by decide)
  · have hfb : (fe != 0) = true := by simpa using hfe0
    have HEn : Hid (encA enc C E = []) := hide_ (by unfold encA; rw [if_neg (fun h => hfe0 (by rw [← HFe.out, h]))])
    have fz := fun i => KF3.out.frozen i
    have g0 := KF3.out.cell 0; have g1 := KF3.out.cell 1
    simp at g0 g1
    go_upto_region 2 with fail
    rw [← hw3]
    clear hw3
    go_wp2_with fail
    go_region
    all_goals
      go_wp2
      refine retVF rfl rfl rfl (wr2f KF3.out _ _) ?_
      exact ⟨⟨_, rfl, hide_ (by rw [HEn.out]; exact BOwn.nil _ _)⟩, below_set (below_set HB3.out.drew _ _ _ Hgs.out) _ _ _ Hgs.out⟩
end Go.Proofs.YteadmiikenpjeaaDoor
