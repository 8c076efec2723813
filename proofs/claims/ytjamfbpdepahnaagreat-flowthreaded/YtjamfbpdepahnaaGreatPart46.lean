import Derived.Test.YtjamfbpdepahnaaGreatPart45
import Derived.BigQuiet
namespace Go.Proofs.YtjamfbpdepahnaaGreat
open Go.RowKit
set_option linter.unusedVariables false
set_option linter.unusedSimpArgs false
def wkJ (C : List In) (a m : Nat) : List Int := (List.range m).map fun i => (itJ C i a : Int)
theorem wkJ_len (C : List In) (a m : Nat) : (wkJ C a m).length = m := by simp [wkJ]
theorem wkJ_succ (C : List In) (a m : Nat) : wkJ C a (m + 1) = wkJ C a m ++ [(itJ C m a : Int)] := by simp [wkJ, List.range_succ]
theorem wkJ_at (C : List In) (a m : Nat) : hAt (wkJ C a (m + 1)) m = (itJ C m a : Int) := by
  rw [wkJ_succ]
  simp [hAt, List.getD, wkJ_len]
theorem wkJ_take (C : List In) (a m : Nat) : (wkJ C a (m + 1)).take m = wkJ C a m := by
  rw [wkJ_succ, List.take_left' (wkJ_len C a m)]
def StTo (w : World) (B g n : Nat) (C : List In) (L : List Int) (a : Nat) (e : Ending) (w' : World) : Prop := e = .returned (.tuple #[]) ∧ ∃ L', SeTo C L a L' ∧ IOwn w' B (.slice (some ⟨g, 0, none⟩) n n) L' ∧ Upd (fun q => q = g) w w'
set_option maxRecDepth 100000 in
set_option maxHeartbeats 16000000 in
theorem settle_any (enc : Bool) (ac : Option Addr) (cc B g n : Nat) (C : List In) (E L : List Int) (a : Nat) (w : World) (hn : C.length = n) (ha : a < n) (hK : Hid (Chk enc C E)) (hE : Hid (EnI C L)) (hC : Hid (IRow w ac C)) (hg : Hid (∀ x, ac = some x → x.block ≠ g)) (hL : Hid (IOwn w B (.slice (some ⟨g, 0, none⟩) n n) L)) :
    Calls Tryz.prog 23 #[.slice ac n cc, .slice (some ⟨g, 0, none⟩) n n, .int .i64 (a : Int)] w fun e w' => StTo w B g n C L a e w' := by
  obtain ⟨bc, oc, hac, -⟩ := hC.out.open (by omega)
  subst hac
  have hgb : bc ≠ g := hg.out _ rfl
  have hJ := chk_jin hK.out
  have HJ := hide_ hJ
  have Hn := hide_ hn
  have hnb : n ≤ 1048576 := by rw [← hn]; exact hK.out.nc
  have hgl := hL.out.lies (k := g) rfl
  have Hgl := hide_ hgl.2
  have HgB := hide_ hgl.1
  have HC2 : Hid (∀ w', Upd (fun q => q = g) w w' → IRow w' (some ⟨bc, oc, none⟩) C) := hide_ (fun w' hU => hC.out.upd hU (fun x e => by injection e with e; rw [← e]; exact hgb))
  have Hgb := hide_ hgb
  have HL0 : Hid (L.length = n) := hide_ (by rw [hE.out.len]; exact hn)
  have HS0 : Hid (Se1 C L a 0 L) := hide_ (Se1.new hE.out.len (by omega))
  have Ha := hide_ ha
  clear hn hJ hC hg hgl hgb ha
  go_enter Tryz.func23, Tryz.ntmps23
  go_wp2_with fail
  go_loopg [2, 6] n (fun gk x2 x6 wr => ∃ (m : Nat) (Lc : List Int) (v : Value), v = x6 ∧ x2 = .int .i64 (itJ C m a : Int) ∧ Hid (n - m = gk) ∧ Hid (Se1 C L a m Lc) ∧ Hid (IOwn wr B (.slice (some ⟨g, 0, none⟩) n n) Lc) ∧ Hid (IOwn wr w.heap.size v (wkJ C a m)) ∧ Hid (Upd (fun q => q = g) w wr))
  case atStart => exact ⟨0, L, _, rfl, rfl, hide_ rfl, HS0, hL, hide_ (IOwn.nil _ _), hide_ (Upd.refl _ _)⟩
  case round =>
    clear HS0 hL
    obtain ⟨m, Lc, v, rfl, rfl, Hgk, HSj, HLj, HWj, HUj⟩ := hrel
    generalize wr = wq at *
    have hmb : m ≤ n := by rw [← Hn.out]; exact HSj.out.short HJ.out
    obtain ⟨t, ht⟩ : ∃ t, itJ C m a = t := ⟨_, rfl⟩
    have htn : t < n := by rw [← ht, ← Hn.out]; exact HSj.out.at_
    have Ht := hide_ ht
    rw [ht]
    have hLl : Lc.length = n := by rw [HSj.out.len]; exact Hn.out
    obtain ⟨ct, cf⟩ := HLj.out.cellH (i := t) (by rw [hLl]; exact htn)
    have htI : (t : Int) < (n : Int) := by omega
    obtain ⟨en, hen⟩ : ∃ en, hAt Lc t = en := ⟨_, rfl⟩
    rw [hen] at ct
    have Hen := hide_ hen
    clear hen ht
    by_cases hu : en = -1
    · subst hu
      obtain ⟨hj, hS2⟩ := HSj.out.step HJ.out hE.out (by rw [Ht.out]; exact Hen.out)
      rw [Ht.out] at hj hS2
      obtain ⟨x, hx⟩ : ∃ x, C[t]? = some x := ⟨_, List.getElem?_eq_getElem (by rw [Hn.out]; exact htn)⟩
      have hxA : inA C t = x := inA_at hx
      have hop : x.op = 19 := by
        unfold jmp at hj
        rw [hxA] at hj
        exact of_decide_eq_true hj
      have htg := chk_tgt hK.out (k := t) (by rw [Hn.out]; exact htn) (by rw [hxA, hop]; rfl)
      rw [hxA] at htg
      obtain ⟨y, hy⟩ := Int.eq_ofNat_of_zero_le htg.1
      have hnx : itJ C (m + 1) a = y := by
        rw [itJ_succ, Ht.out]
        unfold nxJ
        rw [hxA, hy, Int.toNat_natCast]
      obtain ⟨w2, hw2⟩ : ∃ wx, wq.setCell ⟨g, t, none⟩ (.int .i64 (-2)) = wx := ⟨_, rfl⟩
      have hU2 : Upd (fun q => q = g) wq w2 := by rw [← hw2]; exact (Upd.refl _ wq).set _ _ (.inl rfl)
      have hL2 : IOwn w2 B (.slice (some ⟨g, 0, none⟩) n n) (Lc.set t (-2)) := by rw [← hw2]; exact HLj.out.set (by rw [hLl]; exact htn) _
      have hW2 := HWj.out.upd hU2 (fun q e e2 => by have := (HWj.out.lies e).1; have := Hgl.out; omega)
      have hUw2 := HUj.out.to hU2
      obtain ⟨gw, cw, w3, hr3, hW3, hU3, -⟩ := hW2.push (t : Int) (by rw [wkJ_len]; omega) hUw2.size
      have hlow : ∀ q, v.ownBlock = some q → w.heap.size ≤ q := fun q e => (HWj.out.lies e).1
      have HL3 := hide_ (hL2.upd hU3 (fun q e e2 => by
        injection e with e
        have e : g = q := e
        have := hlow q e2
        have := Hgl.out
        omega))
      have HU3 : Hid (Upd (fun q => q = g) w w3) := hide_ (hUw2.trans hU3 (fun q hq e => absurd hq (Nat.not_lt.2 (hlow q e))))
      have HRun := hide_ hr3
      rw [wkJ_len] at hW3 hr3
      have hW3' : IOwn w3 w.heap.size (.slice (some ⟨gw, 0, none⟩) (m + 1) cw) (wkJ C a (m + 1)) := by rw [wkJ_succ, Ht.out]; exact hW3
      have HW3 := hide_ hW3'
      have HRun := hide_ hr3
      obtain ⟨i0, i1, i2, i3⟩ := (HC2.out w3 HU3.out).at hx
      rw [hy] at i2
      have HS2 := hide_ hS2
      have Hnx := hide_ hnx
      have hS3 := hS2.short HJ.out
      rw [Hn.out] at hS3
      clear hx hxA hop hj htg hy hnx hU2 hL2 hW2 hUw2 hr3 hW3 hU3 hlow hW3' hS2 HSj HLj HWj HUj
      go_wp2_with (first | (at_builtin; refine wpList_append_run rfl (.tmp 18) (.tmp 20) 23 23 rfl rfl rfl HRun.out ?_; clear HRun) | fail)
      go_roundg (n - (m + 1))
      case measure => have h1 := Hgk.out; omega
      case rel => exact ⟨m + 1, Lc.set t (-2), _, rfl, by rw [Hnx.out], hide_ rfl, HS2, HL3, HW3, HU3⟩
    · have fu : (en == -1) = false := by simpa using hu
      have HC3 := hide_ (HC2.out wq HUj.out)
      obtain ⟨rd, hrd⟩ : ∃ rd, (decide (en = -2) || jmp C en.toNat) = rd := ⟨_, rfl⟩
      have HV : Hid (∀ j : Nat, seV C en j = if rd = true then (j : Int) else en) := hide_ (fun j => by
        unfold seV
        rw [← hrd]
        simp)
      have HT0 : Hid (Se2 C L a m m en Lc) := hide_ (Se2.new0 HSj.out en)
      have HFin : Hid (∀ L', Se2 C L a m 0 en L' → SeTo C L a L') := hide_ (fun L' h2 => h2.fin HJ.out (by rw [Hn.out]; exact Ha.out) hE.out HSj.out (by rw [Ht.out]; exact Hen.out) hu)
      have HIn : Hid (∀ j, j < m → itJ C j a < n) := hide_ (fun j hj => by rw [← Hn.out]; exact it_in HJ.out (by rw [Hn.out]; exact Ha.out) (fun i hi => HSj.out.jm i (by omega)))
      have HEn : Hid (en = -2 ∨ (0 ≤ en ∧ en < (n : Int))) := hide_ (by
        by_cases hr : ∃ i, i < m ∧ itJ C i a = t
        · obtain ⟨i, hi, he⟩ := hr
          left
          rw [← Hen.out, ← he]
          exact HSj.out.opn i hi
        · have h1 := HSj.out.old t (by rw [Hn.out]; exact htn) (fun i hi e => hr ⟨i, hi, e⟩)
          rw [Hen.out] at h1
          rcases hE.out.at_in HJ.out (k := t) (by rw [Hn.out]; exact htn) with h2 | h2
          · exact absurd (h1.trans h2) hu
          · right
            rw [h1, ← Hn.out]
            exact h2)
      have Hrd := hide_ hrd
      clear hu hrd HSj
      go_upto_region 6 with fail
      go_cut [8] from 31 to 40 (fun x8 wc => x8 = .bool rd ∧ wq = wc)
      case first =>
        by_cases h2 : en = -2
        · subst h2
          have e1 : rd = true := by rw [← Hrd.out]; rfl
          subst e1
          go_wp2_with fail
          go_meet
          case rel => exact ⟨rfl, rfl⟩
        · obtain ⟨e, he⟩ : ∃ e : Nat, en = (e : Int) := by
            rcases HEn.out with h | h
            · exact absurd h h2
            · exact Int.eq_ofNat_of_zero_le h.1
          subst he
          have hen : e < n := by
            rcases HEn.out with h | h
            · exact absurd h h2
            · omega
          have henI : (e : Int) < (n : Int) := by omega
          obtain ⟨x, hx⟩ : ∃ x, C[e]? = some x := ⟨_, List.getElem?_eq_getElem (by rw [Hn.out]; exact hen)⟩
          have hxA : inA C e = x := inA_at hx
          obtain ⟨i0, i1, i2, i3⟩ := HC3.out.at hx
          have f2 : ((e : Int) == -2) = false := by simp
          have e1 : (x.op == 19) = rd := by
            rw [← Hrd.out, Int.toNat_natCast]
            unfold jmp
            rw [hxA]
            simp only [decide_eq_false h2, Bool.false_or]
            rw [Bool.eq_iff_iff]
            simp
          have He1 := hide_ e1
          clear hx hxA h2 e1
          go_wp2_with fail
          go_meet
          case rel => exact ⟨by rw [He1.out], rfl⟩
      case rest =>
      obtain ⟨rfl, rfl⟩ := hcut
      clear ct cf Hrd HEn
      go_wp2_with fail
      go_loopg [6] m (fun gi y6 wr => ∃ (m2 : Nat) (L2 : List Int) (v2 : Value), v2 = y6 ∧ Hid (m2 = gi) ∧ m2 ≤ m ∧ Hid (Se2 C L a m m2 en L2) ∧ Hid (IOwn wr B (.slice (some ⟨g, 0, none⟩) n n) L2) ∧ Hid (IOwn wr w.heap.size v2 (wkJ C a m2)) ∧ Hid (Upd (fun q => q = g) w wr))
      case atStart => exact ⟨m, Lc, _, rfl, hide_ rfl, Nat.le_refl _, HT0, HLj, HWj, HUj⟩
      case round =>
        clear HT0 HLj HWj HUj HC3
        obtain ⟨m2, L2, v2, rfl, Hgi, hm2, HSi, HLi, HWi, HUi⟩ := hrel
        generalize wr = wp at *
        have hLl2 : L2.length = n := by rw [HSi.out.len]; exact Hn.out
        cases m2 with
        | zero =>
          obtain ⟨a0, c0, hv⟩ := HWi.out.slice
          have hv : v2 = .slice a0 0 c0 := hv
          subst hv
          have HX : Hid (StTo w B g n C L a (.returned (.tuple #[])) wp) := hide_ ⟨rfl, L2, HFin.out L2 HSi.out, HLi.out, HUi.out⟩
          go_wp2_with fail
          refine bodyPost_ret (results_none rfl _ _ _) rfl ?_
          exact HX.out
        | succ m2 =>
          obtain ⟨gw, cw, hv, hcv, -, -⟩ := HWi.out.open (by rw [wkJ_len]; omega)
          rw [wkJ_len] at hv hcv
          subst hv
          obtain ⟨cy, -⟩ := HWi.out.cellH (i := m2) (by rw [wkJ_len]; omega)
          rw [wkJ_at] at cy
          obtain ⟨k, hk⟩ : ∃ k, itJ C m2 a = k := ⟨_, rfl⟩
          have hkn : k < n := by rw [← hk]; exact HIn.out m2 (by omega)
          rw [hk] at cy
          have hkI : (k : Int) < (n : Int) := by omega
          have hw1 : IntKind.i64.wrap ((m2 : Int) + 1 - 1) = (m2 : Int) := by rw [i64w _ (by omega)]; omega
          have hcv' : (m2 : Int) + 1 ≤ (cw : Int) := by omega
          have hcut := HWi.out.cutV (m := m2) (wkJ_len C a (m2 + 1)) (by omega)
          rw [wkJ_take] at hcut
          have hne : gw ≠ g := fun e => by have := (HWi.out.lies (k := gw) rfl).1; have := Hgl.out; omega
          obtain ⟨zc, zf⟩ := HLi.out.cellH (i := k) (by rw [hLl2]; exact hkn)
          have hst := HSi.out.step (by omega) (by rw [Hn.out, hk]; exact hkn)
          rw [hk, HV.out k] at hst
          have Hst := hide_ hst
          obtain ⟨w5, hw5⟩ : ∃ wx, wp.setCell ⟨g, k, none⟩ (.int .i64 en) = wx := ⟨_, rfl⟩
          have hU5 : Upd (fun q => q = g) wp w5 := by rw [← hw5]; exact (Upd.refl _ wp).set _ _ (.inl rfl)
          have hL5 : IOwn w5 B (.slice (some ⟨g, 0, none⟩) n n) (L2.set k en) := by rw [← hw5]; exact HLi.out.set (by rw [hLl2]; exact hkn) _
          have HL5 := hide_ hL5
          have HU5 := hide_ (HUi.out.to hU5)
          have HW5 := hide_ (hcut.upd hU5 (fun q e e2 => by injection e with e; exact hne (e.trans e2)))
          obtain ⟨zc5, zf5⟩ := hL5.cellH (i := k) (by rw [List.length_set, hLl2]; exact hkn)
          have HLl := hide_ hLl2
          have Hne := hide_ hne
          clear hcut hne hst hL5 hU5 HLi HWi HUi hLl2 hk
          cases rd
          · have HSn : Hid (Se2 C L a m m2 en (L2.set k en)) := hide_ (by have h1 := Hst.out; rw [if_neg (by simp)] at h1; exact h1)
            clear Hst zf5 zc5
            go_wp2_with fail
            go_roundg m2
            case measure => have h1 := Hgi.out; omega
            case rel => exact ⟨m2, L2.set k en, _, rfl, hide_ rfl, by omega, HSn, HL5, HW5, HU5⟩
          · have HSn : Hid (Se2 C L a m m2 en (L2.set k (k : Int))) := hide_ (by have h1 := Hst.out; rw [if_pos rfl] at h1; exact h1)
            obtain ⟨w6, hw6⟩ : ∃ wx, w5.setCell ⟨g, k, none⟩ (.int .i64 (k : Int)) = wx := ⟨_, rfl⟩
            have hU6 : Upd (fun q => q = g) w5 w6 := by rw [← hw6]; exact (Upd.refl _ w5).set _ _ (.inl rfl)
            have HL6 : Hid (IOwn w6 B (.slice (some ⟨g, 0, none⟩) n n) (L2.set k (k : Int))) := hide_ (by
              have h1 := HL5.out.set (i := k) (by rw [List.length_set, HLl.out]; exact hkn) (k : Int)
              rw [List.set_set, hw6] at h1
              exact h1)
            have HU6 := hide_ (HU5.out.to hU6)
            have HW6 := hide_ (HW5.out.upd hU6 (fun q e e2 => by injection e with e; exact Hne.out (e.trans e2)))
            clear Hst hU6 HL5 HU5 HW5
            go_wp2_with fail
            try rw [hw6]
            go_roundg m2
            case measure => have h1 := Hgi.out; omega
            case rel => exact ⟨m2, L2.set k (k : Int), _, rfl, hide_ rfl, by omega, HSn, HL6, HW6, HU6⟩
def enL (C : List In) : List Int := (List.range C.length).map fun k => (endP C k : Int)
theorem enL_len (C : List In) : (enL C).length = C.length := by simp [enL]
theorem enL_at {C : List In} {k : Nat} (hk : k < C.length) : hAt (enL C) k = (endP C k : Int) := by simp [enL, hAt, List.getD, hk]
theorem enL_of {C : List In} {L : List Int} (hl : L.length = C.length) (h : ∀ k, k < C.length → hAt L k = (endP C k : Int)) : L = enL C := by
  apply List.ext_getElem
  · rw [hl, enL_len]
  · intro i h1 h2
    have e1 : hAt L i = L[i] := by simp [hAt, List.getD, h1]
    have e2 : hAt (enL C) i = (enL C)[i] := by simp [hAt, List.getD, h2]
    rw [← e1, ← e2, h i (by omega), enL_at (by omega)]
structure En0 (C : List In) (j : Nat) (L : List Int) : Prop where
  len : L.length = C.length
  is : ∀ k, k < j → hAt L k = if jmp C k = true then -1 else (k : Int)
theorem En0.ok {C : List In} {L : List Int} (h : En0 C C.length L) : EnI C L := by
  refine ⟨h.len, fun k hk => ?_⟩
  have h1 := h.is k hk
  by_cases hj : jmp C k = true
  · rw [if_pos hj] at h1; exact .inr ⟨h1, hj⟩
  · rw [if_neg hj] at h1
    exact .inl (by rw [h1, end_not (by simpa using hj)])
theorem En0.step {C : List In} {j : Nat} {L : List Int} (h : En0 C j L) (hj : j < C.length) : En0 C (j + 1) (L.set j (if jmp C j = true then -1 else (j : Int))) := by
  refine ⟨by simp [h.len], fun k hk => ?_⟩
  rw [hAt_set _ _ (by rw [h.len]; exact hj)]
  by_cases e : k = j
  · rw [if_pos e, e]
  · rw [if_neg e]; exact h.is k (by omega)
def EsTo (w : World) (n : Nat) (C : List In) (e : Ending) (w' : World) : Prop := e = .returned (.slice (some ⟨w.heap.size, 0, none⟩) n n) ∧ IOwn w' w.heap.size (.slice (some ⟨w.heap.size, 0, none⟩) n n) (enL C) ∧ Below w.heap.size w w'
set_option maxRecDepth 100000 in
set_option maxHeartbeats 16000000 in
theorem endsOf_any (enc : Bool) (ac : Option Addr) (cc n : Nat) (C : List In) (E : List Int) (w : World) (hn : C.length = n) (hK : Hid (Chk enc C E)) (hC : Hid (IRow w ac C)) :
    Calls Tryz.prog 16 #[.slice ac n cc] w fun e w' => EsTo w n C e w' := by
  have hnb : n ≤ 1048576 := by rw [← hn]; exact hK.out.nc
  obtain ⟨g, hg⟩ : ∃ g, w.heap.size = g := ⟨_, rfl⟩
  obtain ⟨w1, hmk, ho1, hB1⟩ : ∃ w1, (Instr.makeSlice 23 (.int .i64 (n : Int)) (.int .i64 (n : Int))).run Tryz.prog w = .ok (.slice (some ⟨w.heap.size, 0, none⟩) n n) w1 ∧ IOwn w1 w.heap.size (.slice (some ⟨w.heap.size, 0, none⟩) n n) (List.replicate n 0) ∧ Below w.heap.size w w1 := ⟨_, makeZ n (by omega) w, ownZ w n (by omega), below1 _ _⟩
  have HX : Hid (∀ w', IOwn w' g (.slice (some ⟨g, 0, none⟩) n n) (enL C) → Below g w w' → EsTo w n C (.returned (.slice (some ⟨g, 0, none⟩) n n)) w') := hide_ (fun w' h1 h2 => by
    unfold EsTo
    rw [hg]
    exact ⟨rfl, h1, h2⟩)
  rw [hg] at hmk ho1 hB1
  have HO1 := hide_ ho1
  have HB1 := hide_ hB1
  have Hn := hide_ hn
  have Hg := hide_ hg
  have HE0 : Hid (En0 C 0 (List.replicate n 0)) := hide_ ⟨by simp [hn], fun k hk => by omega⟩
  have HC2 : Hid (∀ w', Below g w w' → IRow w' ac C) := hide_ (fun w' hB => hC.out.later (by rw [hg]; exact hB))
  have HAd : Hid (0 < n → ∃ bc oc, ac = some ⟨bc, oc, none⟩ ∧ bc ≠ g) := hide_ (fun h0 => by
    obtain ⟨bc, oc, h1, h2, -⟩ := hC.out.open (by omega)
    exact ⟨bc, oc, h1, by omega⟩)
  clear ho1 hB1 hn hg hC
  go_enter Tryz.func16, Tryz.ntmps16
  go_wp2_with fail
  clear hmk
  go_loopw [12] (fun x12 wr => ∃ (j : Nat) (L : List Int), j ≤ n ∧ x12 = .int .i64 (j : Int) ∧ Hid (En0 C j L) ∧ Hid (IOwn wr g (.slice (some ⟨g, 0, none⟩) n n) L) ∧ Hid (Below g w wr)) (fun x12 _ => n - (intOf x12).toNat)
  case atStart => exact ⟨0, _, by omega, rfl, HE0, HO1, HB1⟩
  case round =>
    clear HE0 HO1 HB1
    obtain ⟨j, L, hj, rfl, HEj, HOj, HBj⟩ := hrel
    generalize wr = wq at *
    by_cases hlt : j < n
    · have hlt' : (j : Int) < (n : Int) := by omega
      obtain ⟨bc, oc, hac, hbc⟩ := HAd.out (by omega)
      subst hac
      have hjC : j < C.length := by rw [Hn.out]; exact hlt
      obtain ⟨x, hx⟩ : ∃ x, C[j]? = some x := ⟨_, List.getElem?_eq_getElem hjC⟩
      have hxA : inA C j = x := inA_at hx
      obtain ⟨i0, i1, i2, i3⟩ := (HC2.out wq HBj.out).at hx
      obtain ⟨w2, hw2⟩ : ∃ wx, wq.alloc (.cells #[.int .i64 x.op, .int .i64 x.a, .int .i64 x.b, .int .i64 x.c] 37) = wx := ⟨_, rfl⟩
      have hB2 : Below wq.heap.size wq w2 := by rw [← hw2]; exact below1 _ _
      have hX2 : Blk w2 wq.heap.size 37 (inc x) := by rw [← hw2]; exact Blk.newA wq _ _
      have hO2 := HOj.out.later hB2
      have hLl : L.length = n := by rw [HEj.out.len]; exact Hn.out
      obtain ⟨zc, zf⟩ := hO2.cellH (i := j) (by rw [hLl]; exact hlt)
      obtain ⟨w3, hw3⟩ : ∃ wx, w2.setCell ⟨g, j, none⟩ (.int .i64 (j : Int)) = wx := ⟨_, rfl⟩
      have hU3 : Upd (fun q => q = g) w2 w3 := by rw [← hw3]; exact (Upd.refl _ w2).set _ _ (.inl rfl)
      have hO3 : IOwn w3 g (.slice (some ⟨g, 0, none⟩) n n) (L.set j (j : Int)) := by rw [← hw3]; exact hO2.set (by rw [hLl]; exact hlt) _
      have hgq : g < wq.heap.size := (HOj.out.lies (k := g) rfl).2
      obtain ⟨k0, k1, k2, k3⟩ := (hX2.upd hU3 (fun e => by omega)).ci
      have hBg : Below g w w3 := (HBj.out.trans (hB2.mono (by omega))).trans (hU3.below g (Nat.le_trans (by omega) hB2.size) (fun q e => by rw [e]; exact Nat.le_refl _))
      have HB3 := hide_ hBg
      have HO3 := hide_ hO3
      obtain ⟨yc, yf⟩ := hO3.cellH (i := j) (by rw [List.length_set, hLl]; exact hlt)
      have hst := HEj.out.step hjC
      have HLl := hide_ hLl
      by_cases ho : x.op = 19
      · have f0 : (x.op == 19) = true := by simpa using ho
        have HS : Hid (En0 C (j + 1) (L.set j (-1))) := hide_ (by
          rw [if_pos (by unfold jmp; rw [hxA]; exact decide_eq_true ho)] at hst
          exact hst)
        obtain ⟨w4, hw4⟩ : ∃ wx, w3.setCell ⟨g, j, none⟩ (.int .i64 (-1)) = wx := ⟨_, rfl⟩
        have hU4 : Upd (fun q => q = g) w3 w4 := by rw [← hw4]; exact (Upd.refl _ w3).set _ _ (.inl rfl)
        have HO4 : Hid (IOwn w4 g (.slice (some ⟨g, 0, none⟩) n n) (L.set j (-1))) := hide_ (by
          have h1 := HO3.out.set (i := j) (by rw [List.length_set, HLl.out]; exact hlt) (-1)
          rw [List.set_set, hw4] at h1
          exact h1)
        have HB4 : Hid (Below g w w4) := hide_ (HB3.out.trans (hU4.below g (by have := HB3.out.size; have := (HO3.out.lies (k := g) rfl).2; omega) (fun q e => by rw [e]; exact Nat.le_refl _)))
        clear hst hxA hx hU4 hU3 hO3 hO2 hX2 hB2 hBg HO3 HB3 HEj HOj HBj ho hgq hbc
        go_upto_region 5 with fail
        try rw [hw2]
        go_upto_region 6 with fail
        try rw [hw3]
        go_wp2_with fail
        try rw [hw4]
        go_roundw
        case rel => exact ⟨j + 1, L.set j (-1), by omega, by go_num, HS, HO4, HB4⟩
        case measure => simp [intOf]; omega
      · have f0 : (x.op == 19) = false := by simpa using ho
        have HS : Hid (En0 C (j + 1) (L.set j (j : Int))) := hide_ (by
          rw [if_neg (by unfold jmp; rw [hxA]; simpa using ho)] at hst
          exact hst)
        clear hst hxA hx hU3 hO3 hO2 hX2 hB2 hBg HEj HOj HBj ho hgq hbc
        go_upto_region 5 with fail
        try rw [hw2]
        go_upto_region 6 with fail
        try rw [hw3]
        go_wp2_with fail
        go_roundw
        case rel => exact ⟨j + 1, L.set j (j : Int), by omega, by go_num, HS, HO3, HB3⟩
        case measure => simp [intOf]; omega
    · have ej : j = n := by omega
      subst ej
      have HE1 : Hid (EnI C L) := hide_ (En0.ok (by rw [Hn.out]; exact HEj.out))
      clear HEj hlt
      go_wp2_with fail
      go_loopw [30] (fun x30 wr => ∃ (i : Nat) (M : List Int), i ≤ j ∧ x30 = .int .i64 (i : Int) ∧ Hid (EnI C M) ∧ Hid (∀ k, k < i → hAt M k = (endP C k : Int)) ∧ Hid (IOwn wr g (.slice (some ⟨g, 0, none⟩) j j) M) ∧ Hid (Below g w wr)) (fun x30 _ => j - (intOf x30).toNat)
      case atStart => exact ⟨0, L, by omega, rfl, HE1, hide_ (fun k hk => by omega), HOj, HBj⟩
      case round =>
        clear HE1 HOj HBj
        obtain ⟨i, M, hi, rfl, HEi, HKi, HOi, HBi⟩ := hrel
        generalize wr = wp at *
        by_cases hlt : i < j
        · have hlt' : (i : Int) < (j : Int) := by omega
          obtain ⟨bc, oc, hac, hbc⟩ := HAd.out (by omega)
          have HSe := hide_ (settle_any enc ac cc g g j C E M i wp Hn.out hlt hK HEi (hide_ (HC2.out wp HBi.out)) (hide_ (fun x e => by rw [hac] at e; injection e with e; rw [← e]; exact hbc)) HOi)
          clear hac hbc
          go_wp2_with fail
          refine HSe.out.mono ?_
          rintro e w4 hT
          obtain ⟨rfl, M', hM', hO4, hU4⟩ := hT
          have HE4 := hide_ hM'.ok
          have HK4 : Hid (∀ k, k < i + 1 → hAt M' k = (endP C k : Int)) := hide_ (fun k hk => by
            by_cases e : k = i
            · subst e; exact hM'.at_
            · exact hM'.keep k (by rw [Hn.out]; omega) (HKi.out k (by omega)))
          have HO4 := hide_ hO4
          have HB4 : Hid (Below g w w4) := hide_ (HBi.out.trans (hU4.below g (by have := (HOi.out.lies (k := g) rfl).2; omega) (fun q e => by rw [e]; exact Nat.le_refl _)))
          clear hM' hO4 hU4 HSe HEi HKi HOi HBi
          go_wp2_with fail
          go_roundw
          case rel => exact ⟨i + 1, M', by omega, by go_num, HE4, HK4, HO4, HB4⟩
          case measure => simp [intOf]; omega
        · have ei : i = j := by omega
          subst ei
          have e1 : M = enL C := enL_of HEi.out.len (fun k hk => HKi.out k (by rw [← Hn.out]; exact hk))
          have HY := hide_ (HX.out wp (by rw [← e1]; exact HOi.out) HBi.out)
          clear e1
          go_wp2_with fail
          go_ret
          exact HY.out
theorem vf_zero {enc : Bool} {C : List In} {E : List Int} (h : (vfP enc C E).1 = 0) : Chk enc C E ∧ vfP enc C E = (0, 0) := by
  unfold vfP at h ⊢
  by_cases h1 : (chk enc C E).1 ≠ 0
  · rw [if_pos h1] at h; exact absurd h h1
  · have h0 : (chk enc C E).1 = 0 := by
      cases Decidable.em ((chk enc C E).1 = 0) with
      | inl h => exact h
      | inr h => exact absurd h h1
    rw [if_neg h1] at h ⊢
    refine ⟨chk_ok.1 (chk_zero h0), ?_⟩
    split at h
    · cases h
    · rename_i h2
      rw [if_neg h2]
      split at h
      · cases h
      · rename_i h3
        rw [if_neg h3]
structure PgI (w : World) (ac ae : Option Addr) (cc ce : Nat) (C : List In) (E : List Int) : Prop where
  hcc : C.length ≤ cc
  hcl : cc ≤ 9223372036854775807
  hCl : C.length ≤ 140737488355328
  hce : E.length ≤ ce
  hel : E.length ≤ 140737488355328
  hr : IRow w ac C
  he : Row .i64 w ae E
theorem PgI.later {w w' : World} {ac ae : Option Addr} {cc ce : Nat} {C : List In} {E : List Int} (h : PgI w ac ae cc ce C E) (hB : Below w.heap.size w w') : PgI w' ac ae cc ce C E :=
  ⟨h.hcc, h.hcl, h.hCl, h.hce, h.hel, h.hr.later hB, h.he.later hB⟩
theorem PgI.verify {w : World} {ac ae : Option Addr} {cc ce : Nat} {C : List In} {E : List Int} (h : PgI w ac ae cc ce C E) (enc : Bool) :
    Calls Tryz.prog 7 #[.agg #[.bool enc, .slice ac C.length cc, .slice ae E.length ce]] w fun e w' => e = .returned (.agg #[.int .i64 (vfP enc C E).1, .int .i64 (vfP enc C E).2]) ∧ Hid (Below w.heap.size w w') :=
  (verify_any enc ac ae cc ce C E w h.hcc h.hcl h.hCl h.hce h.hel (hide_ h.hr) (hide_ h.he)).mono (by rintro e w' ⟨h1, h2⟩; exact ⟨h1, hide_ h2⟩)
def TgTo (w : World) (enc : Bool) (C : List In) (E : List Int) (at_ : Int) (e : Ending) (w' : World) : Prop :=
  Below w.heap.size w w' ∧ (((vfP enc C E).1 ≠ 0 ∧ e = .returned (.tuple #[.slice none 0 0, .int .i64 (vfP enc C E).1])) ∨ ((vfP enc C E).1 = 0 ∧ ¬ (0 ≤ at_ ∧ at_ < (C.length : Int)) ∧ e = .returned (.tuple #[.slice none 0 0, .int .i64 3])) ∨
    ((vfP enc C E).1 = 0 ∧ (0 ≤ at_ ∧ at_ < (C.length : Int)) ∧ ∃ v, e = .returned (.tuple #[v, .int .i64 0]) ∧ IOwn w' w.heap.size v (sucP C at_.toNat)))
set_option maxRecDepth 100000 in
set_option maxHeartbeats 16000000 in
theorem targets_any (enc : Bool) (ac ae : Option Addr) (cc ce : Nat) (C : List In) (E : List Int) (at_ : Int) (w : World) (h : Hid (PgI w ac ae cc ce C E)) :
    Calls Tryz.prog 12 #[.agg #[.bool enc, .slice ac C.length cc, .slice ae E.length ce], .int .i64 at_] w fun e w' => TgTo w enc C E at_ e w' := by
  obtain ⟨w1, hw1⟩ : ∃ wx, w.alloc (.cells #[.bool enc, .slice ac C.length cc, .slice ae E.length ce] 25) = wx := ⟨_, rfl⟩
  have HB1 : Hid (Below w.heap.size w w1) := hide_ (by rw [← hw1]; exact below1 _ _)
  have HP1 : Hid (Blk w1 w.heap.size 25 [.bool enc, .slice ac C.length cc, .slice ae E.length ce]) := hide_ (by rw [← hw1]; exact Blk.newA w _ _)
  have p0 := HP1.out.cell 0; have p1 := HP1.out.cell 1; have p2 := HP1.out.cell 2
  simp at p0 p1 p2
  have HV := hide_ ((h.out.later HB1.out).verify enc)
  obtain ⟨K, hK⟩ : ∃ K, vfP enc C E = K := ⟨_, rfl⟩
  rw [hK] at HV
  have HKv := hide_ hK
  clear hK
  go_enter Tryz.func12, Tryz.ntmps12
  go_upto_region 1 with fail
  try rw [hw1]
  clear hw1
  go_wp2_with fail
  refine HV.out.mono ?_
  rintro e w2 ⟨rfl, HB2⟩
  obtain ⟨w3, hw3⟩ : ∃ wx, w2.alloc (.cells #[.int .i64 K.1, .int .i64 K.2] 30) = wx := ⟨_, rfl⟩
  have hB3 : Below w2.heap.size w2 w3 := by rw [← hw3]; exact below1 _ _
  have HK3 : Hid (Blk w3 w2.heap.size 30 [.int .i64 K.1, .int .i64 K.2]) := hide_ (by rw [← hw3]; exact Blk.newA _ _ _)
  have HBw := hide_ (below_to (below_to HB1.out HB2.out) hB3)
  have HP3 := hide_ ((HP1.out.later HB2.out).later hB3)
  have k0 := HK3.out.cell 0
  have r1 := HP3.out.cell 1
  simp at k0 r1
  clear hB3 p0 p1 p2 HP1 HB2 HB1 HV HK3 HP3
  go_upto_region 2 with fail
  try rw [hw3]
  clear hw3
  by_cases hz : K.1 = 0
  · obtain ⟨hC, -⟩ := vf_zero (by rw [HKv.out]; exact hz)
    have HC := hide_ hC
    have fz : (K.1 == 0) = true := by simpa using hz
    have Hz := hide_ hz
    clear hz hC
    by_cases hin : 0 ≤ at_ ∧ at_ < (C.length : Int)
    · obtain ⟨k, hk⟩ := Int.eq_ofNat_of_zero_le hin.1
      subst hk
      have hkn : k < C.length := by omega
      have f1 : decide ((k : Int) < 0) = false := decide_eq_false (by omega)
      have f2 : ¬ ((C.length : Int) ≤ (k : Int)) := by omega
      have HS := hide_ (suc_any enc ac cc C E k w3 hkn HC (hide_ (h.out.later HBw.out).hr))
      clear hin
      go_wp2_with fail
      refine HS.out.mono ?_
      rintro e w4 ⟨v, rfl, HO4, HB4⟩
      have HX : Hid (TgTo w enc C E (k : Int) (.returned (.tuple #[v, .int .i64 0])) w4) := hide_ ⟨below_to HBw.out HB4.out, .inr (.inr ⟨by rw [HKv.out]; exact Hz.out, ⟨by omega, by omega⟩, v, rfl, by rw [Int.toNat_natCast]; exact HO4.out.wider HBw.out.size⟩)⟩
      go_wp2_with fail
      go_ret2
      exact HX.out
    · have HX : Hid (TgTo w enc C E at_ (.returned (.tuple #[.slice none 0 0, .int .i64 3])) w3) := hide_ ⟨HBw.out, .inr (.inl ⟨by rw [HKv.out]; exact Hz.out, hin, rfl⟩)⟩
      by_cases h0 : at_ < 0
      · have f1 : decide (at_ < 0) = true := by simpa using h0
        clear hin h0
        go_wp2_with fail
        go_ret2
        exact HX.out
      · have f1 : decide (at_ < 0) = false := by simpa using h0
        have f2 : (C.length : Int) ≤ at_ := by omega
        clear hin h0
        go_wp2_with fail
        go_ret2
        exact HX.out
  · have fz : (K.1 == 0) = false := by simpa using hz
    have HX : Hid (∀ q, TgTo w enc C E at_ (.returned (.tuple #[.slice none 0 0, .int .i64 K.1])) (w3.drewN q)) := hide_ (fun q => ⟨below_drewN HBw.out q, .inl ⟨by rw [HKv.out]; exact hz, by rw [HKv.out]⟩⟩)
    clear hz
    go_wp2_with fail
    go_quiet (fail)
    go_wp2_with fail
    go_ret2
    exact HX.out _
def RcTo (w : World) (enc : Bool) (C : List In) (E : List Int) (e : Ending) (w' : World) : Prop :=
  Below w.heap.size w w' ∧ (((vfP enc C E).1 ≠ 0 ∧ e = .returned (.tuple #[.slice none 0 0, .agg #[.int .i64 (vfP enc C E).1, .int .i64 (vfP enc C E).2]])) ∨
    (vfP enc C E = (0, 0) ∧ Chk enc C E ∧ ∃ (R : List Bool) (g : Nat), ReOk C E R ∧ e = .returned (.tuple #[.slice (some ⟨g, 0, none⟩) C.length C.length, .agg #[.int .i64 0, .int .i64 0]]) ∧ Blk w' g 4 (R.map Value.bool) ∧ w.heap.size ≤ g))
set_option maxRecDepth 100000 in
set_option maxHeartbeats 16000000 in
theorem reach_any (enc : Bool) (ac ae : Option Addr) (cc ce : Nat) (C : List In) (E : List Int) (w : World) (h : Hid (PgI w ac ae cc ce C E)) :
    Calls Tryz.prog 13 #[.agg #[.bool enc, .slice ac C.length cc, .slice ae E.length ce]] w fun e w' => RcTo w enc C E e w' := by
  obtain ⟨w1, hw1⟩ : ∃ wx, (w.alloc (.cells #[.bool enc, .slice ac C.length cc, .slice ae E.length ce] 25)).alloc (.cells #[.int .i64 0, .int .i64 0] 30) = wx := ⟨_, rfl⟩
  have HB1 : Hid (Below w.heap.size w w1) := hide_ (by rw [← hw1]; exact below2 _ _ _)
  obtain ⟨kp, kf⟩ := blk2 w #[.bool enc, .slice ac C.length cc, .slice ae E.length ce] #[.int .i64 0, .int .i64 0] 25 30
  rw [hw1] at kp kf
  have p0 := kp.cell 0; have p1 := kp.cell 1; have p2 := kp.cell 2
  simp at p0 p1 p2
  have HP1 := hide_ kp
  have HF1 := hide_ kf
  have hgf : w.heap.size ≤ w.heap.size + 1 := by omega
  have HV := hide_ ((h.out.later HB1.out).verify enc)
  obtain ⟨K, hK⟩ : ∃ K, vfP enc C E = K := ⟨_, rfl⟩
  rw [hK] at HV
  have HKv := hide_ hK
  clear hK kp kf
  go_enter Tryz.func13, Tryz.ntmps13
  go_upto_region 1 with fail
  try rw [hw1]
  clear hw1
  go_wp2_with fail
  refine HV.out.mono ?_
  rintro e w2 ⟨rfl, HB2⟩
  obtain ⟨w3, hw3⟩ : ∃ wx, w2.alloc (.cells #[.int .i64 K.1, .int .i64 K.2] 30) = wx := ⟨_, rfl⟩
  have hB3 : Below w2.heap.size w2 w3 := by rw [← hw3]; exact below1 _ _
  have HK3 : Hid (Blk w3 w2.heap.size 30 [.int .i64 K.1, .int .i64 K.2]) := hide_ (by rw [← hw3]; exact Blk.newA _ _ _)
  have HBw := hide_ (below_to (below_to HB1.out HB2.out) hB3)
  have HP3 := hide_ ((HP1.out.later HB2.out).later hB3)
  have HF3 := hide_ ((HF1.out.later HB2.out).later hB3)
  have k0 := HK3.out.cell 0; have k1 := HK3.out.cell 1
  have r0 := HP3.out.cell 0; have r1 := HP3.out.cell 1; have r2 := HP3.out.cell 2
  have z0 := HF3.out.cell 0; have z1 := HF3.out.cell 1
  have zf := fun i => HF3.out.frozen i
  simp at k0 k1 r0 r1 r2 z0 z1
  clear hB3 p0 p1 p2 HP1 HF1 HB2 HB1 HV
  go_upto_region 2 with fail
  try rw [hw3]
  clear hw3
  by_cases hz : K.1 = 0
  · obtain ⟨hC, hv⟩ := vf_zero (by rw [HKv.out]; exact hz)
    have HC := hide_ hC
    have Hv := hide_ hv
    have fz : (K.1 == 0) = true := by simpa using hz
    clear hz hC hv
    have HR := hide_ (reached_any enc ac ae cc ce C E w3 HC (hide_ (h.out.later HBw.out).hr) (hide_ (h.out.later HBw.out).he))
    clear k0 k1
    have k0 := HK3.out.cell 0
    simp at k0
    go_wp2_with fail
    refine HR.out.mono ?_
    rintro e w4 hT
    obtain ⟨R, g, rfl, hR, hK4, hg, hB4⟩ := hT
    have HF4 := hide_ (HF3.out.later hB4)
    have y0 := HF4.out.cell 0; have y1 := HF4.out.cell 1
    have yf := fun i => HF4.out.frozen i
    simp at y0 y1
    have HX : Hid (RcTo w enc C E (.returned (.tuple #[.slice (some ⟨g, 0, none⟩) C.length C.length, .agg #[.int .i64 0, .int .i64 0]])) ((w4.setCell ⟨w.heap.size + 1, 0, none⟩ (.int .i64 0)).setCell ⟨w.heap.size + 1, 1, none⟩ (.int .i64 0))) := hide_ ⟨below_set (below_set (below_to HBw.out hB4) _ _ _ hgf) _ _ _ hgf, .inr ⟨Hv.out, HC.out, R, g, hR, rfl, by
      have hne : g ≠ w.heap.size + 1 := fun e => by
        have h1 := HF3.out.lt
        omega
      exact (hK4.other _ _ hne).other _ _ hne, Nat.le_trans HBw.out.size hg⟩⟩
    clear hR hK4 hg hB4 HR k0 r0 r1 r2 z0 z1 zf HF3
    go_wp2_with fail
    refine retVS rfl rfl rfl (wr2f HF4.out _ _) ?_
    exact HX.out
  · have fz : (K.1 == 0) = false := by simpa using hz
    have HX : Hid (∀ w4, Below w.heap.size w w4 → RcTo w enc C E (.returned (.tuple #[.slice none 0 0, .agg #[.int .i64 K.1, .int .i64 K.2]])) w4) := hide_ (fun w4 hB => ⟨hB, .inl ⟨by rw [HKv.out]; exact hz, by rw [HKv.out]⟩⟩)
    clear hz
    go_wp2_with fail
    go_region
    all_goals (
      go_wp2_with fail
      refine retVS rfl rfl rfl (wr2f (HF3.out.drew) _ _) ?_
      exact HX.out _ (below_set (below_set HBw.out.drew _ _ _ hgf) _ _ _ hgf))
end Go.Proofs.YtjamfbpdepahnaaGreat
