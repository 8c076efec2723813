import Derived.Test.YtegejchamojfgaaDoorOn
import Derived.Test.YtegejchamojfgaaDoorOk
import Derived.Test.YtegejchamojfgaaDoorOt
import Derived.Test.YtegejchamojfgaaDoorOu
import Derived.Test.YtegejchamojfgaaDoorJpa
import Derived.Test.YtegejchamojfgaaDoorZrs
import Derived.Test.YtegejchamojfgaaDoorRead
import Derived.Test.YtegejchamojfgaaDoorCards
import Derived.Test.YtegejchamojfgaaDoorTie
import Derived.SizedLaws
import Derived.WalkKit
import Derived.ProofKit
import Derived.ChangeMaps5
import Derived.Below
import Derived.OpenShut
import Derived.ShutString
import Derived.Deep.DeepHandedRow
import Derived.Lib.LaidTab
import Derived.Stop.LaidErr
/- TypingFirst: what Some answers; nodes written over. -/
namespace Go.Proofs.YtegejchamojfgaaDoor
open Go.RowKit
set_option linter.unusedVariables false

theorem mkT_ok {T : List Ty} {R : List Rt} {t : Int} {p : List Int} (hS : OkS T R) : ∀ (f : Nat) (st : List Int) (V W : List Nv), MkI T t p st V → mkT T p f st V = some W → W.length ≤ 1048576 ∧ (∀ x ∈ W, NvOk x) ∧ V.length ≤ W.length ∧ (st ≠ [] → V.length < W.length)
  | 0, st, V, W, h, e => by rw [mkT] at e; cases e
  | f + 1, [], V, W, h, e => by
    rw [mkT] at e
    injection e with e
    subst e
    have := h.len
    simp at this
    exact ⟨this, h.ok, Nat.le_refl _, fun hn => absurd rfl hn⟩
  | f + 1, s :: st, V, W, h, e => by
    rw [mkT] at e
    obtain ⟨-, -, -, -, -, hn⟩ := h.next hS
    split at e
    · cases e
    · rename_i hg
      obtain ⟨h1, h2, h3, h4⟩ := mkT_ok hS f _ _ W (hn hg) e
      simp only [List.length_append, List.length_singleton] at h3
      exact ⟨h1, h2, by omega, fun _ => by omega⟩
theorem someT_ok {T : List Ty} {R : List Rt} {t : Int} {p : List Int} (hS : OkS T R) (h0 : 0 ≤ t) (h1 : t < T.length) : someT T R t p = ([], 5) ∨ ∃ V, someT T R t p = (V, 0) ∧ 0 < V.length ∧ V.length ≤ 1048576 ∧ ∀ x ∈ V, NvOk x := by
  have hc : (chk T R).1 = 0 := by rw [hS.chk]
  have e : someT T R t p = match mkT T p 1048578 [t] [] with | some v => (v, 0) | none => ([], 5) := by
    unfold someT
    rw [if_neg (by simp [hc]), if_neg (by omega)]
    generalize mkT T p 1048578 [t] [] = z
    cases z <;> rfl
  cases hm : mkT T p 1048578 [t] [] with
  | none => rw [hm] at e; exact .inl e
  | some V =>
    rw [hm] at e
    obtain ⟨h1, h2, h3, h4⟩ := mkT_ok hS 1048578 [t] [] V (MkI.start h0 h1) hm
    exact .inr ⟨V, e, h4 (by simp), h1, h2⟩
theorem cellsG_set {α : Type} {c : Nat} {f : α → List Value} (hf : ∀ x, (f x).length = c) (l : List α) (i : Nat) (y : α) (hi : i < l.length) (j : Nat) (hj : j < l.length * c) : (cellsG f (l.set i y))[j]? = if i * c ≤ j ∧ j < i * c + c then (f y)[j - i * c]? else (cellsG f l)[j]? := by
  rcases Nat.eq_zero_or_pos c with h0 | h0
  · subst h0; simp at hj
  have hq : j / c < l.length := Nat.div_lt_of_lt_mul (by rw [Nat.mul_comm]; exact hj)
  have hjm : j = j / c * c + j % c := by rw [Nat.mul_comm]; exact (Nat.div_add_mod j c).symm
  have hml := Nat.mod_lt j h0
  by_cases he : j / c = i
  · have hx : (l.set i y)[j / c]? = some y := by rw [he, List.getElem?_set_self hi]
    have h := cellsG_at hf (l.set i y) (j / c) (j % c) y hx hml
    rw [← hjm] at h
    rw [h, if_pos (by rw [← he]; omega)]
    congr 1
    rw [← he]
    omega
  · have hx : (l.set i y)[j / c]? = some (l[j / c]'hq) := by rw [List.getElem?_set_ne (fun h => he h.symm)]; exact List.getElem?_eq_getElem hq
    have h := cellsG_at hf (l.set i y) (j / c) (j % c) _ hx hml
    have h2 := cellsG_at hf l (j / c) (j % c) _ (List.getElem?_eq_getElem hq) hml
    rw [← hjm] at h h2
    rw [h, h2, if_neg]
    intro ⟨h3, h4⟩
    apply he
    refine Nat.div_eq_of_lt_le h3 ?_
    rw [Nat.add_mul, Nat.one_mul]
    exact h4
/-- A node written over in a list of the call's own. -/
theorem NOwn.set3 {w : World} {B g n cap i : Nat} {l : List Nv} (h : NOwn w B (.slice (some ⟨g, 0, none⟩) n cap) l) (hi : i < l.length) (y : Nv) : NOwn (((w.setCell ⟨g, i * 3, none⟩ (.int .i64 y.k)).setCell ⟨g, i * 3 + 1, none⟩ (.int .u64 y.n)).setCell ⟨g, i * 3 + 2, none⟩ (.int .i64 y.kids)) B (.slice (some ⟨g, 0, none⟩) n cap) (l.set i y) := by
  obtain ⟨g', cap', ys, e, hb, hn, hm, hys, ht, hk⟩ := ownS_blk h (by omega)
  injection e with e1 e2 e3
  injection e1 with e1
  injection e1 with e1 _ _
  subst e1 e2 e3
  have hk2 := ((hk.set (i * 3) (.int .i64 y.k)).set (i * 3 + 1) (.int .u64 y.n)).set (i * 3 + 2) (.int .i64 y.kids)
  have h2 := ownS_of_blk (B := B) (n := l.length) (c := 3) (cap := cap) hk2 hb (by simp [hys]) hn hm
  have e4 : (((ys.set (i * 3) (.int .i64 y.k)).set (i * 3 + 1) (.int .u64 y.n)).set (i * 3 + 2) (.int .i64 y.kids)).take (l.length * 3) = cellsG nvc (l.set i y) := by
    apply List.ext_getElem?
    intro j
    by_cases hj : j < l.length * 3
    · rw [cellsG_set nvc_len l i y hi j hj, List.getElem?_take, if_pos hj, ← ht]
      have hjy : j < ys.length := by rw [hys]; have := Nat.mul_le_mul_right 3 hn; omega
      by_cases h0 : j = i * 3
      · subst h0
        rw [if_pos (by omega), List.getElem?_set_ne (by omega), List.getElem?_set_ne (by omega), List.getElem?_set_self hjy]
        simp [nvc]
      · by_cases h1 : j = i * 3 + 1
        · subst h1
          rw [if_pos (by omega), List.getElem?_set_ne (by omega), List.getElem?_set_self (by simpa using hjy)]
          simp [nvc]
        · by_cases h2 : j = i * 3 + 2
          · subst h2
            rw [if_pos (by omega), List.getElem?_set_self (by simpa using hjy)]
            simp [nvc]
          · rw [if_neg (by omega), List.getElem?_set_ne (by omega), List.getElem?_set_ne (by omega), List.getElem?_set_ne (by omega), List.getElem?_take, if_pos hj]
    · rw [List.getElem?_eq_none (by simp; omega), List.getElem?_eq_none (by rw [cellsG_len nvc_len]; simp; omega)]
  unfold NOwn
  rw [List.length_set, ← e4]
  exact h2
theorem NOwn.at3 {w : World} {B g n cap i : Nat} {l : List Nv} {x : Nv} (h : NOwn w B (.slice (some ⟨g, 0, none⟩) n cap) l) (hx : l[i]? = some x) : w.cell? ⟨g, i * 3, none⟩ = some (.int .i64 x.k) ∧ w.cell? ⟨g, i * 3 + 1, none⟩ = some (.int .u64 x.n) ∧ w.cell? ⟨g, i * 3 + 2, none⟩ = some (.int .i64 x.kids) := by
  obtain ⟨a, c, e, -, -, hr⟩ := own_grow nvc_len h
  injection e with e1 _ _
  subst e1
  obtain ⟨b, off, e2, -, hc⟩ := hr.open (by have := (List.getElem?_eq_some_iff.1 hx).1; omega)
  injection e2 with e2
  injection e2 with e3 e4 _
  subst e3 e4
  have h0 := hc i x hx 0 (by decide); have h1 := hc i x hx 1 (by decide); have h2 := hc i x hx 2 (by decide)
  simp only [Nat.zero_add, Nat.add_zero] at h0 h1 h2
  exact ⟨h0, h1, h2⟩
/-- A node's number written over in a list of the call's own. -/
theorem NOwn.setN {w : World} {B g n cap i : Nat} {l : List Nv} {x : Nv} (h : NOwn w B (.slice (some ⟨g, 0, none⟩) n cap) l) (hx : l[i]? = some x) (n' : Int) : NOwn (w.setCell ⟨g, i * 3 + 1, none⟩ (.int .u64 n')) B (.slice (some ⟨g, 0, none⟩) n cap) (l.set i ⟨x.k, n', x.kids⟩) := by
  have hi := (List.getElem?_eq_some_iff.1 hx).1
  obtain ⟨g', cap', ys, e, hb, hn, hm, hys, ht, hk⟩ := ownS_blk h (by omega)
  injection e with e1 e2 e3
  injection e1 with e1
  injection e1 with e1 _ _
  subst e1 e2 e3
  have hk2 := hk.set (i * 3 + 1) (.int .u64 n')
  have h2 := ownS_of_blk (B := B) (n := l.length) (c := 3) (cap := cap) hk2 hb (by simp [hys]) hn hm
  have c0 := cellsG_at nvc_len l i 0 x hx (by decide)
  have c2 := cellsG_at nvc_len l i 2 x hx (by decide)
  have e4 : (ys.set (i * 3 + 1) (.int .u64 n')).take (l.length * 3) = cellsG nvc (l.set i ⟨x.k, n', x.kids⟩) := by
    apply List.ext_getElem?
    intro j
    by_cases hj : j < l.length * 3
    · rw [cellsG_set nvc_len l i _ hi j hj, List.getElem?_take, if_pos hj]
      have hjy : j < ys.length := by rw [hys]; have := Nat.mul_le_mul_right 3 hn; omega
      have hyj : ys[j]? = (cellsG nvc l)[j]? := by rw [← ht, List.getElem?_take, if_pos hj]
      by_cases h1 : j = i * 3 + 1
      · subst h1
        rw [if_pos (by omega), List.getElem?_set_self hjy]
        simp [nvc]
      · rw [List.getElem?_set_ne (by omega), hyj]
        by_cases h0 : j = i * 3
        · subst h0
          rw [if_pos (by omega)]
          simp only [Nat.add_zero] at c0
          rw [c0]
          simp [nvc]
        · by_cases h2 : j = i * 3 + 2
          · subst h2
            rw [if_pos (by omega), c2]
            simp [nvc]
          · rw [if_neg (by omega)]
    · rw [List.getElem?_eq_none (by simp; omega), List.getElem?_eq_none (by rw [cellsG_len nvc_len]; simp; omega)]
  unfold NOwn
  rw [List.length_set, ← e4]
  exact h2
theorem NOwn.fr {w : World} {B g n cap : Nat} {l : List Nv} (h : NOwn w B (.slice (some ⟨g, 0, none⟩) n cap) l) (i : Nat) : w.frozen? ⟨g, i, none⟩ = false := by
  obtain ⟨zs, hz⟩ := ownS_type h (k := g) rfl
  exact hz.frozen i
end Go.Proofs.YtegejchamojfgaaDoor
/- TypingMakes: its walk. -/
namespace Go.Proofs.YtegejchamojfgaaDoor
open Go.RowKit
set_option linter.unusedVariables false

theorem someT_mk {T : List Ty} {R : List Rt} {t : Int} {p : List Int} {V : List Nv} (hS : OkS T R) (h0 : 0 ≤ t) (h1 : t < T.length) (h : someT T R t p = (V, 0)) : mkT T p 1048578 [t] [] = some V := by
  unfold someT at h
  rw [hS.chk, if_neg (by simp), if_neg (by omega)] at h
  cases hm : mkT T p 1048578 [t] [] with
  | none => rw [hm] at h; simp at h
  | some v => rw [hm] at h; simp at h; rw [h]
theorem mk_someT {T : List Ty} {R : List Rt} {t : Int} {p : List Int} {V : List Nv} (hS : OkS T R) (h0 : 0 ≤ t) (h1 : t < T.length) (h : mkT T p 1048578 [t] [] = some V) : someT T R t p = (V, 0) := by
  unfold someT
  rw [hS.chk, if_neg (by simp), if_neg (by omega), h]
theorem wk_fit {T : List Ty} {R : List Rt} {t : Int} {V : List Nv} {nums : List Int} (hS : OkS T R) (h0 : 0 ≤ t) (h1 : t < T.length) (hw : wkT T [t] V 0 = (nums, 0, 0)) (hc : chkV 1 0 V = (0, 0)) : ∀ (i : Nat) (s : Int) (x : Nv), nums[i]? = some s → V[i]? = some x → misP (T.getD s.toNat ty0) x = 0 := by
  have key : ∀ (k : Nat), k ≤ V.length → ∃ st ns, WkI T t V k st ns ∧ ∀ (i : Nat) (s : Int) (x : Nv), ns[i]? = some s → V[i]? = some x → misP (T.getD s.toNat ty0) x = 0 := fun k => by
    induction k with
    | zero => exact fun _ => ⟨[t], [], WkI.start h0 h1 (by rw [hc]), fun i s x hs => by simp at hs⟩
    | succ k ih =>
      intro hk
      obtain ⟨st, ns, hwk, hns⟩ := ih (by omega)
      obtain ⟨s, r, rfl, a0, a1, -, hbad, hgood⟩ := hwk.next hS (List.getElem?_eq_getElem (by omega : k < V.length))
      by_cases hm0 : misP (T.getD s.toNat ty0) (V[k]'(by omega)) = 0
      · refine ⟨_, _, hgood hm0, fun i s' x hs' hx => ?_⟩
        rcases Nat.lt_or_ge i ns.length with hl | hl
        · rw [List.getElem?_append_left hl] at hs'
          exact hns i s' x hs' hx
        · rw [List.getElem?_append_right hl] at hs'
          have hi0 : i - ns.length = 0 := by
            have := (List.getElem?_eq_some_iff.1 hs').1
            simp at this
            omega
          rw [hi0] at hs'
          simp at hs'
          subst hs'
          obtain rfl : i = k := by have := hwk.len; omega
          rw [List.getElem?_eq_getElem (by omega)] at hx
          injection hx with hx
          rw [← hx]
          exact hm0
      · have := hbad hm0
        rw [hw] at this
        simp at this
        exact absurd this.2.1.symm hm0
  obtain ⟨st, ns, hwk, hns⟩ := key V.length (Nat.le_refl _)
  have hd := (hwk.done).2
  rw [hw] at hd
  have e : nums = ns := (Prod.mk.inj hd).1
  rw [e]
  exact hns
set_option maxRecDepth 100000 in
set_option maxHeartbeats 8000000 in
theorem makes_any (aT : Option Addr) (cT : Nat) (T : List Ty) (aR : Option Addr) (cR : Nat) (R : List Rt) (t : Int) (aP : Option Addr) (cP : Nat) (p : List Int) (w : World) (hn : T.length ≤ 1000000000000000) (hm : R.length ≤ 1000000000000000) (hcR : R.length ≤ cR) (hnil : aR = none → cR = 0) (hl : Hid (LensT T)) (hT : Hid (TRow w aT T)) (hRr : Hid (RRow w aR R)) (hpn : p.length ≤ 1000000000000000) (hpc : p.length ≤ cP) (hpnil : aP = none → cP = 0) (hPr : Hid (Row .i64 w aP p)) (ht : Hid (Tab w)) :
    Calls Tryd.prog 6 #[.agg #[.slice aT T.length cT, .slice aR R.length cR], .int .i64 t, .slice aP p.length cP] w fun e w' => e = .returned (.bool true) ∧ Below w.heap.size w w' := by
  obtain ⟨w2, hw2⟩ : ∃ wx, wx = w.alloc (.cells #[.slice aT T.length cT, .slice aR R.length cR] 25) := ⟨_, rfl⟩
  have hB2 : Below w.heap.size w w2 := by rw [hw2]; exact below1 _ _
  have k1 : Blk w2 w.heap.size 25 [.slice aT T.length cT, .slice aR R.length cR] := by rw [hw2]; exact Blk.newA w _ _
  have K1 := hide_ k1
  have HB2 := hide_ hB2
  have HAw := hide_ (awake_any w2 (hide_ (ht.out.later hB2)))
  clear k1 hB2
  go_enter Tryd.func6, Tryd.ntmps6
  go_upto_region 1 with fail
  rw [← hw2]
  clear hw2
  go_wp2_with fail
  refine HAw.out.mono ?_
  rintro e w3 ⟨rfl, hB3⟩
  have HB3 := hide_ (below_to HB2.out hB3)
  have K13 := hide_ (K1.out.later hB3)
  have HMd := hide_ (made_any aT cT T aR cR R t aP cP p w w3 hn hm hcR hnil hl HB3 hT (hide_ (hRr.out.later HB3.out)) hpn hpc hpnil (hide_ (hPr.out.later HB3.out)))
  have i0 := K13.out.cell 0; have i1 := K13.out.cell 1
  simp at i0 i1
  clear hB3 HAw K1
  go_wp2_with fail
  refine HMd.out.mono ?_
  rintro e w4 ⟨a, cap, ar, cr, Q, t', v', ok, rfl, HT4, HQ, HR4, HOk, HB4⟩
  have hlc : (cutT T).length ≤ 120 := by simp [cutT]; omega
  have hlr : (R.take 260).length ≤ 260 := by simp; omega
  have HLs := hide_ (cutT_lens T)
  generalize cutT T = U at *
  generalize R.take 260 = Rc at *
  have HB4x := hide_ (below_to HB3.out HB4.out)
  obtain ⟨w5, hw5⟩ : ∃ wx, wx = w4.alloc (.cells #[.slice a U.length cap, .slice ar Rc.length cr] 25) := ⟨_, rfl⟩
  have b5 : Below w4.heap.size w4 w5 := by rw [hw5]; exact below1 _ _
  have k5 : Blk w5 w4.heap.size 25 [.slice a U.length cap, .slice ar Rc.length cr] := by rw [hw5]; exact Blk.newA w4 _ _
  have K5 := hide_ k5
  have HB5 := hide_ (below_to HB4x.out b5)
  have HT5 := hide_ (town_row (HT4.out.later b5) HQ.out)
  have HR5 := hide_ (rown_row (HR4.out.later b5))
  cases ok with
  | false =>
    go_upto_region 4 with fail
    rw [← hw5]
    clear hw5
    go_wp2
    go_ret
    exact ⟨rfl, HB5.out⟩
  | true =>
    obtain ⟨hS, ht0, ht1, p', hIp, hpl⟩ := HOk.out rfl
    have HS := hide_ hS
    obtain ⟨ap, cp, hv', hrp, -⟩ := own_open (hIp.later b5) rfl
    subst hv'
    have HSm := hide_ (some_any a cap U ar cr Rc t' ap p'.length cp p' w5 (by omega) (by omega) HLs HT5 HR5 (hide_ rfl) (hide_ hrp) (hide_ (ht.out.later HB5.out)))
    clear i0 i1 b5 k5 hIp hrp HOk hS
    have i0 := K5.out.cell 0; have i1 := K5.out.cell 1
    simp at i0 i1
    go_upto_region 4 with fail
    rw [← hw5]
    clear hw5
    go_wp2_with fail
    refine HSm.out.mono ?_
    rintro e w6 ⟨v6, rfl, HN6, HB6⟩
    have HB6x := hide_ (below_to HB5.out HB6.out)
    rcases someT_ok (p := p') HS.out ht0 ht1 with h5 | ⟨V, hV, hV0, hV1, hVk⟩
    · have h52 : (someT U Rc t' p').2 = 5 := by rw [h5]
      simp only [h52]
      go_wp2_with (go_at_call 11; refine (num_any _ _).mono ?_; rintro e w' ⟨rfl, rfl⟩)
      all_goals
        go_ret
        exact ⟨rfl, HB6x.out⟩
    · have h02 : (someT U Rc t' p').2 = 0 := by rw [hV]
      rw [hV] at HN6
      simp only at HN6
      simp only [h02]
      have hmk := someT_mk HS.out ht0 ht1 hV
      obtain ⟨nums, hwk, hck, hnl, hhd, hin, hback⟩ := some_back HS.out ht0 ht1 hmk
      have hty : tyV U Rc t' V = (nums, 0, 0) := by
        unfold tyV
        rw [HS.out.chk, if_neg (by simp), if_neg (by omega), hck, if_neg (by simp), hwk]
      have HTy := hide_ hty
      have HBk := hide_ (mk_someT HS.out ht0 ht1 (hback (picksL U nums V) (picksL_len hnl) (fun i s x hs hx => picksL_at hs hx)))
      have HFit := hide_ (wk_fit HS.out ht0 ht1 hwk hck)
      have HHd := hide_ (hhd (fun e => by rw [e] at hV0; simp at hV0))
      have HNl := hide_ hnl
      have HIn := hide_ hin
      have HVk := hide_ hVk
      obtain ⟨gV, c6, ys, hv6, hbg, hnc, -, -, -, -⟩ := ownS_blk HN6.out hV0
      subst hv6
      have HVr6 : Hid (VRow w6 (some ⟨gV, 0, none⟩) V) := hide_ (by
        obtain ⟨a', c', e, -, -, hr⟩ := own_grow nvc_len HN6.out
        injection e with e1 _ _
        subst e1
        exact hr)
      obtain ⟨bT, oT, eT, -, -⟩ := HT5.out.open (by omega)
      subst eT
      have hVz : ((V.length : Int) == 0) = false := by simp; intro h; rw [h] at hV0; simp at hV0
      clear hV hmk hwk hck hnl hhd hin hback hty hVk HSm HMd ys hbg hnc h02
      have HB56 := hide_ HB6.out
      have K56 := hide_ (K5.out.later HB6.out)
      have HAll : Hid (∀ w', Below w6.heap.size w6 w' → TRow w' (some ⟨bT, oT, none⟩) U ∧ RRow w' ar Rc ∧ VRow w' (some ⟨gV, 0, none⟩) V ∧ Tab w' ∧ Blk w' w4.heap.size 25 [.slice (some ⟨bT, oT, none⟩) U.length cap, .slice ar Rc.length cr]) := hide_ (fun w' hB' => ⟨HT5.out.later (below_to HB6.out hB'), HR5.out.later (below_to HB6.out hB'), HVr6.out.later hB', ht.out.later (below_to HB6x.out hB'), K56.out.later hB'⟩)
      clear i0 i1
      have hA6 := HAll.out w6 (Below.refl _ _)
      have HTp := hide_ (types_any (some ⟨bT, oT, none⟩) cap U ar cr Rc t' (some ⟨gV, 0, none⟩) c6 V w6 (by omega) (by omega) (by omega) HLs (hide_ hA6.1) (hide_ hA6.2.1) (hide_ hA6.2.2.1) (hide_ hA6.2.2.2.1))
      rw [HTy.out] at HTp
      have i0 := hA6.2.2.2.2.cell 0; have i1 := hA6.2.2.2.2.cell 1
      simp at i0 i1
      clear hA6
      go_wp2_with (go_at_call 11; refine (num_any _ _).mono ?_; rintro e w' ⟨rfl, rfl⟩)
      refine HTp.out.mono ?_
      rintro e w7 ⟨vl, rfl, HL7, HB7⟩
      simp only at HL7 ⊢
      clear i0 i1 HTp
      obtain ⟨gL, cL, ys, hvl, -, -, -, -, -, -⟩ := ownS_blk HL7.out (by have := HNl.out; omega)
      rw [HNl.out] at hvl
      subst hvl
      clear ys
      obtain ⟨w8, hw8⟩ : ∃ wx, wx = w7.alloc (.cells #[.int .i64 0, .int .i64 0] 40) := ⟨_, rfl⟩
      have b8 : Below w7.heap.size w7 w8 := by rw [hw8]; exact below1 _ _
      have k8 : Blk w8 w7.heap.size 40 [.int .i64 0, .int .i64 0] := by rw [hw8]; exact Blk.newA w7 _ _
      have HB68 := hide_ (below_to HB7.out b8)
      have KF := hide_ k8
      have HL8 := hide_ (HL7.out.later b8)
      have hA8 := HAll.out w8 HB68.out
      have HCk := hide_ (tcheck_any (some ⟨bT, oT, none⟩) cap U ar cr Rc t' (some ⟨gV, 0, none⟩) c6 V w8 (by omega) (by omega) (by omega) HLs (hide_ hA8.1) (hide_ hA8.2.1) (hide_ hA8.2.2.1) (hide_ hA8.2.2.2.1))
      rw [HTy.out] at HCk
      have i0 := hA8.2.2.2.2.cell 0; have i1 := hA8.2.2.2.2.cell 1
      simp at i0 i1
      clear b8 k8 hA8
      go_upto_region 10 with fail
      rw [← hw8]
      clear hw8
      go_wp2_with fail
      refine HCk.out.mono ?_
      rintro e w9 ⟨rfl, hB9⟩
      simp only
      have HB69 := hide_ (below_to HB68.out hB9)
      have HKF9 := KF.out.later hB9
      have n0 := HKF9.cell 0; have n1 := HKF9.cell 1
      have hL9 := (HL8.out.later hB9).at (i := 0) (by have := HNl.out; omega)
      rw [show nums.getD 0 0 = t' by
        have h := HHd.out
        cases hn0 : nums with
        | nil => rw [hn0] at h; simp at h
        | cons y l => rw [hn0] at h; simp at h; simp [List.getD, h]] at hL9
      have hA9 := HAll.out w9 HB69.out
      clear i0 i1
      have i0 := hA9.2.2.2.2.cell 0; have i1 := hA9.2.2.2.2.cell 1
      simp at i0 i1 n0 n1
      have hV0' : (0 : Int) < (V.length : Int) := by omega
      have HPk : Hid (∀ w', Below w9.heap.size w9 w' → Calls Tryd.prog 26 #[.agg #[.slice (some ⟨bT, oT, none⟩) U.length cap, .slice ar Rc.length cr], .int .i64 t', .slice (some ⟨gV, 0, none⟩) V.length c6] w' fun e w'' => ∃ v, e = .returned v ∧ Hid (IOwn w'' w'.heap.size v (picksL U nums V)) ∧ Hid (Below w'.heap.size w' w'')) := hide_ (fun w' hB' => by
        have hA := HAll.out w' (below_to HB69.out hB')
        exact picks_any bT oT cap U ar cr Rc t' gV 0 c6 V w' nums (by omega) (by omega) hV0 (by omega) HS HLs (hide_ hA.1) (hide_ hA.2.1) (hide_ hA.2.2.1) HVk HTy HNl HIn HFit)
      have HSo : Hid (∀ w' (ap2 : Option Addr) (cp2 : Nat), Below w9.heap.size w9 w' → Row .i64 w' ap2 (picksL U nums V) → Calls Tryd.prog 10 #[.agg #[.slice (some ⟨bT, oT, none⟩) U.length cap, .slice ar Rc.length cr], .int .i64 t', .slice ap2 (picksL U nums V).length cp2] w' fun e w'' => ∃ v', e = .returned (.tuple #[v', .int .i64 0]) ∧ Hid (NOwn w'' w'.heap.size v' V) ∧ Hid (Below w'.heap.size w' w'')) := hide_ (fun w' ap2 cp2 hB' hr => by
        have hA := HAll.out w' (below_to HB69.out hB')
        have h := some_any (some ⟨bT, oT, none⟩) cap U ar cr Rc t' ap2 (picksL U nums V).length cp2 (picksL U nums V) w' (by omega) (by omega) HLs (hide_ hA.1) (hide_ hA.2.1) (hide_ rfl) (hide_ hr) (hide_ hA.2.2.2.1)
        rw [HBk.out] at h
        exact h)
      have HSS : Hid (∀ w', Below w9.heap.size w9 w' → Below w9.heap.size w9 w' ∧ w'.cell? ⟨w4.heap.size, 0, none⟩ = some (.slice (some ⟨bT, oT, none⟩) U.length cap) ∧ w'.cell? ⟨w4.heap.size, 1, none⟩ = some (.slice ar Rc.length cr)) := hide_ (fun w' hB' => ⟨hB', (HAll.out w' (below_to HB69.out hB')).2.2.2.2.cell 0, (HAll.out w' (below_to HB69.out hB')).2.2.2.2.cell 1⟩)
      clear hA9 HKF9 hB9 HCk
      go_upto_region 12 with fail
      clear i0 i1 n0 n1 hL9
      refine wp_region_last 11 (fun w' => Below w9.heap.size w9 w' ∧ w'.cell? ⟨w4.heap.size, 0, none⟩ = some (.slice (some ⟨bT, oT, none⟩) U.length cap) ∧ w'.cell? ⟨w4.heap.size, 1, none⟩ = some (.slice ar Rc.length cr)) (by kernel_rfl) (HSS.out _ ((Below.refl w9.heap.size w9).drew)) (fun hHeld => ?_)
      refine wpAnyF_take [11] (by kernel_rfl) (i := 0) (v := ?vm1) rfl (by kernel_rfl) (by kernel_rfl) (by kernel_rfl) (fun _ _ _ h => h) (Or.inl ⟨by kernel_rfl, ?hym1⟩) hHeld ?restm1
      case hym1 => intro w' hSw; (try dsimp only at hSw); go_simp; try with_reducible rfl
      simp only [Act.put]
      refine wpAnyF_take [11] (by kernel_rfl) (i := 1) (v := ?vm2) rfl (by kernel_rfl) (by kernel_rfl) (by kernel_rfl) (fun _ _ _ h => h) (Or.inl ⟨by kernel_rfl, ?hym2⟩) hHeld ?restm2
      case hym2 => intro w' hSw; (try dsimp only at hSw); go_simp; try with_reducible rfl
      simp only [Act.put]
      refine wpAnyF_take [11] (by kernel_rfl) (i := 2) (v := ?vm3) rfl (by kernel_rfl) (by kernel_rfl) (by kernel_rfl) (fun _ _ _ h => h) (Or.inl ⟨by kernel_rfl, ?hym3⟩) hHeld ?restm3
      case hym3 => intro w' hSw; (try dsimp only at hSw); go_simp; try with_reducible rfl
      simp only [Act.put]
      refine wpAnyF_take [11] (by kernel_rfl) (i := 3) (v := ?vm4) rfl (by kernel_rfl) (by kernel_rfl) (by kernel_rfl) (fun _ _ _ h => h) (Or.inl ⟨by kernel_rfl, ?hym4⟩) hHeld ?restm4
      case hym4 => intro w' hSw; (try dsimp only at hSw); go_simp; try with_reducible rfl
      simp only [Act.put]
      refine wpAnyF_take [11] (by kernel_rfl) (i := 4) (v := ?vm5) rfl (by kernel_rfl) (by kernel_rfl) (by kernel_rfl) (fun _ _ _ h => h) (Or.inl ⟨by kernel_rfl, ?hym5⟩) hHeld ?restm5
      case hym5 => intro w' hSw; (try dsimp only at hSw); go_simp; try with_reducible rfl
      simp only [Act.put]
      refine wpAnyF_ready (rs := [5]) (by kernel_rfl) (by simp) ?_
      refine AllReadyF.cons rfl (fun K hK => ?_) AllReadyF.nil
      go_simp
      refine (HPk.out _ ((Below.refl w9.heap.size w9).drew)).mono ?_
      rintro e w10 ⟨vp, rfl, HIp, HB10⟩
      dsimp only
      have HB10x := hide_ (below_to ((Below.refl w9.heap.size w9).drew) HB10.out)
      obtain ⟨ap2, cp2, hvp, hrow2, -⟩ := own_open HIp.out rfl
      subst hvp
      have HRow2 := hide_ hrow2
      clear hrow2
      refine hK.out _ _ (HSS.out _ HB10x.out) (fun hHeld => ?_)
      clear hK K
      refine wpAnyF_ready (rs := [6]) (by kernel_rfl) (by simp) ?_
      refine AllReadyF.cons rfl (fun K hK => ?_) AllReadyF.nil
      go_simp
      refine (HSo.out _ ap2 cp2 HB10x.out HRow2.out).mono ?_
      rintro e w11 ⟨v11, rfl, HN11, HB11⟩
      dsimp only
      have HB11x := hide_ (below_to HB10x.out HB11.out)
      refine hK.out _ _ (HSS.out _ HB11x.out) (fun hHeld => ?_)
      clear hK K
      refine wpAnyF_take [11] (by kernel_rfl) (i := 7) (v := ?vm6) rfl (by kernel_rfl) (by kernel_rfl) (by kernel_rfl) (fun _ _ _ h => h) (Or.inl ⟨by kernel_rfl, ?hym6⟩) hHeld ?restm6
      case hym6 => intro w' hSw; (try dsimp only at hSw); go_simp; try with_reducible rfl
      simp only [Act.put]
      refine wpAnyF_take [11] (by kernel_rfl) (i := 8) (v := ?vm7) rfl (by kernel_rfl) (by kernel_rfl) (by kernel_rfl) (fun _ _ _ h => h) (Or.inl ⟨by kernel_rfl, ?hym7⟩) hHeld ?restm7
      case hym7 => intro w' hSw; (try dsimp only at hSw); go_simp; try with_reducible rfl
      simp only [Act.put]
      refine wpAnyF_take [11] (by kernel_rfl) (i := 9) (v := ?vm8) rfl (by kernel_rfl) (by kernel_rfl) (by kernel_rfl) (fun _ _ _ h => h) (Or.inl ⟨by kernel_rfl, ?hym8⟩) hHeld ?restm8
      case hym8 => intro w' hSw; (try dsimp only at hSw); go_simp; try with_reducible rfl
      simp only [Act.put]
      refine wpAnyF_take [11] (by kernel_rfl) (i := 10) (v := ?vm9) rfl (by kernel_rfl) (by kernel_rfl) (by kernel_rfl) (fun _ _ _ h => h) (Or.inl ⟨by kernel_rfl, ?hym9⟩) hHeld ?restm9
      case hym9 => intro w' hSw; (try dsimp only at hSw); go_simp; try with_reducible rfl
      simp only [Act.put]
      refine wpAnyF_ready (rs := [11]) (by kernel_rfl) (by simp) ?_
      refine AllReadyF.last rfl (fun K hK => ?_)
      go_simp
      refine hK.out _ _ ?_
      clear hK K
      refine wpAnyF_done (by kernel_rfl) ?_ _
      clear HPk HSo HSS hHeld
      obtain ⟨a11, c11, e11, -, -, hr11⟩ := own_grow nvc_len HN11.out
      subst e11
      have HEq := hide_ (equal_yes (some ⟨gV, 0, none⟩) a11 c6 c11 V.length V w11 (hide_ rfl) (by omega) (hide_ (HAll.out w11 (below_to HB69.out HB11x.out)).2.2.1) (hide_ hr11))
      clear hr11
      go_wp2_with (go_at_call 11; refine (num_any _ _).mono ?_; rintro e w' ⟨rfl, rfl⟩)
      refine HEq.out.mono ?_
      rintro e w12 ⟨rfl, hB12⟩
      have HBf := hide_ (below_to HB6x.out (below_to HB69.out (below_to HB11x.out hB12)))
      clear hB12
      go_wp2
      go_ret
      exact ⟨rfl, HBf.out⟩
end Go.Proofs.YtegejchamojfgaaDoor
/- TypingMakes, out of its walk. The frame round the walk is that of the tool proof-skeleton. -/
namespace Go.Proofs.YtegejchamojfgaaDoor.typingMakes
open Go.ChangeMaps Go.ChangeShapes Go.WideShapes Go.ChangeAt Go.RowKit
set_option linter.unusedVariables false

theorem own : ownKnob Tryd.prog.godebug = none := by kernel_rfl
theorem laidOut : laidOutB Tryd.prog = true := by kernel_rfl
theorem cellsI : Tryd.prog.cellsOf 3 = 1 := by kernel_rfl
theorem bytesI : Tryd.prog.bytesOf 3 = 8 := by kernel_rfl
theorem cellsNd : Tryd.prog.cellsOf 29 = 3 := by kernel_rfl
theorem gK : Tryd.prog.globalNamed "mortise/typing.nodeKinds" = some 0 := by kernel_rfl
theorem gKT : (Tryd.prog.globals[0]?).map (·.type) = some 85 := by kernel_rfl
theorem cellsK : Tryd.prog.cellsOf 85 = 9 := by kernel_rfl
theorem laid_k : (Rows.laid_mortise_typing_nodeKinds : DataW Unit) = Lib.tabData .i64 nkT := by kernel_rfl
theorem tab_of {W : World} (h : laidMetH Tryd.prog Rows.typingMakesRow.laid W) : Tab W := by
  have h1 : laidMet Tryd.prog [("mortise/typing.nodeKinds", Rows.laid_mortise_typing_nodeKinds)] W := h
  rw [laid_k] at h1
  have h3 := Lib.tabIs_of_head (e := 3) gK gKT (by kernel_rfl) (by kernel_rfl) (by kernel_rfl) cellsK h1
  exact ⟨World.block_lt_of_cell? W _ (h3.cell gK 0 (by decide)), fun i hi => h3.cell gK i (by simpa [nkT] using hi)⟩
/-- The settled world w, the table (block 0) holding what its initialiser lays. -/
def laidIn (w : World) : World :=
  { w with heap := w.heap.modify 0 fun
      | .cells _ t frozen => .cells (nkT.map fun z => Value.int .i64 z).toArray t frozen
      | o => o }
theorem bound8 {cap : Nat} {l : List Nat} (h : cap = 0 ∨ cap * Tryd.prog.bytesOf 3 ∈ l) (hl : ∀ n ∈ l, n ≤ 140737488351232) : cap ≤ 17592186043904 := by
  rcases h with h | h
  · omega
  · have := hl _ h
    rw [bytesI] at this
    omega
set_option maxRecDepth 100000 in
theorem contract (H : Type) (enc : TypeId × Value → H) (W : World) (base : Nat) (args : Array Value) (ds gs : List (DataW H)) (before : List MemPlace)
    (hval : ∀ (j : Nat) t v, Tryd.f6.params[j]? = some t → args[j]? = some v → Value.okWide Tryd.prog W .any base t v)
    (hW : DataW.Whole enc Tryd.prog Tryd.f6.params.toList Rows.typingMakesSpec.vars false W args.toList ds gs before) (hsz0 : (DataW.weightsEach Tryd.prog (Tryd.f6.params.toList ++ Rows.typingMakesSpec.plain.varTypes Tryd.prog) (ds ++ gs)).all (· ≤ reachBytes) = true) (hL : laidMetH Tryd.prog Rows.typingMakesRow.laid W) :
    Calls Tryd.prog 6 args W fun e W' => ∃ v, e = .returned v ∧ Rows.typingMakesSpec.post enc Tryd.prog Tryd.f6 false true false false W args v W' := by
  have hsz := hsz0
  have hW' := hW
  obtain ⟨p, q, hA0, hV, rfl, hfz, hnd⟩ := hW
  have hA : DataW.TrodAll enc Tryd.prog W 0 (fun _ => true) true Tryd.f6.params.toList args.toList ds p := hA0
  rw [Tryd.params6] at hA hval hsz
  obtain ⟨v0, vs0, d0, ds0, p0, q0, hargs, rfl, rfl, h0, r0⟩ := trodAll_cons hA
  obtain ⟨v1, vs1, d1, ds1, p1, q1, rfl, rfl, rfl, h1, r1⟩ := trodAll_cons r0
  obtain ⟨v2, vs2, d2, ds2, p2, q2, rfl, rfl, rfl, h2, r2⟩ := trodAll_cons r1
  obtain ⟨rfl, rfl, rfl⟩ := trodAll_nil r2
  obtain rfl : args = #[v0, v1, v2] := by cases args; simp_all
  obtain ⟨rfl, rfl⟩ := trodVars_none hV
  obtain ⟨cs0, rfl, _⟩ := okWide_struct Tryd.underlying25 (hval 0 25 v0 rfl rfl)
  obtain ⟨a2, len2, cap2, rfl⟩ := okWide_slice Tryd.underlying26 (hval 2 26 v2 rfl rfl)
  obtain ⟨n1, rfl, rfl, rfl, w1⟩ := open_int Tryd.underlying3 (hval 1 3 v1 rfl rfl) h1
  have k0 := h0
  have lt0 : ∀ x ∈ p0, x.block < W.heap.size := by obtain ⟨m, hm⟩ := k0; exact DataW.trod_lt m _ _ _ hm
  have k2 := h2
  have lt2 : ∀ x ∈ p2, x.block < W.heap.size := by obtain ⟨m, hm⟩ := k2; exact DataW.trod_lt m _ _ _ hm
  have walk : Calls Tryd.prog 6 #[.agg cs0, .int .i64 n1, .slice a2 len2 cap2] W fun e w' => e = .returned (.bool true) ∧ Below W.heap.size W w' := by
    obtain ⟨f0, hf0⟩ := h0
    obtain ⟨f2, hf2⟩ := h2
    have reach : ∀ (n : Nat), decide (n ≤ reachBytes) = true → n ≤ 140737488351232 := fun n hm => by
      have hm2 : n ≤ reachBytes := of_decide_eq_true hm
      rw [show reachBytes = 140737488351232 from rfl] at hm2
      exact hm2
    obtain ⟨b2, m2, c2, l2, e2, hnc2, hcm2, hl2, hrow2, hnil2, -, hw2⟩ := row_weigh Tryd.underlying26 Tryd.underlying3 cellsI hf2
    injection e2 with e21 e22 e23
    subst e21 e22 e23
    have hc2 := bound8 hw2 (fun n hn => reach n (List.all_eq_true.1 hsz _ (DataW.weights_mem_each (j := 2) rfl rfl _ hn)))
    obtain ⟨a, cap, T, ar, cr, R, hcs, htc, htn, hT, hWt, hrc, hrn, hR, hRl⟩ := schema_open hf0 (fun n hn => reach n (List.all_eq_true.1 hsz _ (DataW.weights_mem_each (j := 0) rfl rfl _ hn)))
    have e0 : cs0 = #[.slice a T.length cap, .slice ar R.length cr] := Array.toList_inj.1 hcs
    subst e0
    subst hl2
    have h1t := hWt.1
    exact makes_any a cap T ar cr R n1 a2 cap2 l2 W (by omega) (by omega) hrc hrn (hide_ hWt.lens) (hide_ hT) (hide_ hR) (by omega) hnc2 hnil2 (hide_ hrow2) (hide_ (tab_of hL))
  clear hA0
  refine walk.mono fun e W' ⟨he, bel⟩ => ?_
  subst he
  exact ⟨_, rfl, _, _, _, [], _, [], hW', trodAll_mk1 (shut_bool Tryd.underlying4 _), (trodAll_cons_mk (Below.trod laidOut (by kernel_rfl) (of_decide_eq_true (by kernel_rfl)) k0 bel lt0) (trodAll_cons_mk (shut_int Tryd.underlying3 w1) (trodAll_cons_mk (Below.trod laidOut (by kernel_rfl) (of_decide_eq_true (by kernel_rfl)) k2 bel lt2) trodAll_mk0))), rfl, bel.frame _, fun h => by cases h⟩

def wit : Array Value := #[.agg #[.slice none 0 0, .slice none 0 0], .int .i64 0, .slice none 0 0]
theorem laid_met (os : Os) : laidMet Tryd.prog Rows.typingMakesRow.laid ((laidIn (World.holding Tryd.prog os ⟨#[], #[], []⟩)).forCall (fun _ _ => 0) ⟨#[], wit, []⟩).memory :=
  laidMet_of_run' 8 (by kernel_rfl) (by kernel_rfl)
theorem reads (os : Os) {H : Type} (enc : TypeId × Value → H) : ∃ ds places, DataW.whole enc Tryd.prog ((laidIn (World.holding Tryd.prog os ⟨#[], #[], []⟩)).forCall (fun _ _ => 0) ⟨#[], wit, []⟩).memory Tryd.f6.params.toList Rows.typingMakesSpec.vars false wit.toList 8 = some (ds, [], places) :=
  ⟨[.agg [.nil, .nil], .lit (.int .i64 0), .nil], [], by kernel_rfl⟩

set_option maxRecDepth 100000 in
theorem lifted (os : Os) (started : os.Started) (H : Type) (enc : TypeId × Value → H) (F : Stop.Interp) :
    ReturnsInHanded {} Tryd.checked os 6 .any ((OpenSpec.ofChange Rows.typingMakesSpec).preRow enc Tryd.prog Tryd.f6 Rows.typingMakesRow.domain false Rows.typingMakesRow.laid) (((OpenSpec.ofChange Rows.typingMakesSpec).at F).post enc Tryd.prog Tryd.f6 false true false false) := by
  obtain ⟨ds, places, hx⟩ := reads os enc
  refine returnsInHanded_of_row (C := Tryd.checked) (s := OpenSpec.ofChange Rows.typingMakesSpec) own started (by kernel_rfl) Tryd.func6
    (witness_row_at (enc := enc) (C := Tryd.checked) false (laidIn (World.holding Tryd.prog os ⟨#[], #[], []⟩)) wit rfl (by kernel_rfl) (by kernel_rfl) (by kernel_rfl)
      (OpenSpec.preRow_of_cond 8 hx (by kernel_rfl) (fun k hk => by cases hk) (by kernel_rfl) (laid_met os))) ?_
  intro W base args ds gs before hval hW _ _ hsz hL _ _
  exact contract H enc W base args ds gs before hval hW hsz hL

theorem said : Rows.TypingMakesSaid :=
  OpenClaim.holds_of_cond 6 Tryd.f6 rfl rfl rfl rfl rfl rfl rfl ⟨rfl, rfl, rfl, rfl, rfl⟩ rfl rfl rfl rfl rfl (by kernel_rfl) Tryd.func6 (by kernel_rfl)
    (of_decide_eq_true (by kernel_rfl)) (by unfold Func.isWrapper; first | (rw [if_pos (by decide +kernel)]; kernel_rfl) | (rw [if_neg (by decide +kernel)]; exact ⟨rfl, rfl⟩))
    (fun os started H enc _ F => by rw [OpenClaim.pre_eq_preRow]; exact lifted os started H enc F)

theorem plain (f : FuncId) (fn : Func) (hf : Tryd.pinned.checked.prog.funcNamed "mortise/mortiselaw11.TypingMakes" = some f) (hfn : Tryd.pinned.checked.prog.funcs[f]? = some fn) :
    false = Tryd.pinned.checked.prog.looks [] ∧ ∀ (j : Nat) t, fn.params[j]? = some t → Tryd.pinned.checked.prog.wantsStandIn t = false := by
  obtain rfl : f = 6 := Option.some.inj ((show Tryd.prog.funcNamed "mortise/mortiselaw11.TypingMakes" = some 6 by kernel_rfl).symm.trans hf) |>.symm
  obtain rfl : fn = Tryd.f6 := (Option.some.inj (Tryd.func6.symm.trans hfn)).symm
  refine ⟨by kernel_rfl, fun j t ht => ?_⟩
  rw [Tryd.params6] at ht
  have hm := Array.mem_of_getElem? ht
  simp only [List.mem_toArray, List.mem_cons, List.not_mem_nil, or_false] at hm
  rcases hm with rfl | rfl | rfl <;> (show Tryd.prog.wantsStandIn _ = false; kernel_rfl)

theorem card : Rows.TypingMakesCardSaid :=
  Claim7.holds_tied_plain_at .later [] _ _ _ _ said (fun _ h => by cases h) (by kernel_rfl) (fun _ h => by cases h) typingMakes_row_tie rfl ⟨rfl, rfl⟩ (by kernel_rfl) rfl plain (by kernel_rfl)
end Go.Proofs.YtegejchamojfgaaDoor.typingMakes
namespace Go.Proofs.YtegejchamojfgaaDoor
theorem typingMakes_holds : Rows.TypingMakesCardSaid := typingMakes.card
#print axioms typingMakes_holds
end Go.Proofs.YtegejchamojfgaaDoor
