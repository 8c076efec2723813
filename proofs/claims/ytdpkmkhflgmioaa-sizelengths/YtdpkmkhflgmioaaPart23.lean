import Derived.Test.YtdpkmkhflgmioaaPart22
import Derived.Test.YtdpkmkhflgmioaaPart17
import Derived.Test.YtdpkmkhflgmioaaPart14
import Derived.Deep.CutBlock

/- The document's Leb and Walk.length. -/
namespace Go.Proofs.Ytdpkmkhflgmioaa
open Go.RowKit
set_option linter.unusedVariables false

def lebN (m : Nat) : Nat := max 1 ((Lib.bitLen m + 6) / 7)
theorem leb_low {m : Nat} (h : m < 128) : lebN m = 1 := by
  have := Lib.bitLen_le m 7 (by decide) (by simpa using h)
  unfold lebN
  omega
theorem leb_step {m : Nat} (h : 128 ≤ m) (h2 : m < 18446744073709551616) : lebN m = 1 + lebN (m / 128) := by
  have h1 := Lib.bitLen_shift 7 m (by simpa using h) h2
  have h3 := Lib.bitLen_half (m / 128) (by omega) (by omega)
  rw [show (2 : Nat) ^ 7 = 128 from rfl] at h1
  unfold lebN
  rw [h1]
  omega
theorem leb_le {m : Nat} (h : m < 18446744073709551616) : lebN m ≤ 10 := by
  have := bitLen_64 m h
  unfold lebN
  omega
theorem leb_pos (m : Nat) : 1 ≤ lebN m := by unfold lebN; omega
set_option maxRecDepth 100000 in
set_option maxHeartbeats 4000000 in
theorem leb_any (m : Nat) (w : World) (h1 : m < 18446744073709551616) : Calls Try.prog 80 #[.int .u64 (m : Int)] w fun e w' => e = .returned (.int .i64 ((lebN m : Nat) : Int)) ∧ w = w' := by
  obtain ⟨N, hN⟩ : ∃ N, lebN m = N := ⟨_, rfl⟩
  have hN10 := leb_le h1
  rw [hN] at hN10 ⊢
  have HN := hide_ hN
  clear hN
  go_enter Try.func80, Try.ntmps80
  go_wp2_with fail
  go_loopw [0, 3] (fun x0 x3 wr => ∃ q k : Nat, x0 = .int .u64 (q : Int) ∧ x3 = .int .i64 (k : Int) ∧ q < 18446744073709551616 ∧ Hid (k + lebN q = N + 1) ∧ w = wr) (fun x0 _ _ => (intOf x0).toNat)
  case atStart => exact ⟨m, 1, rfl, rfl, h1, hide_ (by rw [HN.out]; omega), rfl⟩
  case round =>
    obtain ⟨q, k, rfl, rfl, hq, HK, rfl⟩ := hrel
    have hk10 : k ≤ 10 := by have := leb_pos q; have := HK.out; omega
    by_cases hlt : 128 ≤ q
    · have hlt' : (128 : Int) ≤ (q : Int) := by omega
      have hst := leb_step hlt hq
      have HK2 : Hid (k + 1 + lebN (q / 128) = N + 1) := hide_ (by have := HK.out; omega)
      have hdv : (q : Int) / 128 = ((q / 128 : Nat) : Int) := by omega
      have hdl : q / 128 < q := by omega
      obtain ⟨q', hq'⟩ : ∃ q', q / 128 = q' := ⟨_, rfl⟩
      rw [hq'] at HK2 hdv hdl
      clear hst HK hq' HN
      go_wp2_with fail
      go_roundw
      case rel => exact ⟨q', k + 1, by go_num, by go_num, by omega, HK2, by first | rfl | trivial⟩
      case measure => simp [intOf]; omega
    · have hlt' : ¬ (128 : Int) ≤ (q : Int) := by omega
      have hk : k = N := by have := HK.out; rw [leb_low (by omega)] at this; omega
      go_wp2
      go_ret
      exact ⟨by first | rfl | rw [hk], rfl⟩
/-! ### What is written -/
def spl (M : List Int) (i : Nat) (tl : List Int) : List Int := M.take i ++ (tl ++ M.drop (i + tl.length))
theorem spl_at {M : List Int} {i : Nat} {tl : List Int} (h : i + tl.length ≤ M.length) (j : Nat) : (spl M i tl)[j]? = if j < i then M[j]? else if j < i + tl.length then tl[j - i]? else M[j]? := by
  have hl : (M.take i).length = i := by simp; omega
  unfold spl
  by_cases h1 : j < i
  · rw [if_pos h1, List.getElem?_append_left (by omega), List.getElem?_take, if_pos h1]
  · rw [if_neg h1, List.getElem?_append_right (by omega), hl]
    by_cases h2 : j < i + tl.length
    · rw [if_pos h2, List.getElem?_append_left (by omega)]
    · rw [if_neg h2, List.getElem?_append_right (by omega), List.getElem?_drop]
      congr 1
      omega
theorem spl_len {M : List Int} {i : Nat} {tl : List Int} (h : i + tl.length ≤ M.length) : (spl M i tl).length = M.length := by
  unfold spl
  simp
  omega
theorem spl_nil (M : List Int) (i : Nat) : spl M i [] = M := by simp [spl]
theorem spl_app {M : List Int} {i : Nat} {a b : List Int} (h : i + a.length + b.length ≤ M.length) : spl (spl M i a) (i + a.length) b = spl M i (a ++ b) := by
  refine List.ext_getElem? (fun j => ?_)
  rw [spl_at (by rw [spl_len (by omega)]; omega), spl_at (by omega), spl_at (by simp; omega)]
  simp only [List.length_append]
  by_cases h1 : j < i
  · rw [if_pos (by omega), if_pos h1, if_pos h1]
  · rw [if_neg h1, if_neg h1]
    by_cases h2 : j < i + a.length
    · rw [if_pos h2, if_pos h2, if_pos (by omega), List.getElem?_append_left (by omega)]
    · rw [if_neg h2, if_neg h2]
      by_cases h3 : j < i + a.length + b.length
      · rw [if_pos h3, if_pos (by omega), List.getElem?_append_right (by omega)]
        congr 1
        omega
      · rw [if_neg h3, if_neg (by omega)]
theorem spl_set {M : List Int} {i : Nat} {a : List Int} {n : Int} (h : i + 1 + a.length ≤ M.length) : (spl M (i + 1) a).set i n = spl M i (n :: a) := by
  refine List.ext_getElem? (fun j => ?_)
  rw [List.getElem?_set, spl_at (by omega), spl_at (by simp; omega), spl_len (by omega)]
  simp only [List.length_cons]
  by_cases h0 : i = j
  · subst h0
    rw [if_pos rfl, if_pos (by omega), if_neg (by omega), if_pos (by omega)]
    simp
  · rw [if_neg h0]
    by_cases h1 : j < i
    · rw [if_pos (by omega), if_pos h1]
    · rw [if_neg (by omega), if_neg h1]
      by_cases h2 : j < i + 1 + a.length
      · rw [if_pos h2, if_pos (by omega)]
        obtain ⟨d, hd⟩ : ∃ d, j - i = d + 1 := ⟨j - i - 1, by omega⟩
        rw [hd, List.getElem?_cons_succ]
        congr 1
        omega
      · rw [if_neg h2, if_neg (by omega)]
/-! ### Tails -/
theorem kidsP_tail {g : Nat → List Int → Option (Int × List Int)} {X : List Ex} {x : Nv} {t : Ty} (hg : ∀ num L r, g num L = some r → ∃ tl, r.2 = L ++ tl) : ∀ (m : Nat) (s r : Int × List Int), kidsP g X x t m s = some r → ∃ tl, r.2 = s.2 ++ tl
  | 0, s, r, h => by
    simp only [kidsP] at h
    injection h with h
    subst h
    exact ⟨[], by simp⟩
  | m + 1, s, r, h => by
    simp only [kidsP, Option.bind_eq_some_iff] at h
    obtain ⟨q, h1, z, h2, h3⟩ := h
    obtain ⟨t1, e1⟩ := kidsP_tail hg m s q h1
    obtain ⟨t2, e2⟩ := hg _ _ _ h2
    injection h3 with h3
    subst h3
    exact ⟨t1 ++ t2, by rw [e2, e1, List.append_assoc]⟩
theorem nx_set (L tl : List Int) (n : Int) : ((L ++ [0]) ++ tl).set L.length n = L ++ n :: tl := by
  rw [List.append_assoc, List.set_append_right _ _ (by omega)]
  simp
theorem nxP_tail {T : List Ty} {X : List Ex} {V : List Nv} : ∀ (f num : Nat) (L : List Int) (r : Int × List Int), nxP T X V f num L = some r → ∃ tl, r.2 = L ++ tl
  | 0, _, _, _, h => by simp [nxP] at h
  | f + 1, num, L, r, h => by
    simp only [nxP] at h
    split at h
    · rw [Option.bind_eq_some_iff] at h
      obtain ⟨s, h1, h2⟩ := h
      obtain ⟨tl, e⟩ := kidsP_tail (fun num L r hg => nxP_tail f num L r hg) _ _ _ h1
      injection h2 with h2
      subst h2
      simp only at e ⊢
      rw [e, nx_set]
      exact ⟨_, rfl⟩
    · cases h
theorem nx_open {T : List Ty} {X : List Ex} {V : List Nv} {f num : Nat} {L tl : List Int} {n : Int} (h : nxP T X V (f + 1) num L = some (n, L ++ tl)) :
    L.length < V.length ∧ fitsP (V.getD L.length nv0) (T.getD num ty0) = true ∧ ∃ tl', tl = n :: tl' ∧ kidsP (nxP T X V f) X (V.getD L.length nv0) (T.getD num ty0) (V.getD L.length nv0).kids.toNat (ownP (V.getD L.length nv0) (T.getD num ty0), L ++ [0]) = some (n, (L ++ [0]) ++ tl') := by
  simp only [nxP] at h
  split at h
  · rename_i hc
    simp only [Bool.and_eq_true, decide_eq_true_eq] at hc
    rw [Option.bind_eq_some_iff] at h
    obtain ⟨s, h1, h2⟩ := h
    obtain ⟨tl', e⟩ := kidsP_tail (fun num L r hg => nxP_tail f num L r hg) _ _ _ h1
    obtain ⟨s1, s2⟩ := s
    simp only at e
    subst e
    simp only [Option.some.injEq, Prod.mk.injEq] at h2
    obtain ⟨rfl, h3⟩ := h2
    rw [nx_set] at h3
    exact ⟨hc.1, hc.2, tl', (List.append_cancel_left h3).symm, h1⟩
  · cases h
theorem kids_next {T : List Ty} {X : List Ex} {V : List Nv} {f : Nat} {x : Nv} {t : Ty} {K : Nat} {s r : Int × List Int} (h : kidsP (nxP T X V f) X x t K s = some r) {m : Nat} (hm : m < K) {len : Int} {L' : List Int} (hq : kidsP (nxP T X V f) X x t m s = some (len, L')) :
    ∃ kl tl2, nxP T X V f (kidTy x t m).toNat L' = some (kl, L' ++ tl2) ∧ kidsP (nxP T X V f) X x t (m + 1) s = some (plus3 len (offP X t (kidTy x t m)) kl, L' ++ tl2) := by
  cases h1 : nxP T X V f (kidTy x t m).toNat L' with
  | none =>
    have h2 : kidsP (nxP T X V f) X x t (m + 1) s = none := by
      simp only [kidsP]
      rw [hq]
      simp only [Option.bind_some]
      rw [h1]
      rfl
    rw [kidsP_none h2 K (by omega)] at h
    cases h
  | some z =>
    obtain ⟨tl2, e⟩ := nxP_tail _ _ _ _ h1
    obtain ⟨z1, z2⟩ := z
    simp only at e
    subst e
    refine ⟨z1, tl2, rfl, ?_⟩
    simp only [kidsP]
    rw [hq]
    simp only [Option.bind_some]
    rw [h1]
    rfl
theorem plus_off (a b : Int) : plus2 a (plus2 b 4) = plus3 a 4 b := by
  have h1 : plus2 b 4 = capH (sz b + 4) := by
    unfold plus2
    rw [show tot [b, 4] = sz b + 4 by simp only [tot]; rw [show sz 4 = 4 from rfl]; omega]
  have h2 : plus2 a (capH (sz b + 4)) = capH (sz a + sz (capH (sz b + 4))) := by
    unfold plus2
    rw [show tot [a, capH (sz b + 4)] = sz a + sz (capH (sz b + 4)) by simp only [tot]; omega]
  have h3 : plus3 a 4 b = capH (sz a + 4 + sz b) := by
    unfold plus3
    rw [show tot [a, 4, b] = sz a + 4 + sz b by simp only [tot]; rw [show sz 4 = 4 from rfl]; omega]
  rw [h1, h2, h3]
  have ha := sz_bd a
  have hb := sz_bd b
  generalize sz a = A at *
  generalize sz b = B at *
  have h4 : sz (capH (B + 4)) = capH (B + 4) := by unfold sz capH; split <;> omega
  rw [h4]
  unfold capH
  split <;> split <;> split <;> omega
theorem plus_in (a b : Int) : plus2 a b = plus3 a 0 b := by
  unfold plus2 plus3
  simp only [tot]
  rw [show sz 0 = 0 from rfl]
  congr 1
  omega
/-- What Walk.length answers. -/
def WlTo (n : Int) (p q : Nat) (M tl : List Int) (gM cM N B : Nat) (w : World) (e : Ending) (w' : World) : Prop :=
  e = .returned (.tuple #[.int .i64 n, .int .i64 (q : Int)]) ∧ Hid (IOwn w' B (.slice (some ⟨gM, 0, none⟩) N cM) (spl M p tl)) ∧ Hid (Upd (fun k => k = gM) w w')
end Go.Proofs.Ytdpkmkhflgmioaa

/- The document's Walk.length: the walk. -/
namespace Go.Proofs.Ytdpkmkhflgmioaa
open Go.RowKit
set_option linter.unusedVariables false

set_option maxRecDepth 100000 in
set_option maxHeartbeats 16000000 in
theorem wlen_any (wb : World) (bT oT cT : Nat) (T : List Ty) (aR : Option Addr) (cR : Nat) (R : List Rt) (bX oX cX : Nat) (X : List Ex) (bV oV cV : Nat) (V : List Nv) (bw gM cM : Nat) (hV : V.length ≤ 2000000) (hS : Hid (OkS T R)) (hXl : Hid (X.length = T.length)) (hNv : Hid (∀ x ∈ V, NvOk x)) (hT : Hid (TRow wb (some ⟨bT, oT, none⟩) T)) (hX : Hid (XRow wb (some ⟨bX, oX, none⟩) X)) (hVr : Hid (VRow wb (some ⟨bV, oV, none⟩) V)) :
    ∀ (f num : Nat) (w : World) (M L : List Int) (n : Int) (tl : List Int) (p : Nat), num < T.length → Hid (nxP T X V f num L = some (n, L ++ tl)) → Hid (L.length = p) → Hid (M.length = V.length) → Hid (Below wb.heap.size wb w) → Hid (Blk w bw 109 [.slice (some ⟨bT, oT, none⟩) T.length cT, .slice aR R.length cR, .slice (some ⟨bX, oX, none⟩) T.length cX, .slice (some ⟨bV, oV, none⟩) V.length cV, .slice (some ⟨gM, 0, none⟩) V.length cM]) → Hid (IOwn w wb.heap.size (.slice (some ⟨gM, 0, none⟩) V.length cM) M) →
      Calls Try.prog 61 #[.pointer (some ⟨bw, 0, none⟩), .int .i64 (num : Int), .int .i64 (p : Int)] w fun e w' => WlTo n p (p + tl.length) M tl gM cM V.length wb.heap.size w e w' := by
  intro f
  induction f with
  | zero => intro num w M L n tl p hn h; exact absurd h.out (by simp [nxP])
  | succ f ih =>
    intro num w M L n tl p hn hnx hLp hM hBw hK hO
    have hih := hide_ ih
    clear ih
    obtain ⟨hlt0, hft0, tl', rfl, hkd0⟩ := nx_open hnx.out
    have hlen := nxP_len _ _ _ _ (by omega) hnx.out
    simp only [List.length_append, List.length_cons] at hlen
    rw [hLp.out] at hlt0 hft0 hkd0 hlen
    have hlt' : (p : Int) < V.length := by omega
    have hn' : (num : Int) < T.length := by omega
    have hok := hS.out.ty num hn
    have htS : T[num]? = some (T[num]'hn) := List.getElem?_eq_getElem hn
    have hxV : V[p]? = some (V[p]'hlt0) := List.getElem?_eq_getElem hlt0
    rw [show T.getD num ty0 = T[num]'hn by simp [List.getD, hn]] at hok hft0 hkd0
    rw [show V.getD p nv0 = V[p]'hlt0 by simp [List.getD, hlt0]] at hft0 hkd0
    have hnvx := hNv.out _ (List.mem_of_getElem? hxV)
    obtain ⟨hrx, hmx⟩ := (fits_iff hok hnvx).1 hft0
    obtain ⟨_, _, e3, hbT, hcT⟩ := hT.out.open (by omega)
    injection e3 with e3
    injection e3 with e4 e5 _
    subst e4 e5
    obtain ⟨va, vc, hty, hvc, -, hpr⟩ := hcT num _ htS
    obtain ⟨_, _, e6, hbV, hcV⟩ := hVr.out.open (by omega)
    injection e6 with e6
    injection e6 with e7 e8 _
    subst e7 e8
    have hnd := hcV p _ hxV
    generalize T[num]'hn = t at *
    generalize V[p]'hlt0 = x at *
    have hzb : wb.heap.size ≤ w.heap.size := hBw.out.size
    have hty' := fun j (hj : j < 4) => (hBw.out.cell (p := ⟨bT, oT + num * 4 + j, none⟩) hbT).trans (hty j hj)
    have hnd' := fun j (hj : j < 3) => (hBw.out.cell (p := ⟨bV, oV + p * 3 + j, none⟩) hbV).trans (hnd j hj)
    have t0 := hty' 0 (by decide); have t1 := hty' 1 (by decide); have t2 := hty' 2 (by decide); have t3 := hty' 3 (by decide)
    have x0 := hnd' 0 (by decide); have x1 := hnd' 1 (by decide); have x2 := hnd' 2 (by decide)
    simp [tyc] at t0 t1 t2 t3
    simp [nvc] at x0 x1 x2
    obtain ⟨k, tn, el, ps⟩ := t
    obtain ⟨xk, xn, xd⟩ := x
    simp only at t0 t1 t2 t3 x0 x1 x2
    have c0 := hK.out.cell 0
    simp at c0
    obtain ⟨wA, hwA⟩ : ∃ wx, wx = w.alloc (.cells #[.int .i64 k, .int .i64 tn, .int .i64 el, .slice va ps.length vc] 62) := ⟨_, rfl⟩
    have hBA : Below w.heap.size w wA := by rw [hwA]; exact below1 _ _
    have c3 := (hK.out.later hBA).cell 3
    simp at c3
    have hzV : bV < w.heap.size := by omega
    have x0 := (hBA.cell (p := ⟨bV, oV + p * 3, none⟩) hzV).trans x0
    have x1 := (hBA.cell (p := ⟨bV, oV + p * 3 + 1, none⟩) hzV).trans x1
    have x2 := (hBA.cell (p := ⟨bV, oV + p * 3 + 2, none⟩) hzV).trans x2
    have hB := below2 w (.cells #[.int .i64 k, .int .i64 tn, .int .i64 el, .slice va ps.length vc] 62) (.cells #[.int .i64 xk, .int .u64 xn, .int .i64 xd] 58)
    obtain ⟨k1, k2⟩ := blk2 w #[.int .i64 k, .int .i64 tn, .int .i64 el, .slice va ps.length vc] #[.int .i64 xk, .int .u64 xn, .int .i64 xd] 62 58
    rw [← hwA] at hB k1 k2
    have hzA : wA.heap.size = w.heap.size + 1 := by rw [hwA]; exact World.size_alloc _ _
    obtain ⟨w0, hw0⟩ : ∃ wx, wx = wA.alloc (.cells #[.int .i64 xk, .int .u64 xn, .int .i64 xd] 58) := ⟨_, rfl⟩
    rw [← hw0] at hB k1 k2
    have HzA := hide_ hzA
    have HB0 := hide_ hB
    have KT0 := hide_ k1
    have k2 : Blk w0 wA.heap.size 58 [.int .i64 xk, .int .u64 xn, .int .i64 xd] := by rw [hzA]; exact k2
    have KX0 := hide_ k2
    have KW0 := hide_ (hK.out.later hB)
    have HO0 := hide_ (hO.out.later hB)
    have HBw0 := hide_ (hBw.out.trans (hB.mono hzb))
    have HOk := hide_ hok
    have HFt := hide_ hft0
    have HKd := hide_ hkd0
    have HPr := hide_ hpr
    have HRx := hide_ hrx
    have HMx := hide_ hmx
    have HLen := hide_ hlen
    have i0 := k1.cell 0; have i1 := k1.cell 1
    have j1 := k2.cell 1
    simp at i0 i1 j1
    have hkk := fits_kids hok hft0
    have hxd0 := (rightV_kids hrx).1
    have hxn0 : 0 ≤ xn := hnvx.1
    have hxn1 : xn < 18446744073709551616 := hnvx.2
    simp only at hkk hxd0
    have hw1 : wrap64 ((p : Int) + 1) = (p : Int) + 1 := w64 _ (by omega)
    have HW1 := hide_ hw1
    obtain ⟨o0, ho0⟩ : ∃ o0, ownP ⟨xk, xn, xd⟩ ⟨k, tn, el, ps⟩ = o0 := ⟨_, rfl⟩
    rw [ho0] at HKd
    have HO : Hid (ownP ⟨xk, xn, xd⟩ ⟨k, tn, el, ps⟩ = o0) := hide_ ho0
    have hkc := tyOk_kind hok
    simp only at hkc
    clear hty hnd hty' hnd' hcT hcV hxV htS hpr hok hB k1 k2 hft0 hkd0 hrx hmx hlen hnvx hvc hw1 ho0 hBA hzA
    obtain ⟨pq, hpq⟩ : ∃ pq, p + (n :: tl').length = pq := ⟨_, rfl⟩
    rw [hpq]
    have HPq := hide_ hpq
    clear hpq
    go_enter Try.func61, Try.ntmps61
    go_upto_region 2 with fail
    rw [← hwA]
    clear hwA t0 t1 t2 t3 c0
    go_upto_region 4 with fail
    rw [← hw0]
    clear hw0 x0 x1 x2 c3
    go_upto_block 0 with fail
    go_cut [10] from 33 to 45 (fun x10 wc => x10 = .int .i64 o0 ∧ w0 = wc)
    case first =>
      obtain ⟨m, rfl⟩ := Int.eq_ofNat_of_zero_le hxn0
      have HLeb := hide_ (leb_any m w0 (by omega))
      rcases hkc with rfl | rfl | rfl | rfl | rfl | rfl | rfl | rfl
      · have hv : o0 = tn := by rw [← HO.out]; rfl
        subst hv
        go_wp2
        go_meet
        case rel => exact ⟨rfl, rfl⟩
      · have hv : o0 = 1 := by rw [← HO.out]; rfl
        subst hv
        go_wp2
        go_meet
        case rel => exact ⟨rfl, rfl⟩
      · have hv : o0 = ((lebN m : Nat) : Int) := by rw [← HO.out]; simp [ownP, lebN]
        subst hv
        go_wp2_with fail
        refine HLeb.out.mono ?_
        rintro e w' ⟨rfl, rfl⟩
        go_wp2
        go_meet
        case rel => exact ⟨rfl, rfl⟩
      · have hv : o0 = 0 := by rw [← HO.out]; rfl
        subst hv
        go_wp2
        go_meet
        case rel => exact ⟨rfl, rfl⟩
      · have hv : o0 = 0 := by rw [← HO.out]; rfl
        subst hv
        go_wp2
        go_meet
        case rel => exact ⟨rfl, rfl⟩
      · have hv : o0 = 1 := by rw [← HO.out]; rfl
        subst hv
        go_wp2
        go_meet
        case rel => exact ⟨rfl, rfl⟩
      · have hv : o0 = 1 := by rw [← HO.out]; rfl
        subst hv
        go_wp2
        go_meet
        case rel => exact ⟨rfl, rfl⟩
      · have hv : o0 = 0 := by rw [← HO.out]; rfl
        subst hv
        go_wp2
        go_meet
        case rel => exact ⟨rfl, rfl⟩
    case rest =>
    obtain ⟨rfl, rfl⟩ := hcut
    clear i0 i1 j1
    have j2 := KX0.out.cell 2
    simp at j2
    go_wp2_with fail
    go_loopw [10, 11, 12] (fun x10 x11 x12 wr => ∃ (m : Nat) (len : Int) (tr : List Int) (q : Nat), m ≤ xd.toNat ∧ x12 = .int .i64 (m : Int) ∧ x10 = .int .i64 len ∧ x11 = .int .i64 (q : Int) ∧ Hid (p + 1 + tr.length = q) ∧ Hid (q ≤ V.length) ∧ Hid (kidsP (nxP T X V f) X ⟨xk, xn, xd⟩ ⟨k, tn, el, ps⟩ m (o0, L ++ [0]) = some (len, (L ++ [0]) ++ tr)) ∧ Hid (IOwn wr wb.heap.size (.slice (some ⟨gM, 0, none⟩) V.length cM) (spl M (p + 1) tr)) ∧ Hid (Upd (fun k => k = gM) w0 wr)) (fun _ _ x12 _ => xd.toNat - (intOf x12).toNat)
    case atStart => exact ⟨0, o0, [], p + 1, Nat.zero_le _, rfl, rfl, by first | rfl | (push_cast; rfl) | (rw [HW1.out]; push_cast; rfl) | rw [HW1.out], hide_ rfl, hide_ (by omega), hide_ (by simp [kidsP]), hide_ (by rw [spl_nil]; exact HO0.out), hide_ (Upd.refl _ _)⟩
    case round =>
      obtain ⟨m, len, tr, q, hm, rfl, rfl, rfl, HQ, HQV, HKm, HOq, HUq⟩ := hrel
      generalize wr = wq at *
      clear j2 HW1
      have hne : ∀ b t' ys, Blk w0 b t' ys → t' ≠ 3 → ¬ b = gM := fun b t' ys hb ht e => HO0.out.ne hb ht (by rw [e]; rfl)
      have KTq := hide_ (KT0.out.upd HUq.out (hne _ _ _ KT0.out (by decide)))
      have KXq := hide_ (KX0.out.upd HUq.out (hne _ _ _ KX0.out (by decide)))
      have KWq := hide_ (KW0.out.upd HUq.out (hne _ _ _ KW0.out (by decide)))
      have hgM : wb.heap.size ≤ gM := (HO0.out.lt gM rfl).1
      have HBq : Hid (Below wb.heap.size wb wq) := hide_ (HBw0.out.trans (HUq.out.below _ HBw0.out.size (fun b hb => by rw [hb]; exact hgM)))
      have hzq := HBq.out.size
      have z0 := KTq.out.cell 0; have z1 := KTq.out.cell 1; have z2 := KTq.out.cell 2; have z3 := KTq.out.cell 3
      have y0 := KXq.out.cell 0; have y1 := KXq.out.cell 1; have y2 := KXq.out.cell 2
      simp at z0 z1 z2 z3 y0 y1 y2
      by_cases hmk : (m : Int) < xd
      · obtain ⟨s1, hs1, hel⟩ := elemR_any ⟨k, tn, el, ps⟩ ⟨xk, xn, xd⟩ va vc _ m wq HOk HMx.out HRx.out hmk (hide_ (HPr.out.later HBq.out))
        have hkt := kidsT_at (j := m) HOk.out HMx.out HRx.out hmk
        rw [hs1] at hkt
        injection hkt with hkt
        obtain ⟨hk0, hk1⟩ := kidTy_bd (j := m) HOk.out HFt.out hmk
        obtain ⟨kl, t2, hnk, hks⟩ := kids_next HKd.out (m := m) (by first | omega | (simp only; omega)) HKm.out
        rw [← hkt] at hk0 hk1 hnk hks
        obtain ⟨kd, rfl⟩ := Int.eq_ofNat_of_zero_le hk0
        rw [Int.toNat_natCast] at hnk
        have hkdT : kd < T.length := by omega
        have hkdT' : (kd : Int) < T.length := by omega
        have hkdX : kd < X.length := by rw [hXl.out]; exact hkdT
        have HEl := hide_ hel
        have hl2 := nxP_len _ _ _ _ (by have := HQ.out; have := HQV.out; have := hLp.out; simp; omega) hnk
        simp only [List.length_append, List.length_cons, List.length_nil] at hl2
        have hlL : ((L ++ [0]) ++ tr).length = q := by have := HQ.out; have := hLp.out; simp; omega
        have hq2 : q + t2.length ≤ V.length := by have := HQ.out; have := hLp.out; omega
        have HNk := hide_ hnk
        have HKs := hide_ hks
        have HMl : Hid ((spl M (p + 1) tr).length = V.length) := hide_ (by rw [spl_len (by have := HQ.out; have := HQV.out; have := hM.out; omega)]; exact hM.out)
        have HCl : Hid (∀ w7, Below wq.heap.size wq w7 → Calls Try.prog 61 #[.pointer (some ⟨bw, 0, none⟩), .int .i64 (kd : Int), .int .i64 (q : Int)] w7 fun e w' => WlTo kl q (q + t2.length) (spl M (p + 1) tr) t2 gM cM V.length wb.heap.size w7 e w') := hide_ (fun w7 h7 => hih.out kd w7 (spl M (p + 1) tr) _ kl t2 q hkdT HNk (hide_ hlL) HMl (hide_ (HBq.out.trans (h7.mono hzq))) (hide_ (KWq.out.later h7)) (hide_ (HOq.out.later h7)))
        obtain ⟨q2, hqq⟩ : ∃ q2, q + t2.length = q2 := ⟨_, rfl⟩
        rw [hqq] at HCl hq2
        have HQ2 : Hid (p + 1 + (tr ++ t2).length = q2) := hide_ (by have := HQ.out; simp; omega)
        obtain ⟨_, _, e9, hbX, hcX⟩ := hX.out.open (by omega)
        injection e9 with e9
        injection e9 with e10 e11 _
        subst e10 e11
        have hx0 := hcX kd _ (exAt_at hkdX) 0 (by decide)
        simp [exc] at hx0
        have HX0 : Hid (∀ w', Below wb.heap.size wb w' → w'.cell? ⟨bX, oX + kd * 4, none⟩ = some (.bool (exAt X (kd : Int)).f)) := hide_ (fun w' h => (h.cell (p := ⟨bX, oX + kd * 4, none⟩) hbX).trans hx0)
        have HSp : Hid (spl (spl M (p + 1) tr) q t2 = spl M (p + 1) (tr ++ t2)) := hide_ (by rw [← HQ.out]; exact spl_app (by have := HQ.out; have := hM.out; omega))
        clear hel hs1 hkt hnk hks hl2 hlL hcX hx0 hkdX hqq HKm HMl
        go_wp2_with fail
        refine HEl.out.mono ?_
        rintro e w7 ⟨rfl, hB7⟩
        have HB7 := hide_ hB7
        clear hB7 z0 z1 z2 z3 y0 y1 y2
        go_wp2_with fail
        refine (HCl.out w7 HB7.out).mono ?_
        rintro e w8 ⟨rfl, HO8, HU8⟩
        rw [HSp.out] at HO8
        have HU80 := hide_ ((HUq.out.then HB7.out).to HU8.out)
        have KT8 := hide_ (KT0.out.upd HU80.out (hne _ _ _ KT0.out (by decide)))
        have KW8 := hide_ (KW0.out.upd HU80.out (hne _ _ _ KW0.out (by decide)))
        have HB8 : Hid (Below wb.heap.size wb w8) := hide_ (HBw0.out.trans (HU80.out.below _ HBw0.out.size (fun b hb => by rw [hb]; exact hgM)))
        have z0 := KT8.out.cell 0
        have v2 := KW8.out.cell 2
        have u0 := HX0.out w8 HB8.out
        simp at z0 v2
        obtain ⟨fx, hfx⟩ : ∃ fx, (exAt X (kd : Int)).f = fx := ⟨_, rfl⟩
        rw [hfx] at u0
        obtain ⟨of, hof⟩ : ∃ of, offP X ⟨k, tn, el, ps⟩ (kd : Int) = of := ⟨_, rfl⟩
        rw [hof] at HKs
        have HOf : Hid ((if k = 6 ∨ k = 7 ∨ fx = true then 0 else 4) = of) := hide_ (by rw [← hof]; unfold offP; rw [hfx])
        clear hfx hof HX0 HCl HEl HSp
        have fin : ∀ (w9 : World), Below w8.heap.size w8 w9 → Hid (IOwn w9 wb.heap.size (.slice (some ⟨gM, 0, none⟩) V.length cM) (spl M (p + 1) (tr ++ t2)) ∧ Upd (fun k => k = gM) w0 w9) := fun w9 h9 => hide_ ⟨HO8.out.later h9, HU80.out.then h9⟩
        have HFin := hide_ fin
        have HK2 : Hid (kidsP (nxP T X V f) X ⟨xk, xn, xd⟩ ⟨k, tn, el, ps⟩ (m + 1) (o0, L ++ [0]) = some (plus3 len of kl, (L ++ [0]) ++ (tr ++ t2))) := hide_ (by rw [HKs.out, List.append_assoc])
        clear fin
        have HZero : Hid (of = 0 → plus2 len kl = plus3 len of kl) := hide_ (fun h => by rw [h]; exact plus_in _ _)
        have HFour : Hid (of = 4 → plus2 len (plus2 kl 4) = plus3 len of kl) := hide_ (fun h => by rw [h]; exact plus_off _ _)
        obtain ⟨pv, hpv⟩ : ∃ pv, plus3 len of kl = pv := ⟨_, rfl⟩
        rw [hpv] at HK2 HZero HFour
        clear hpv HKs HNk HU8
        have HP1 := hide_ (rplus_any kl 4 w8)
        have HP2 : Hid (∀ w9, Calls Try.prog 74 #[.int .i64 len, .int .i64 kl] w9 fun e w' => e = .returned (.int .i64 (plus2 len kl)) ∧ Below w9.heap.size w9 w') := hide_ (fun w9 => rplus_any len kl w9)
        have HP3 : Hid (∀ w9, Calls Try.prog 74 #[.int .i64 len, .int .i64 (plus2 kl 4)] w9 fun e w' => e = .returned (.int .i64 (plus2 len (plus2 kl 4))) ∧ Below w9.heap.size w9 w') := hide_ (fun w9 => rplus_any len (plus2 kl 4) w9)
        obtain ⟨k4, hk4⟩ : ∃ k4, plus2 kl 4 = k4 := ⟨_, rfl⟩
        rw [hk4] at HP1 HP3 HFour
        clear hk4
        have nofour : ∀ (h0 : of = 0), Hid (plus2 len kl = pv) := fun h0 => hide_ (HZero.out h0)
        have last : of = 0 → (k = 6 ∨ k = 7 ∨ fx = true) → True := fun _ _ => trivial
        by_cases h6 : k = 6
        · have hv := nofour (by rw [← HOf.out, if_pos (.inl h6)])
          have c6 : (k != 6) = false := by simp [h6]
          clear h6
          cases fx <;>
          · go_wp2_with fail
            refine (HP2.out _).mono ?_
            rintro e w9 ⟨rfl, hB9⟩
            have H9 := HFin.out _ hB9
            go_wp2_with fail
            go_roundw
            case rel => exact ⟨m + 1, pv, tr ++ t2, q2, by omega, by go_num, by rw [hv.out], rfl, HQ2, hide_ hq2, HK2, hide_ H9.out.1, hide_ H9.out.2⟩
            case measure => simp [intOf]; omega
        have c6 : (k != 6) = true := by simpa using h6
        by_cases h7 : k = 7
        · have hv := nofour (by rw [← HOf.out, if_pos (.inr (.inl h7))])
          have c7 : (k != 7) = false := by simp [h7]
          clear h7
          cases fx <;>
          · go_wp2_with fail
            refine (HP2.out _).mono ?_
            rintro e w9 ⟨rfl, hB9⟩
            have H9 := HFin.out _ hB9
            go_wp2_with fail
            go_roundw
            case rel => exact ⟨m + 1, pv, tr ++ t2, q2, by omega, by go_num, by rw [hv.out], rfl, HQ2, hide_ hq2, HK2, hide_ H9.out.1, hide_ H9.out.2⟩
            case measure => simp [intOf]; omega
        have c7 : (k != 7) = true := by simpa using h7
        cases fx with
        | true =>
          have hv := nofour (by rw [← HOf.out, if_pos (.inr (.inr rfl))])
          go_wp2_with fail
          refine (HP2.out _).mono ?_
          rintro e w9 ⟨rfl, hB9⟩
          have H9 := HFin.out _ hB9
          go_wp2_with fail
          go_roundw
          case rel => exact ⟨m + 1, pv, tr ++ t2, q2, by omega, by go_num, by rw [hv.out], rfl, HQ2, hide_ hq2, HK2, hide_ H9.out.1, hide_ H9.out.2⟩
          case measure => simp [intOf]; omega
        | false =>
          have hv := hide_ (HFour.out (by rw [← HOf.out, if_neg (by simp [h6, h7])]))
          go_wp2_with fail
          refine HP1.out.mono ?_
          rintro e w9 ⟨rfl, hB9⟩
          go_wp2_with fail
          refine (HP3.out _).mono ?_
          rintro e w10 ⟨rfl, hB10⟩
          have H9 := HFin.out _ (below_to hB9 hB10)
          go_wp2_with fail
          go_roundw
          case rel => exact ⟨m + 1, pv, tr ++ t2, q2, by omega, by go_num, by rw [hv.out], rfl, HQ2, hide_ hq2, HK2, hide_ H9.out.1, hide_ H9.out.2⟩
          case measure => simp [intOf]; omega
      · obtain rfl : m = xd.toNat := by omega
        have he := HKd.out
        rw [HKm.out] at he
        simp only [Option.some.injEq, Prod.mk.injEq, List.append_cancel_left_eq] at he
        obtain ⟨hen, het⟩ := he
        have HEn := hide_ hen
        have HEt := hide_ het
        have hpl : p < (spl M (p + 1) tr).length := by rw [spl_len (by have := HQ.out; have := HQV.out; have := hM.out; omega)]; have := hM.out; omega
        obtain ⟨g2, cap2, hv2, hgb, hc2, hf2, hset⟩ := own_set HOq.out hpl
        injection hv2 with e1 e2 e3
        injection e1 with e1
        injection e1 with e1 _ _
        subst e1
        have HUe := hide_ (HUq.out.set ⟨gM, p, none⟩ (.int .i64 len) (.inl rfl))
        have HOe : Hid (IOwn (wq.setCell ⟨gM, p, none⟩ (.int .i64 len)) wb.heap.size (.slice (some ⟨gM, 0, none⟩) V.length cM) (spl M p (n :: tl'))) := hide_ (by
          have h := hset len
          rw [spl_set (by have := HQ.out; have := HQV.out; have := hM.out; omega)] at h
          rw [← HEn.out, ← HEt.out]
          unfold IOwn
          rw [spl_len (by have := HQ.out; have := HQV.out; have := hM.out; simp; omega), ← spl_len (M := M) (i := p + 1) (tl := tr) (by have := HQ.out; have := HQV.out; have := hM.out; omega)]
          exact h)
        have HUf := hide_ ((Upd.of_below (S := fun k => k = gM) HB0.out).trans HUe.out (fun _ _ h => h))
        have hq : p + (n :: tl').length = q := by have := HQ.out; rw [← HEt.out]; simp; omega
        have HQq := hide_ hq
        have v4 := KWq.out.cell 4
        simp at v4
        clear hset hgb z0 z1 z2 z3 y0 y1 hen het e2 e3 hq hpl
        have HN := HEn
        go_wp2
        go_ret2
        refine ⟨?_, HOe, HUf⟩
        rw [← HN.out, show pq = q from HPq.out.symm.trans HQq.out]
        rfl
end Go.Proofs.Ytdpkmkhflgmioaa
