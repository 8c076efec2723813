import Derived.Test.YtdpkmkhflgmioaaPart22
import Derived.Test.YtdpkmkhflgmioaaPart17
import Derived.Test.YtdpkmkhflgmioaaPart14
import Derived.Deep.CutBlock
import Derived.Test.YtdpkmkhflgmioaaPart11

/- The document's Leb and Walk.length. -/
namespace Go.Proofs.Ytdpkmkhflgmioaa
open Go.RowKit
set_option linter.unusedVariables false

def lebN (m : Nat) : Nat := max 1 ((Lib.bitLen m + 6) / 7)
theorem leb_low {m : Nat} (h : m < 128) : lebN m = 1 := by
  have := Lib.bitLen_le m 7 (by decide) (by simpa using h)
  unfold lebN
  omega
theorem leb_step {m : Nat} (h : 128 ≤ m) (h2 : m < 18446744073709551616) : lebN m = 1 + lebN (m / 128) := by
  have h1 := Lib.bitLen_shift 7 m (by simpa using h) h2
  have h3 := Lib.bitLen_half (m / 128) (by omega) (by omega)
  rw [show (2 : Nat) ^ 7 = 128 from rfl] at h1
  unfold lebN
  rw [h1]
  omega
theorem leb_le {m : Nat} (h : m < 18446744073709551616) : lebN m ≤ 10 := by
  have := bitLen_64 m h
  unfold lebN
  omega
theorem leb_pos (m : Nat) : 1 ≤ lebN m := by unfold lebN; omega
set_option maxRecDepth 100000 in
set_option maxHeartbeats 4000000 in
theorem leb_any (m : Nat) (w : World) (h1 : m < 18446744073709551616) : Calls Try.prog 80 #[.int .u64 (m : Int)] w fun e w' => e = .returned (.int .i64 ((lebN m : Nat) : Int)) ∧ w = w' := by
  obtain ⟨N, hN⟩ : ∃ N, lebN m = N := ⟨_, rfl⟩
  have hN10 := leb_le h1
  rw [hN] at hN10 ⊢
  have HN := hide_ hN
  clear hN
  go_enter Try.func80, Try.ntmps80
  go_wp2_with fail
  go_loopw [0, 3] (fun x0 x3 wr => ∃ q k : Nat, x0 = .int .u64 (q : Int) ∧ x3 = .int .i64 (k : Int) ∧ q < 18446744073709551616 ∧ Hid (k + lebN q = N + 1) ∧ w = wr) (fun x0 _ _ => (intOf x0).toNat)
  case atStart => exact ⟨m, 1, rfl, rfl, h1, hide_ (by rw [HN.out]; omega), rfl⟩
  case round =>
    obtain ⟨q, k, rfl, rfl, hq, HK, rfl⟩ := hrel
    have hk10 : k ≤ 10 := by have := leb_pos q; have := HK.out; omega
    by_cases hlt : 128 ≤ q
    · have hlt' : (128 : Int) ≤ (q : Int) := by omega
      have hst := leb_step hlt hq
      have HK2 : Hid (k + 1 + lebN (q / 128) = N + 1) := hide_ (by have := HK.out; omega)
      have hdv : (q : Int) / 128 = ((q / 128 : Nat) : Int) := by omega
      have hdl : q / 128 < q := by omega
      obtain ⟨q', hq'⟩ : ∃ q', q / 128 = q' := ⟨_, rfl⟩
      rw [hq'] at HK2 hdv hdl
      clear hst HK hq' HN
      go_wp2_with fail
      go_roundw
      case rel => exact ⟨q', k + 1, by go_num, by go_num, by omega, HK2, by first | rfl | trivial⟩
      case measure => simp [intOf]; omega
    · have hlt' : ¬ (128 : Int) ≤ (q : Int) := by omega
      have hk : k = N := by have := HK.out; rw [leb_low (by omega)] at this; omega
      go_wp2
      go_ret
      exact ⟨by first | rfl | rw [hk], rfl⟩
/-! ### What is written -/
def spl (M : List Int) (i : Nat) (tl : List Int) : List Int := M.take i ++ (tl ++ M.drop (i + tl.length))
theorem spl_at {M : List Int} {i : Nat} {tl : List Int} (h : i + tl.length ≤ M.length) (j : Nat) : (spl M i tl)[j]? = if j < i then M[j]? else if j < i + tl.length then tl[j - i]? else M[j]? := by
  have hl : (M.take i).length = i := by simp; omega
  unfold spl
  by_cases h1 : j < i
  · rw [if_pos h1, List.getElem?_append_left (by omega), List.getElem?_take, if_pos h1]
  · rw [if_neg h1, List.getElem?_append_right (by omega), hl]
    by_cases h2 : j < i + tl.length
    · rw [if_pos h2, List.getElem?_append_left (by omega)]
    · rw [if_neg h2, List.getElem?_append_right (by omega), List.getElem?_drop]
      congr 1
      omega
theorem spl_len {M : List Int} {i : Nat} {tl : List Int} (h : i + tl.length ≤ M.length) : (spl M i tl).length = M.length := by
  unfold spl
  simp
  omega
theorem spl_nil (M : List Int) (i : Nat) : spl M i [] = M := by simp [spl]
theorem spl_app {M : List Int} {i : Nat} {a b : List Int} (h : i + a.length + b.length ≤ M.length) : spl (spl M i a) (i + a.length) b = spl M i (a ++ b) := by
  refine List.ext_getElem? (fun j => ?_)
  rw [spl_at (by rw [spl_len (by omega)]; omega), spl_at (by omega), spl_at (by simp; omega)]
  simp only [List.length_append]
  by_cases h1 : j < i
  · rw [if_pos (by omega), if_pos h1, if_pos h1]
  · rw [if_neg h1, if_neg h1]
    by_cases h2 : j < i + a.length
    · rw [if_pos h2, if_pos h2, if_pos (by omega), List.getElem?_append_left (by omega)]
    · rw [if_neg h2, if_neg h2]
      by_cases h3 : j < i + a.length + b.length
      · rw [if_pos h3, if_pos (by omega), List.getElem?_append_right (by omega)]
        congr 1
        omega
      · rw [if_neg h3, if_neg (by omega)]
theorem spl_set {M : List Int} {i : Nat} {a : List Int} {n : Int} (h : i + 1 + a.length ≤ M.length) : (spl M (i + 1) a).set i n = spl M i (n :: a) := by
  refine List.ext_getElem? (fun j => ?_)
  rw [List.getElem?_set, spl_at (by omega), spl_at (by simp; omega), spl_len (by omega)]
  simp only [List.length_cons]
  by_cases h0 : i = j
  · subst h0
    rw [if_pos rfl, if_pos (by omega), if_neg (by omega), if_pos (by omega)]
    simp
  · rw [if_neg h0]
    by_cases h1 : j < i
    · rw [if_pos (by omega), if_pos h1]
    · rw [if_neg (by omega), if_neg h1]
      by_cases h2 : j < i + 1 + a.length
      · rw [if_pos h2, if_pos (by omega)]
        obtain ⟨d, hd⟩ : ∃ d, j - i = d + 1 := ⟨j - i - 1, by omega⟩
        rw [hd, List.getElem?_cons_succ]
        congr 1
        omega
      · rw [if_neg h2, if_neg (by omega)]
/-! ### Tails -/
theorem kidsP_tail {g : Nat → List Int → Option (Int × List Int)} {X : List Ex} {x : Nv} {t : Ty} (hg : ∀ num L r, g num L = some r → ∃ tl, r.2 = L ++ tl) : ∀ (m : Nat) (s r : Int × List Int), kidsP g X x t m s = some r → ∃ tl, r.2 = s.2 ++ tl
  | 0, s, r, h => by
    simp only [kidsP] at h
    injection h with h
    subst h
    exact ⟨[], by simp⟩
  | m + 1, s, r, h => by
    simp only [kidsP, Option.bind_eq_some_iff] at h
    obtain ⟨q, h1, z, h2, h3⟩ := h
    obtain ⟨t1, e1⟩ := kidsP_tail hg m s q h1
    obtain ⟨t2, e2⟩ := hg _ _ _ h2
    injection h3 with h3
    subst h3
    exact ⟨t1 ++ t2, by rw [e2, e1, List.append_assoc]⟩
theorem nx_set (L tl : List Int) (n : Int) : ((L ++ [0]) ++ tl).set L.length n = L ++ n :: tl := by
  rw [List.append_assoc, List.set_append_right _ _ (by omega)]
  simp
theorem nxP_tail {T : List Ty} {X : List Ex} {V : List Nv} : ∀ (f num : Nat) (L : List Int) (r : Int × List Int), nxP T X V f num L = some r → ∃ tl, r.2 = L ++ tl
  | 0, _, _, _, h => by simp [nxP] at h
  | f + 1, num, L, r, h => by
    simp only [nxP] at h
    split at h
    · rw [Option.bind_eq_some_iff] at h
      obtain ⟨s, h1, h2⟩ := h
      obtain ⟨tl, e⟩ := kidsP_tail (fun num L r hg => nxP_tail f num L r hg) _ _ _ h1
      injection h2 with h2
      subst h2
      simp only at e ⊢
      rw [e, nx_set]
      exact ⟨_, rfl⟩
    · cases h
theorem nx_open {T : List Ty} {X : List Ex} {V : List Nv} {f num : Nat} {L tl : List Int} {n : Int} (h : nxP T X V (f + 1) num L = some (n, L ++ tl)) :
    L.length < V.length ∧ fitsP (V.getD L.length nv0) (T.getD num ty0) = true ∧ ∃ tl', tl = n :: tl' ∧ kidsP (nxP T X V f) X (V.getD L.length nv0) (T.getD num ty0) (V.getD L.length nv0).kids.toNat (ownP (V.getD L.length nv0) (T.getD num ty0), L ++ [0]) = some (n, (L ++ [0]) ++ tl') := by
  simp only [nxP] at h
  split at h
  · rename_i hc
    simp only [Bool.and_eq_true, decide_eq_true_eq] at hc
    rw [Option.bind_eq_some_iff] at h
    obtain ⟨s, h1, h2⟩ := h
    obtain ⟨tl', e⟩ := kidsP_tail (fun num L r hg => nxP_tail f num L r hg) _ _ _ h1
    obtain ⟨s1, s2⟩ := s
    simp only at e
    subst e
    simp only [Option.some.injEq, Prod.mk.injEq] at h2
    obtain ⟨rfl, h3⟩ := h2
    rw [nx_set] at h3
    exact ⟨hc.1, hc.2, tl', (List.append_cancel_left h3).symm, h1⟩
  · cases h
theorem kids_next {T : List Ty} {X : List Ex} {V : List Nv} {f : Nat} {x : Nv} {t : Ty} {K : Nat} {s r : Int × List Int} (h : kidsP (nxP T X V f) X x t K s = some r) {m : Nat} (hm : m < K) {len : Int} {L' : List Int} (hq : kidsP (nxP T X V f) X x t m s = some (len, L')) :
    ∃ kl tl2, nxP T X V f (kidTy x t m).toNat L' = some (kl, L' ++ tl2) ∧ kidsP (nxP T X V f) X x t (m + 1) s = some (plus3 len (offP X t (kidTy x t m)) kl, L' ++ tl2) := by
  cases h1 : nxP T X V f (kidTy x t m).toNat L' with
  | none =>
    have h2 : kidsP (nxP T X V f) X x t (m + 1) s = none := by
      simp only [kidsP]
      rw [hq]
      simp only [Option.bind_some]
      rw [h1]
      rfl
    rw [kidsP_none h2 K (by omega)] at h
    cases h
  | some z =>
    obtain ⟨tl2, e⟩ := nxP_tail _ _ _ _ h1
    obtain ⟨z1, z2⟩ := z
    simp only at e
    subst e
    refine ⟨z1, tl2, rfl, ?_⟩
    simp only [kidsP]
    rw [hq]
    simp only [Option.bind_some]
    rw [h1]
    rfl
theorem plus_off (a b : Int) : plus2 a (plus2 b 4) = plus3 a 4 b := by
  have h1 : plus2 b 4 = capH (sz b + 4) := by
    unfold plus2
    rw [show tot [b, 4] = sz b + 4 by simp only [tot]; rw [show sz 4 = 4 from rfl]; omega]
  have h2 : plus2 a (capH (sz b + 4)) = capH (sz a + sz (capH (sz b + 4))) := by
    unfold plus2
    rw [show tot [a, capH (sz b + 4)] = sz a + sz (capH (sz b + 4)) by simp only [tot]; omega]
  have h3 : plus3 a 4 b = capH (sz a + 4 + sz b) := by
    unfold plus3
    rw [show tot [a, 4, b] = sz a + 4 + sz b by simp only [tot]; rw [show sz 4 = 4 from rfl]; omega]
  rw [h1, h2, h3]
  have ha := sz_bd a
  have hb := sz_bd b
  generalize sz a = A at *
  generalize sz b = B at *
  have h4 : sz (capH (B + 4)) = capH (B + 4) := by unfold sz capH; split <;> omega
  rw [h4]
  unfold capH
  split <;> split <;> split <;> omega
theorem plus_in (a b : Int) : plus2 a b = plus3 a 0 b := by
  unfold plus2 plus3
  simp only [tot]
  rw [show sz 0 = 0 from rfl]
  congr 1
  omega
/-- What Walk.length answers. -/
def WlTo (n : Int) (p q : Nat) (M tl : List Int) (gM cM N B : Nat) (w : World) (e : Ending) (w' : World) : Prop :=
  e = .returned (.tuple #[.int .i64 n, .int .i64 (q : Int)]) ∧ Hid (IOwn w' B (.slice (some ⟨gM, 0, none⟩) N cM) (spl M p tl)) ∧ Hid (Upd (fun k => k = gM) w w')
end Go.Proofs.Ytdpkmkhflgmioaa

/- SizeBetween, plain: a length lies between the least and the greatest. -/
namespace Go.Proofs.Ytdpkmkhflgmioaa
open Go.RowKit
set_option linter.unusedVariables false
set_option linter.unusedSimpArgs false

theorem plus2_comm (a b : Int) : plus2 a b = plus2 b a := by rw [plus2_eq, plus2_eq, Int.add_comm]
theorem step_lo {a s v : Int} {e : Ex} (h1 : a ≤ s) (h2 : e.l ≤ v) : plus2 a (offX e).l ≤ plus3 s (if e.f = true then 0 else 4) v := by
  cases hf : e.f with
  | true =>
    rw [if_pos rfl, ← plus_in]
    unfold offX
    rw [if_pos hf]
    exact plus2_mono h1 h2
  | false =>
    rw [if_neg (by simp), ← plus_off]
    unfold offX
    rw [if_neg (by simp [hf])]
    exact plus2_mono h1 (by rw [plus2_comm v 4]; exact plus2_mono (Int.le_refl _) h2)
theorem step_hi {a s v : Int} {e : Ex} (h1 : s ≤ a) (h2 : v ≤ e.m) : plus3 s (if e.f = true then 0 else 4) v ≤ plus2 a (offX e).m := by
  cases hf : e.f with
  | true =>
    rw [if_pos rfl, ← plus_in]
    unfold offX
    rw [if_pos hf]
    exact plus2_mono h1 h2
  | false =>
    rw [if_neg (by simp), ← plus_off]
    unfold offX
    rw [if_neg (by simp [hf])]
    exact plus2_mono h1 (by rw [plus2_comm v 4]; exact plus2_mono (Int.le_refl _) h2)
theorem times2_succ (m : Nat) {y : Int} (hm : m ≤ 1048576) (h0 : 0 ≤ y) (h1 : y ≤ 4611686018427387904) : times2 ((m + 1 : Nat) : Int) y = plus2 (times2 (m : Int) y) y := by
  have hb := times2_bd (m : Int) y
  rw [plus2_eq, sz_id hb.1 hb.2, sz_id h0 h1]
  unfold times2
  rw [sz_id (a := ((m + 1 : Nat) : Int)) (by omega) (by omega), sz_id (a := (m : Int)) (by omega) (by omega), sz_id h0 h1]
  rw [show ((m + 1 : Nat) : Int) * y = (m : Int) * y + y by push_cast; rw [Int.add_mul, Int.one_mul]]
  have hp : 0 ≤ (m : Int) * y := Int.mul_nonneg (by omega) h0
  generalize (m : Int) * y = q at *
  unfold capH
  repeat' split
  all_goals omega
theorem times2_zero (y : Int) : times2 0 y = 0 := by
  unfold times2
  rw [show sz 0 = 0 from rfl, Int.zero_mul]
  rfl
theorem ex_take {T : List Ty} {i : Nat} (hi : i ≤ T.length) {c : Int} (h0 : 0 ≤ c) (hc : c < i) : exAt (extL (T.take i)) c = exAt (extL T) c := by
  rw [extL_take T i hi]
  unfold exAt
  simp only [List.getD]
  rw [List.getElem?_take, if_pos (by omega)]
/-- Lengths lie between what their types say. -/
def Btw (X : List Ex) (ts tl : List Int) : Prop := ts.length = tl.length ∧ ∀ (j : Nat) (t n : Int), ts[j]? = some t → tl[j]? = some n → (exAt X t).l ≤ n ∧ n ≤ (exAt X t).m
theorem Btw.nil (X : List Ex) : Btw X [] [] := ⟨rfl, fun j t n h => by simp at h⟩
theorem Btw.app {X : List Ex} {a b c d : List Int} (h : Btw X a b) (g : Btw X c d) : Btw X (a ++ c) (b ++ d) := by
  refine ⟨by simp [h.1, g.1], fun j t n h1 h2 => ?_⟩
  by_cases hj : j < a.length
  · rw [List.getElem?_append_left hj] at h1
    rw [List.getElem?_append_left (by rw [← h.1]; exact hj)] at h2
    exact h.2 j t n h1 h2
  · rw [List.getElem?_append_right (by omega)] at h1
    rw [List.getElem?_append_right (by rw [← h.1]; omega), ← h.1] at h2
    exact g.2 _ t n h1 h2
theorem Btw.cons {X : List Ex} {a b : List Int} {t n : Int} (h : Btw X a b) (h1 : (exAt X t).l ≤ n) (h2 : n ≤ (exAt X t).m) : Btw X (t :: a) (n :: b) :=
  Btw.app (a := [t]) (b := [n]) ⟨rfl, fun j t' n' g1 g2 => by
    match j, g1, g2 with
    | 0, g1, g2 => simp at g1 g2; subst g1 g2; exact ⟨h1, h2⟩⟩ h
theorem kidsP_btw {T : List Ty} {X : List Ex} {V : List Nv} {x : Nv} {t : Ty} {b : Int} {g : Nat → List Int → Option (Int × List Int)} (hok : tyOk t b = true) (hf : misP t x = 0) (hr : rightV x = true) (hft : fitsP x t = true)
    (hg : ∀ (num : Nat) (L : List Int) (r : Int × List Int), (num : Int) < b → L.length ≤ V.length → g num L = some r → r.2.length ≤ V.length ∧ ∃ tl ts, r.2 = L ++ tl ∧ Went T V [(num : Int)] L.length r.2.length ts ∧ Btw X ts tl ∧ (exAt X (num : Int)).l ≤ r.1 ∧ r.1 ≤ (exAt X (num : Int)).m)
    (LO HI : Nat → Int) (hLO : ∀ (j : Nat) (s v : Int), (j : Int) < x.kids → LO j ≤ s → (exAt X (kidTy x t j)).l ≤ v → LO (j + 1) ≤ plus3 s (offP X t (kidTy x t j)) v) (hHI : ∀ (j : Nat) (s v : Int), (j : Int) < x.kids → s ≤ HI j → v ≤ (exAt X (kidTy x t j)).m → plus3 s (offP X t (kidTy x t j)) v ≤ HI (j + 1)) :
    ∀ (m : Nat) (s r : Int × List Int), (m : Int) ≤ x.kids → s.2.length ≤ V.length → LO 0 ≤ s.1 → s.1 ≤ HI 0 → kidsP g X x t m s = some r → r.2.length ≤ V.length ∧ (∃ tl ts, r.2 = s.2 ++ tl ∧ Went T V ((kidsT t x).take m) s.2.length r.2.length ts ∧ Btw X ts tl) ∧ LO m ≤ r.1 ∧ r.1 ≤ HI m
  | 0, s, r, hm, hs, h0, h1, h => by
    simp only [kidsP] at h
    injection h with h
    subst h
    exact ⟨hs, ⟨[], [], by simp, by rw [List.take_zero]; exact Went.nil _ _ _, Btw.nil _⟩, h0, h1⟩
  | m + 1, s, r, hm, hs, h0, h1, h => by
    simp only [kidsP, Option.bind_eq_some_iff] at h
    obtain ⟨q, k1, z, k2, k3⟩ := h
    obtain ⟨a2, ⟨t1, n1, e1, a3, a4⟩, a5, a6⟩ := kidsP_btw hok hf hr hft hg LO HI hLO hHI m s q (by omega) hs h0 h1 k1
    have hk := kidTy_bd (j := m) hok hft (by omega)
    have hk' : (((kidTy x t m).toNat : Nat) : Int) = kidTy x t m := by omega
    obtain ⟨b2, t2, n2, e2, b3, b4, b5, b6⟩ := hg _ _ _ (by omega) a2 k2
    rw [hk'] at b3 b5 b6
    have hat := kidsT_at (j := m) hok hf hr (by omega)
    have hml : m < (kidsT t x).length := (List.getElem?_eq_some_iff.1 hat).1
    injection k3 with k3
    subst k3
    refine ⟨b2, ⟨t1 ++ t2, n1 ++ n2, by rw [e2, e1, List.append_assoc], ?_, a4.app b4⟩, hLO m _ _ (by omega) a5 b5, hHI m _ _ (by omega) a6 b6⟩
    rw [List.take_succ_eq_append_getElem hml, (List.getElem?_eq_some_iff.1 hat).2]
    exact a3.app b3
theorem offP_6 {X : List Ex} {t : Ty} {c : Int} (h : t.k = 6 ∨ t.k = 7) : offP X t c = 0 := by unfold offP; rw [if_pos (by rcases h with h | h <;> simp [h])]
theorem offP_4 {X : List Ex} {t : Ty} {c : Int} (h6 : t.k ≠ 6) (h7 : t.k ≠ 7) : offP X t c = if (exAt X c).f = true then 0 else 4 := by
  unfold offP
  by_cases hf : (exAt X c).f = true
  · rw [if_pos (by simp [hf]), if_pos hf]
  · rw [if_neg (by simp [hf, h6, h7]), if_neg hf]
/-- What the kids add up to, for each kind: bounds step by step. -/
theorem bounds {T : List Ty} {R : List Rt} (hS : OkS T R) {num : Nat} (hn : num < T.length) {x : Nv} (hxo : NvOk x) (hft : fitsP x (T.getD num ty0) = true) :
    ∃ LO HI : Nat → Int, LO 0 ≤ ownP x (T.getD num ty0) ∧ ownP x (T.getD num ty0) ≤ HI 0 ∧
      (∀ (j : Nat) (s v : Int), (j : Int) < x.kids → LO j ≤ s → (exAt (extL T) (kidTy x (T.getD num ty0) j)).l ≤ v → LO (j + 1) ≤ plus3 s (offP (extL T) (T.getD num ty0) (kidTy x (T.getD num ty0) j)) v) ∧
      (∀ (j : Nat) (s v : Int), (j : Int) < x.kids → s ≤ HI j → v ≤ (exAt (extL T) (kidTy x (T.getD num ty0) j)).m → plus3 s (offP (extL T) (T.getD num ty0) (kidTy x (T.getD num ty0) j)) v ≤ HI (j + 1)) ∧
      (exAt (extL T) (num : Int)).l ≤ LO x.kids.toNat ∧ HI x.kids.toNat ≤ (exAt (extL T) (num : Int)).m := by
  have hok := hS.ty num hn
  have hXo : ∀ y ∈ extL T, XOk y := fun y hy => (extL_ok hS T.length (Nat.le_refl _) y (by rw [List.take_length]; exact hy)).1
  have hE := exAt_ext (T := T) (i := num) (t := T.getD num ty0) (by simp [List.getD, hn])
  have hK : ∀ c : Int, 0 ≤ c → c < num → exAt (extL (T.take num)) c = exAt (extL T) c := fun c h0 h1 => ex_take (by omega) h0 h1
  obtain ⟨hr, hm⟩ := (fits_iff hok hxo).1 hft
  have hkids := rightV_kids hr
  have hkb := fun (j : Nat) (hj : (j : Int) < x.kids) => kidTy_bd (j := j) hok hft hj
  rw [hE]
  generalize hX : extL T = X at *
  generalize T.getD num ty0 = t at *
  generalize extL (T.take num) = Y at *
  obtain ⟨k, n, el, ps⟩ := t
  obtain ⟨xk, xn, xd⟩ := x
  have hk := tyOk_kind hok
  dsimp only at hk hkids hkb hxo ⊢
  rcases hk with rfl | rfl | rfl | rfl | rfl | rfl | rfl | rfl
  · have hd : xd = 0 := by simp [fitsP] at hft; exact hft.1.2
    subst hd
    exact ⟨fun _ => n, fun _ => n, by simp [ownP], by simp [ownP], fun j s v hj => by omega, fun j s v hj => by omega, by simp [ext1], by simp [ext1]⟩
  · have hd : xd = 0 := by simp [fitsP] at hft; exact hft.1.2
    subst hd
    exact ⟨fun _ => 1, fun _ => 1, by simp [ownP], by simp [ownP], fun j s v hj => by omega, fun j s v hj => by omega, by simp [ext1], by simp [ext1]⟩
  · have hd : xd = 0 := by simp [fitsP] at hft; exact hft.2
    subst hd
    have hle := leb_le (m := xn.toNat) (by have := hxo.1; have := hxo.2; simp only at *; omega)
    have hlp := leb_pos xn.toNat
    have ho : ownP ⟨xk, xn, 0⟩ ⟨3, n, el, ps⟩ = ((lebN xn.toNat : Nat) : Int) := by simp [ownP, lebN]
    exact ⟨fun _ => 1, fun _ => 10, by show (1 : Int) ≤ _; rw [ho]; omega, by show _ ≤ (10 : Int); rw [ho]; omega, fun j s v hj => by omega, fun j s v hj => by omega, by simp [ext1], by simp [ext1]⟩
  · have hd : xd = n := by simp [fitsP] at hft; exact hft.2
    have hel := tyOk_elem hok rfl
    simp only at hel
    have hnk := nOk_n hok
    simp at hnk
    have hX1 := (XOk.at hXo el).off
    refine ⟨fun j => times2 (j : Int) (offX (exAt X el)).l, fun j => times2 (j : Int) (offX (exAt X el)).m, ?_, ?_, fun j s v hj h1 h2 => ?_, fun j s v hj h1 h2 => ?_, ?_, ?_⟩
    · show times2 ((0 : Nat) : Int) _ ≤ _
      rw [show ((0 : Nat) : Int) = 0 from rfl, times2_zero]; simp [ownP]
    · show _ ≤ times2 ((0 : Nat) : Int) _
      rw [show ((0 : Nat) : Int) = 0 from rfl, times2_zero]; simp [ownP]
    · simp only [kidTy] at h2 ⊢
      rw [if_neg (by decide), if_neg (by decide)] at h2 ⊢
      rw [offP_4 (by simp) (by simp), times2_succ j (by omega) hX1.l0 (Int.le_trans hX1.lm hX1.mh)]
      exact step_lo h1 h2
    · simp only [kidTy] at h2 ⊢
      rw [if_neg (by decide), if_neg (by decide)] at h2 ⊢
      rw [offP_4 (by simp) (by simp), times2_succ j (by omega) (Int.le_trans hX1.l0 hX1.lm) hX1.mh]
      exact step_hi h1 h2
    · simp only [ext1]
      rw [hK el hel.1 hel.2, show ((xd.toNat : Nat) : Int) = n by omega]
      simp
    · simp only [ext1]
      rw [hK el hel.1 hel.2, show ((xd.toNat : Nat) : Int) = n by omega]
      simp
  · have hd : xd ≤ n := by simp [fitsP] at hft; exact hft.2
    have hel := tyOk_elem hok rfl
    simp only at hel
    have hX1 := (XOk.at hXo el).off
    refine ⟨fun _ => 0, fun j => times2 (j : Int) (offX (exAt X el)).m, ?_, ?_, fun j s v hj h1 h2 => ?_, fun j s v hj h1 h2 => ?_, ?_, ?_⟩
    · simp [ownP]
    · show _ ≤ times2 ((0 : Nat) : Int) _
      rw [show ((0 : Nat) : Int) = 0 from rfl, times2_zero]; simp [ownP]
    · show (0 : Int) ≤ _
      unfold plus3 capH
      have := tot_nonneg [s, offP X ⟨5, n, el, ps⟩ (kidTy ⟨xk, xn, xd⟩ ⟨5, n, el, ps⟩ j), v]
      split <;> omega
    · simp only [kidTy] at h2 ⊢
      rw [if_neg (by decide), if_neg (by decide)] at h2 ⊢
      rw [offP_4 (by simp) (by simp), times2_succ j (by omega) (Int.le_trans hX1.l0 hX1.lm) hX1.mh]
      exact step_hi h1 h2
    · simp only [ext1]
      simp [times2_zero]
    · simp only [ext1]
      rw [hK el hel.1 hel.2]
      simp
      exact times2_mono (by omega) (Int.le_refl _)
  · have hel := tyOk_elem hok rfl
    simp only at hel
    have hps : ps = [] := tyOk_none hok (by simp) (by simp)
    subst hps
    have hd : xd = 0 ∨ xd = 1 := by simp [fitsP] at hft; exact hft.2
    have hc := chX_ge (kidL Y 6 el [] ++ [ex0])
    have hkl : kidL Y 6 el [] ++ [ex0] = [exAt X el, ex0] := by
      unfold kidL
      rw [if_pos (by rfl), hK el hel.1 hel.2]
      rfl
    rw [hkl] at hc
    have hc0 := hc ex0 (by simp)
    have hc1 := hc (exAt X el) (by simp)
    refine ⟨fun j => if j = 0 then 1 else plus2 1 (chX [exAt X el, ex0]).1, fun j => if j = 0 then 1 else plus2 1 (chX [exAt X el, ex0]).2, ?_, ?_, fun j s v hj h1 h2 => ?_, fun j s v hj h1 h2 => ?_, ?_, ?_⟩
    · simp [ownP]
    · simp [ownP]
    · have hj0 : j = 0 := by omega
      subst hj0
      simp only [kidTy] at h2 ⊢
      rw [if_neg (by decide), if_neg (by decide)] at h2 ⊢
      rw [offP_6 (.inl rfl), ← plus_in]
      simp only [if_true] at h1
      show plus2 1 (chX [exAt X el, ex0]).1 ≤ plus2 s v
      exact plus2_mono h1 (by omega)
    · have hj0 : j = 0 := by omega
      subst hj0
      simp only [kidTy] at h2 ⊢
      rw [if_neg (by decide), if_neg (by decide)] at h2 ⊢
      rw [offP_6 (.inl rfl), ← plus_in]
      simp only [if_true] at h1
      show plus2 s v ≤ plus2 1 (chX [exAt X el, ex0]).2
      exact plus2_mono h1 (by omega)
    · simp only [ext1]
      rw [hkl]
      simp
      have h1 : plus2 1 (chX [exAt X el, ex0]).1 ≤ plus2 1 0 := plus2_mono (Int.le_refl _) hc0.1
      have h2 : plus2 1 0 = 1 := by decide
      split <;> omega
    · simp only [ext1]
      rw [hkl]
      simp
      have h1 : plus2 1 0 ≤ plus2 1 (chX [exAt X el, ex0]).2 := plus2_mono (Int.le_refl _) hc0.2
      have h2 : plus2 1 0 = 1 := by decide
      split <;> omega
  · have hd : xd = 1 := by simp [fitsP] at hft; exact hft.1.2
    subst hd
    have hc := chX_ge (kidL Y 7 el ps)
    have hkt := hkb 0 (by omega)
    have hin : exAt X (kidTy ⟨xk, xn, 1⟩ ⟨7, n, el, ps⟩ 0) ∈ kidL Y 7 el ps := by
      have hs : ∃ m, armI ps xn = some m := by simp [fitsP] at hft; exact Option.isSome_iff_exists.1 hft.2
      obtain ⟨m, hm⟩ := hs
      obtain ⟨p, hp, -⟩ := armI_some hm
      have e : kidTy ⟨xk, xn, 1⟩ ⟨7, n, el, ps⟩ 0 = p.ty := by simp [kidTy, hm, List.getD, hp]
      rw [e] at hkt ⊢
      rw [← hK p.ty hkt.1 hkt.2]
      unfold kidL
      exact List.mem_append.2 (.inr (List.mem_map.2 ⟨p, List.mem_of_getElem? hp, rfl⟩))
    have hc1 := hc _ hin
    refine ⟨fun j => if j = 0 then 1 else plus2 1 (chX (kidL Y 7 el ps)).1, fun j => if j = 0 then 1 else plus2 1 (chX (kidL Y 7 el ps)).2, ?_, ?_, fun j s v hj h1 h2 => ?_, fun j s v hj h1 h2 => ?_, ?_, ?_⟩
    · simp [ownP]
    · simp [ownP]
    · have hj0 : j = 0 := by omega
      subst hj0
      rw [offP_6 (.inr rfl), ← plus_in]
      simp only [if_true] at h1
      show plus2 1 (chX (kidL Y 7 el ps)).1 ≤ plus2 s v
      exact plus2_mono h1 (by omega)
    · have hj0 : j = 0 := by omega
      subst hj0
      rw [offP_6 (.inr rfl), ← plus_in]
      simp only [if_true] at h1
      show plus2 s v ≤ plus2 1 (chX (kidL Y 7 el ps)).2
      exact plus2_mono h1 (by omega)
    · simp [ext1]
    · simp [ext1]
  · have hd : xd = (ps.length : Int) := by simp [fitsP] at hft; exact hft.2
    have hkl : kidL Y 8 el ps = ps.map (fun p => exAt Y p.ty) := by
      unfold kidL
      rw [if_neg (by decide)]
      rfl
    have hat : ∀ (j : Nat), (j : Int) < xd → (kidL Y 8 el ps)[j]? = some (exAt X (kidTy ⟨xk, xn, xd⟩ ⟨8, n, el, ps⟩ j)) := fun j hj => by
      have hjl : j < ps.length := by omega
      have h2 := hkb j hj
      have e : kidTy ⟨xk, xn, xd⟩ ⟨8, n, el, ps⟩ j = (ps[j]'hjl).ty := by simp [kidTy, List.getD, hjl]
      rw [e] at h2 ⊢
      rw [hkl, List.getElem?_map, List.getElem?_eq_getElem hjl, ← hK _ h2.1 h2.2]
      rfl
    refine ⟨fun j => (rowX ((kidL Y 8 el ps).take j)).2.1, fun j => (rowX ((kidL Y 8 el ps).take j)).2.2, ?_, ?_, fun j s v hj h1 h2 => ?_, fun j s v hj h1 h2 => ?_, ?_, ?_⟩
    · simp [ownP, rowX]
    · simp [ownP, rowX]
    · show (rowX ((kidL Y 8 el ps).take (j + 1))).2.1 ≤ _
      rw [rowX_succ (hat j hj), offP_4 (by simp) (by simp)]
      exact step_lo h1 h2
    · show _ ≤ (rowX ((kidL Y 8 el ps).take (j + 1))).2.2
      rw [rowX_succ (hat j hj), offP_4 (by simp) (by simp)]
      exact step_hi h1 h2
    · show _ ≤ (rowX ((kidL Y 8 el ps).take xd.toNat)).2.1
      rw [List.take_of_length_le (by rw [hkl]; simp; omega)]
      simp [ext1]
    · show (rowX ((kidL Y 8 el ps).take xd.toNat)).2.2 ≤ _
      rw [List.take_of_length_le (by rw [hkl]; simp; omega)]
      simp [ext1]
theorem nxP_btw {T : List Ty} {R : List Rt} {V : List Nv} (hS : OkS T R) (hV : ∀ x ∈ V, NvOk x) : ∀ (f num : Nat) (L : List Int) (r : Int × List Int), num < T.length → L.length ≤ V.length → nxP T (extL T) V f num L = some r → r.2.length ≤ V.length ∧ ∃ tl ts, r.2 = L ++ tl ∧ Went T V [(num : Int)] L.length r.2.length ts ∧ Btw (extL T) ts tl ∧ (exAt (extL T) (num : Int)).l ≤ r.1 ∧ r.1 ≤ (exAt (extL T) (num : Int)).m
  | 0, _, _, _, _, _, h => by simp [nxP] at h
  | f + 1, num, L, r, hn, hL, h => by
    have hlen := nxP_len (f + 1) num L r hL h
    simp only [nxP] at h
    split at h
    · rename_i hc
      simp only [Bool.and_eq_true, decide_eq_true_eq] at hc
      obtain ⟨hc1, hc2⟩ := hc
      rw [Option.bind_eq_some_iff] at h
      obtain ⟨s, h1, h2⟩ := h
      have hok := hS.ty num hn
      have hx : V[L.length]? = some (V.getD L.length nv0) := by simp [List.getD, hc1]
      have hxo : NvOk (V.getD L.length nv0) := hV _ (List.mem_of_getElem? hx)
      obtain ⟨hr, hm⟩ := (fits_iff hok hxo).1 hc2
      have hkids := rightV_kids hr
      obtain ⟨LO, HI, o1, o2, o3, o4, o5, o6⟩ := bounds hS hn hxo hc2
      obtain ⟨a2, ⟨tl, ts, e, a3, a4⟩, a5, a6⟩ := kidsP_btw (V := V) (T := T) hok hm hr hc2 (fun n' L' r' hn' hL' hg => nxP_btw hS hV f n' L' r' (by omega) hL' hg) LO HI o3 o4 (V.getD L.length nv0).kids.toNat _ _ (by omega) (by simp; omega) o1 o2 h1
      injection h2 with h2
      subst h2
      have hkl := kidsT_len hok hm hr
      rw [List.take_of_length_le (by omega)] at a3
      simp only at e
      simp only [List.length_append, List.length_singleton] at a3
      refine ⟨hlen.2, s.1 :: tl, (num : Int) :: ts, ?_, ?_, a4.cons (by omega) (by omega), by simp only; omega, by simp only; omega⟩
      · simp only
        rw [e, nx_set]
      · simp only [List.length_set]
        exact Went.one hx (b := num) (by simpa using hok) hr (by simpa using hm) (by simpa using a3)
    · cases h
end Go.Proofs.Ytdpkmkhflgmioaa

/- SizeBetween, plain: lists made short; what is made under them is of the type. -/
namespace Go.Proofs.Ytdpkmkhflgmioaa
open Go.RowKit
set_option linter.unusedVariables false
set_option linter.unusedSimpArgs false

def sh1 (t : Ty) : Ty := if t.k = 5 then ⟨t.k, min t.n 3, t.e, t.ps⟩ else t
def shT (T : List Ty) : List Ty := T.map sh1
theorem shT_len (T : List Ty) : (shT T).length = T.length := by simp [shT]
theorem sh1_ps (t : Ty) : (sh1 t).ps = t.ps := by unfold sh1; split <;> rfl
theorem sh1_k (t : Ty) : (sh1 t).k = t.k := by unfold sh1; split <;> rfl
theorem sh1_e (t : Ty) : (sh1 t).e = t.e := by unfold sh1; split <;> rfl
theorem shT_getD (T : List Ty) (i : Nat) : (shT T).getD i ty0 = sh1 (T.getD i ty0) := by
  unfold shT
  simp only [List.getD, List.getElem?_map]
  cases T[i]? <;> rfl
theorem sh_dep (T : List Ty) : depL (shT T) = depL T := by
  unfold shT
  refine snoc_ind (P := fun T => depL (T.map sh1) = depL T) rfl (fun T t ih => ?_) T
  rw [List.map_append, List.map_singleton, depL_snoc, depL_snoc, ih]
  congr 2
  unfold dep1
  rw [sh1_ps, sh1_k, sh1_e]
theorem sh_ty {t : Ty} {i : Int} (h : tyOk t i = true) : tyOk (sh1 t) i = true := by
  obtain ⟨h1, h2, h3⟩ := tyOk_parts h
  unfold tyOk
  rw [sh1_ps, sh1_k, sh1_e, h2, h3]
  simp only [Bool.and_true]
  unfold sh1
  split
  · rename_i hk
    have h1 := of_decide_eq_true h1
    refine decide_eq_true ?_
    simp only
    rw [hk] at h1 ⊢
    omega
  · exact h1
theorem sh_ok {T : List Ty} {R : List Rt} (h : OkS T R) : OkS (shT T) R := by
  refine ⟨fun j hj => ?_, fun j hj => ?_, fun j hj => ?_⟩
  · rw [shT_len] at hj
    rw [shT_getD]
    exact sh_ty (h.ty j hj)
  · rw [shT_len] at hj
    rw [sh_dep]
    exact h.dep j hj
  · rw [shT_len]
    exact h.root j hj
theorem sh_mis {t : Ty} {x : Nv} (h : misP (sh1 t) x = 0) : misP t x = 0 := by
  unfold sh1 at h
  split at h
  · rename_i hk
    obtain ⟨k, n, el, ps⟩ := t
    simp only at hk
    subst hk
    unfold misP at h ⊢
    simp only at h ⊢
    split at h
    · cases h
    · rename_i hn
      rw [if_neg hn]
      simp only [show ¬ (5 : Int) = 1 by decide, show ¬ (5 : Int) = 4 by decide, if_false, if_true] at h ⊢
      split at h
      · cases h
      · rename_i hm
        rw [if_neg (by omega)]
  · exact h
theorem sh_kids (t : Ty) (x : Nv) : kidsT (sh1 t) x = kidsT t x := by
  unfold kidsT
  rw [sh1_ps, sh1_k, sh1_e]
theorem wk_sh (T : List Ty) : ∀ (v : List Nv) (st : List Int) (i : Nat), (wkT (shT T) st v i).2.1 = 0 → wkT T st v i = wkT (shT T) st v i
  | [], [], i, h => rfl
  | [], s :: st, i, h => rfl
  | x :: v, [], i, h => rfl
  | x :: v, s :: st, i, h => by
    have hm : misP (sh1 (T.getD s.toNat ty0)) x = 0 := by
      rw [wkT, shT_getD] at h
      split at h
      · rename_i hn; exact absurd h hn
      · rename_i hn; exact Decidable.of_not_not hn
    have hm2 : misP ((shT T).getD s.toNat ty0) x = 0 := by rw [shT_getD]; exact hm
    rw [wkT_step hm2, apT_err, shT_getD, sh_kids] at h
    rw [wkT_step hm2, wkT_step (sh_mis hm), shT_getD, sh_kids, wk_sh T v _ _ h]
/-- What Some makes under short lists is of the type, and its lengths lie between. -/
structure Betw (T : List Ty) (R : List Rt) (t : Int) (V : List Nv) (nums tl : List Int) : Prop where
  ty : tyV T R t V = (nums, 0, 0)
  le : lenP T R t V = (0, tl)
  nl : nums.length = V.length
  tn : tl.length = V.length
  v0 : 0 < V.length
  v1 : V.length ≤ 1048576
  ok : ∀ x ∈ V, NvOk x
  ins : ∀ s ∈ nums, 0 ≤ s ∧ s < T.length
  btw : Btw (extL T) nums tl
theorem sh_some {T : List Ty} {R : List Rt} {t : Int} {p : List Int} {V : List Nv} (hS : OkS T R) (h0 : 0 ≤ t) (h1 : t < T.length) (h : someT (shT T) R t p = (V, 0)) : ∃ nums tl, Betw T R t V nums tl := by
  have hS2 := sh_ok hS
  have h1' : t < (shT T).length := by rw [shT_len]; exact h1
  have hm : mkT (shT T) p 1048578 [t] [] = some V := by
    unfold someT at h
    rw [if_neg (by rw [hS2.chk]; simp), if_neg (by omega)] at h
    split at h
    · rename_i v hv
      injection h with h
      rw [hv, h]
    · injection h with _ h; cases h
  obtain ⟨nums, a1, a2, a3, -, a5, -⟩ := some_back hS2 h0 h1' hm
  rcases someT_ok (p := p) hS2 h0 h1' with e | ⟨W, e, w1, w2, w3⟩
  · rw [e] at h; injection h with _ h; cases h
  · rw [e] at h
    injection h with h _
    subst h
    have hw : wkT T [t] W 0 = (nums, 0, 0) := by rw [wk_sh T W [t] 0 (by rw [a1]), a1]
    have hty : tyV T R t W = (nums, 0, 0) := by
      unfold tyV
      rw [if_neg (by rw [hS.chk]; simp), if_neg (by omega), if_neg (by rw [a2]; simp), hw]
    obtain ⟨r, hr, hrl, hlen, -⟩ := len_good hS w3 h0 h1 (by rw [hty])
    obtain ⟨-, tl, ts, e1, e2, e3, -, -⟩ := nxP_btw hS w3 _ _ _ _ (by omega) (Nat.zero_le _) hr
    rw [List.nil_append] at e1
    have hts : ts = nums := by
      have h2 := e2.2.1 []
      rw [hrl, List.drop_length, List.length_nil, List.drop_zero, List.append_nil, show ((t.toNat : Nat) : Int) = t by omega, hw] at h2
      rw [show wkT T [] [] W.length = ([], 0, 0) by unfold wkT; rfl] at h2
      unfold apT at h2
      simp at h2
      exact h2.symm
    subst hts
    refine ⟨ts, tl, hty, by rw [hlen, e1], a3, by rw [← e1]; exact hrl, w1, w2, w3, fun s hs => ?_, e3⟩
    have := a5 s hs
    rw [shT_len] at this
    exact this
end Go.Proofs.Ytdpkmkhflgmioaa

/- The document's Walk.length: the walk. -/
namespace Go.Proofs.Ytdpkmkhflgmioaa
open Go.RowKit
set_option linter.unusedVariables false

set_option maxRecDepth 100000 in
set_option maxHeartbeats 16000000 in
theorem wlen_any (wb : World) (bT oT cT : Nat) (T : List Ty) (aR : Option Addr) (cR : Nat) (R : List Rt) (bX oX cX : Nat) (X : List Ex) (bV oV cV : Nat) (V : List Nv) (bw gM cM : Nat) (hV : V.length ≤ 2000000) (hS : Hid (OkS T R)) (hXl : Hid (X.length = T.length)) (hNv : Hid (∀ x ∈ V, NvOk x)) (hT : Hid (TRow wb (some ⟨bT, oT, none⟩) T)) (hX : Hid (XRow wb (some ⟨bX, oX, none⟩) X)) (hVr : Hid (VRow wb (some ⟨bV, oV, none⟩) V)) :
    ∀ (f num : Nat) (w : World) (M L : List Int) (n : Int) (tl : List Int) (p : Nat), num < T.length → Hid (nxP T X V f num L = some (n, L ++ tl)) → Hid (L.length = p) → Hid (M.length = V.length) → Hid (Below wb.heap.size wb w) → Hid (Blk w bw 109 [.slice (some ⟨bT, oT, none⟩) T.length cT, .slice aR R.length cR, .slice (some ⟨bX, oX, none⟩) T.length cX, .slice (some ⟨bV, oV, none⟩) V.length cV, .slice (some ⟨gM, 0, none⟩) V.length cM]) → Hid (IOwn w wb.heap.size (.slice (some ⟨gM, 0, none⟩) V.length cM) M) →
      Calls Try.prog 61 #[.pointer (some ⟨bw, 0, none⟩), .int .i64 (num : Int), .int .i64 (p : Int)] w fun e w' => WlTo n p (p + tl.length) M tl gM cM V.length wb.heap.size w e w' := by
  intro f
  induction f with
  | zero => intro num w M L n tl p hn h; exact absurd h.out (by simp [nxP])
  | succ f ih =>
    intro num w M L n tl p hn hnx hLp hM hBw hK hO
    have hih := hide_ ih
    clear ih
    obtain ⟨hlt0, hft0, tl', rfl, hkd0⟩ := nx_open hnx.out
    have hlen := nxP_len _ _ _ _ (by omega) hnx.out
    simp only [List.length_append, List.length_cons] at hlen
    rw [hLp.out] at hlt0 hft0 hkd0 hlen
    have hlt' : (p : Int) < V.length := by omega
    have hn' : (num : Int) < T.length := by omega
    have hok := hS.out.ty num hn
    have htS : T[num]? = some (T[num]'hn) := List.getElem?_eq_getElem hn
    have hxV : V[p]? = some (V[p]'hlt0) := List.getElem?_eq_getElem hlt0
    rw [show T.getD num ty0 = T[num]'hn by simp [List.getD, hn]] at hok hft0 hkd0
    rw [show V.getD p nv0 = V[p]'hlt0 by simp [List.getD, hlt0]] at hft0 hkd0
    have hnvx := hNv.out _ (List.mem_of_getElem? hxV)
    obtain ⟨hrx, hmx⟩ := (fits_iff hok hnvx).1 hft0
    obtain ⟨_, _, e3, hbT, hcT⟩ := hT.out.open (by omega)
    injection e3 with e3
    injection e3 with e4 e5 _
    subst e4 e5
    obtain ⟨va, vc, hty, hvc, -, hpr⟩ := hcT num _ htS
    obtain ⟨_, _, e6, hbV, hcV⟩ := hVr.out.open (by omega)
    injection e6 with e6
    injection e6 with e7 e8 _
    subst e7 e8
    have hnd := hcV p _ hxV
    generalize T[num]'hn = t at *
    generalize V[p]'hlt0 = x at *
    have hzb : wb.heap.size ≤ w.heap.size := hBw.out.size
    have hty' := fun j (hj : j < 4) => (hBw.out.cell (p := ⟨bT, oT + num * 4 + j, none⟩) hbT).trans (hty j hj)
    have hnd' := fun j (hj : j < 3) => (hBw.out.cell (p := ⟨bV, oV + p * 3 + j, none⟩) hbV).trans (hnd j hj)
    have t0 := hty' 0 (by decide); have t1 := hty' 1 (by decide); have t2 := hty' 2 (by decide); have t3 := hty' 3 (by decide)
    have x0 := hnd' 0 (by decide); have x1 := hnd' 1 (by decide); have x2 := hnd' 2 (by decide)
    simp [tyc] at t0 t1 t2 t3
    simp [nvc] at x0 x1 x2
    obtain ⟨k, tn, el, ps⟩ := t
    obtain ⟨xk, xn, xd⟩ := x
    simp only at t0 t1 t2 t3 x0 x1 x2
    have c0 := hK.out.cell 0
    simp at c0
    obtain ⟨wA, hwA⟩ : ∃ wx, wx = w.alloc (.cells #[.int .i64 k, .int .i64 tn, .int .i64 el, .slice va ps.length vc] 62) := ⟨_, rfl⟩
    have hBA : Below w.heap.size w wA := by rw [hwA]; exact below1 _ _
    have c3 := (hK.out.later hBA).cell 3
    simp at c3
    have hzV : bV < w.heap.size := by omega
    have x0 := (hBA.cell (p := ⟨bV, oV + p * 3, none⟩) hzV).trans x0
    have x1 := (hBA.cell (p := ⟨bV, oV + p * 3 + 1, none⟩) hzV).trans x1
    have x2 := (hBA.cell (p := ⟨bV, oV + p * 3 + 2, none⟩) hzV).trans x2
    have hB := below2 w (.cells #[.int .i64 k, .int .i64 tn, .int .i64 el, .slice va ps.length vc] 62) (.cells #[.int .i64 xk, .int .u64 xn, .int .i64 xd] 58)
    obtain ⟨k1, k2⟩ := blk2 w #[.int .i64 k, .int .i64 tn, .int .i64 el, .slice va ps.length vc] #[.int .i64 xk, .int .u64 xn, .int .i64 xd] 62 58
    rw [← hwA] at hB k1 k2
    have hzA : wA.heap.size = w.heap.size + 1 := by rw [hwA]; exact World.size_alloc _ _
    obtain ⟨w0, hw0⟩ : ∃ wx, wx = wA.alloc (.cells #[.int .i64 xk, .int .u64 xn, .int .i64 xd] 58) := ⟨_, rfl⟩
    rw [← hw0] at hB k1 k2
    have HzA := hide_ hzA
    have HB0 := hide_ hB
    have KT0 := hide_ k1
    have k2 : Blk w0 wA.heap.size 58 [.int .i64 xk, .int .u64 xn, .int .i64 xd] := by rw [hzA]; exact k2
    have KX0 := hide_ k2
    have KW0 := hide_ (hK.out.later hB)
    have HO0 := hide_ (hO.out.later hB)
    have HBw0 := hide_ (hBw.out.trans (hB.mono hzb))
    have HOk := hide_ hok
    have HFt := hide_ hft0
    have HKd := hide_ hkd0
    have HPr := hide_ hpr
    have HRx := hide_ hrx
    have HMx := hide_ hmx
    have HLen := hide_ hlen
    have i0 := k1.cell 0; have i1 := k1.cell 1
    have j1 := k2.cell 1
    simp at i0 i1 j1
    have hkk := fits_kids hok hft0
    have hxd0 := (rightV_kids hrx).1
    have hxn0 : 0 ≤ xn := hnvx.1
    have hxn1 : xn < 18446744073709551616 := hnvx.2
    simp only at hkk hxd0
    have hw1 : wrap64 ((p : Int) + 1) = (p : Int) + 1 := w64 _ (by omega)
    have HW1 := hide_ hw1
    obtain ⟨o0, ho0⟩ : ∃ o0, ownP ⟨xk, xn, xd⟩ ⟨k, tn, el, ps⟩ = o0 := ⟨_, rfl⟩
    rw [ho0] at HKd
    have HO : Hid (ownP ⟨xk, xn, xd⟩ ⟨k, tn, el, ps⟩ = o0) := hide_ ho0
    have hkc := tyOk_kind hok
    simp only at hkc
    clear hty hnd hty' hnd' hcT hcV hxV htS hpr hok hB k1 k2 hft0 hkd0 hrx hmx hlen hnvx hvc hw1 ho0 hBA hzA
    obtain ⟨pq, hpq⟩ : ∃ pq, p + (n :: tl').length = pq := ⟨_, rfl⟩
    rw [hpq]
    have HPq := hide_ hpq
    clear hpq
    go_enter Try.func61, Try.ntmps61
    go_upto_region 2 with fail
    rw [← hwA]
    clear hwA t0 t1 t2 t3 c0
    go_upto_region 4 with fail
    rw [← hw0]
    clear hw0 x0 x1 x2 c3
    go_upto_block 0 with fail
    go_cut [10] from 33 to 45 (fun x10 wc => x10 = .int .i64 o0 ∧ w0 = wc)
    case first =>
      obtain ⟨m, rfl⟩ := Int.eq_ofNat_of_zero_le hxn0
      have HLeb := hide_ (leb_any m w0 (by omega))
      rcases hkc with rfl | rfl | rfl | rfl | rfl | rfl | rfl | rfl
      · have hv : o0 = tn := by rw [← HO.out]; rfl
        subst hv
        go_wp2
        go_meet
        case rel => exact ⟨rfl, rfl⟩
      · have hv : o0 = 1 := by rw [← HO.out]; rfl
        subst hv
        go_wp2
        go_meet
        case rel => exact ⟨rfl, rfl⟩
      · have hv : o0 = ((lebN m : Nat) : Int) := by rw [← HO.out]; simp [ownP, lebN]
        subst hv
        go_wp2_with fail
        refine HLeb.out.mono ?_
        rintro e w' ⟨rfl, rfl⟩
        go_wp2
        go_meet
        case rel => exact ⟨rfl, rfl⟩
      · have hv : o0 = 0 := by rw [← HO.out]; rfl
        subst hv
        go_wp2
        go_meet
        case rel => exact ⟨rfl, rfl⟩
      · have hv : o0 = 0 := by rw [← HO.out]; rfl
        subst hv
        go_wp2
        go_meet
        case rel => exact ⟨rfl, rfl⟩
      · have hv : o0 = 1 := by rw [← HO.out]; rfl
        subst hv
        go_wp2
        go_meet
        case rel => exact ⟨rfl, rfl⟩
      · have hv : o0 = 1 := by rw [← HO.out]; rfl
        subst hv
        go_wp2
        go_meet
        case rel => exact ⟨rfl, rfl⟩
      · have hv : o0 = 0 := by rw [← HO.out]; rfl
        subst hv
        go_wp2
        go_meet
        case rel => exact ⟨rfl, rfl⟩
    case rest =>
    obtain ⟨rfl, rfl⟩ := hcut
    clear i0 i1 j1
    have j2 := KX0.out.cell 2
    simp at j2
    go_wp2_with fail
    go_loopw [10, 11, 12] (fun x10 x11 x12 wr => ∃ (m : Nat) (len : Int) (tr : List Int) (q : Nat), m ≤ xd.toNat ∧ x12 = .int .i64 (m : Int) ∧ x10 = .int .i64 len ∧ x11 = .int .i64 (q : Int) ∧ Hid (p + 1 + tr.length = q) ∧ Hid (q ≤ V.length) ∧ Hid (kidsP (nxP T X V f) X ⟨xk, xn, xd⟩ ⟨k, tn, el, ps⟩ m (o0, L ++ [0]) = some (len, (L ++ [0]) ++ tr)) ∧ Hid (IOwn wr wb.heap.size (.slice (some ⟨gM, 0, none⟩) V.length cM) (spl M (p + 1) tr)) ∧ Hid (Upd (fun k => k = gM) w0 wr)) (fun _ _ x12 _ => xd.toNat - (intOf x12).toNat)
    case atStart => exact ⟨0, o0, [], p + 1, Nat.zero_le _, rfl, rfl, by first | rfl | (push_cast; rfl) | (rw [HW1.out]; push_cast; rfl) | rw [HW1.out], hide_ rfl, hide_ (by omega), hide_ (by simp [kidsP]), hide_ (by rw [spl_nil]; exact HO0.out), hide_ (Upd.refl _ _)⟩
    case round =>
      obtain ⟨m, len, tr, q, hm, rfl, rfl, rfl, HQ, HQV, HKm, HOq, HUq⟩ := hrel
      generalize wr = wq at *
      clear j2 HW1
      have hne : ∀ b t' ys, Blk w0 b t' ys → t' ≠ 3 → ¬ b = gM := fun b t' ys hb ht e => HO0.out.ne hb ht (by rw [e]; rfl)
      have KTq := hide_ (KT0.out.upd HUq.out (hne _ _ _ KT0.out (by decide)))
      have KXq := hide_ (KX0.out.upd HUq.out (hne _ _ _ KX0.out (by decide)))
      have KWq := hide_ (KW0.out.upd HUq.out (hne _ _ _ KW0.out (by decide)))
      have hgM : wb.heap.size ≤ gM := (HO0.out.lt gM rfl).1
      have HBq : Hid (Below wb.heap.size wb wq) := hide_ (HBw0.out.trans (HUq.out.below _ HBw0.out.size (fun b hb => by rw [hb]; exact hgM)))
      have hzq := HBq.out.size
      have z0 := KTq.out.cell 0; have z1 := KTq.out.cell 1; have z2 := KTq.out.cell 2; have z3 := KTq.out.cell 3
      have y0 := KXq.out.cell 0; have y1 := KXq.out.cell 1; have y2 := KXq.out.cell 2
      simp at z0 z1 z2 z3 y0 y1 y2
      by_cases hmk : (m : Int) < xd
      · obtain ⟨s1, hs1, hel⟩ := elemR_any ⟨k, tn, el, ps⟩ ⟨xk, xn, xd⟩ va vc _ m wq HOk HMx.out HRx.out hmk (hide_ (HPr.out.later HBq.out))
        have hkt := kidsT_at (j := m) HOk.out HMx.out HRx.out hmk
        rw [hs1] at hkt
        injection hkt with hkt
        obtain ⟨hk0, hk1⟩ := kidTy_bd (j := m) HOk.out HFt.out hmk
        obtain ⟨kl, t2, hnk, hks⟩ := kids_next HKd.out (m := m) (by first | omega | (simp only; omega)) HKm.out
        rw [← hkt] at hk0 hk1 hnk hks
        obtain ⟨kd, rfl⟩ := Int.eq_ofNat_of_zero_le hk0
        rw [Int.toNat_natCast] at hnk
        have hkdT : kd < T.length := by omega
        have hkdT' : (kd : Int) < T.length := by omega
        have hkdX : kd < X.length := by rw [hXl.out]; exact hkdT
        have HEl := hide_ hel
        have hl2 := nxP_len _ _ _ _ (by have := HQ.out; have := HQV.out; have := hLp.out; simp; omega) hnk
        simp only [List.length_append, List.length_cons, List.length_nil] at hl2
        have hlL : ((L ++ [0]) ++ tr).length = q := by have := HQ.out; have := hLp.out; simp; omega
        have hq2 : q + t2.length ≤ V.length := by have := HQ.out; have := hLp.out; omega
        have HNk := hide_ hnk
        have HKs := hide_ hks
        have HMl : Hid ((spl M (p + 1) tr).length = V.length) := hide_ (by rw [spl_len (by have := HQ.out; have := HQV.out; have := hM.out; omega)]; exact hM.out)
        have HCl : Hid (∀ w7, Below wq.heap.size wq w7 → Calls Try.prog 61 #[.pointer (some ⟨bw, 0, none⟩), .int .i64 (kd : Int), .int .i64 (q : Int)] w7 fun e w' => WlTo kl q (q + t2.length) (spl M (p + 1) tr) t2 gM cM V.length wb.heap.size w7 e w') := hide_ (fun w7 h7 => hih.out kd w7 (spl M (p + 1) tr) _ kl t2 q hkdT HNk (hide_ hlL) HMl (hide_ (HBq.out.trans (h7.mono hzq))) (hide_ (KWq.out.later h7)) (hide_ (HOq.out.later h7)))
        obtain ⟨q2, hqq⟩ : ∃ q2, q + t2.length = q2 := ⟨_, rfl⟩
        rw [hqq] at HCl hq2
        have HQ2 : Hid (p + 1 + (tr ++ t2).length = q2) := hide_ (by have := HQ.out; simp; omega)
        obtain ⟨_, _, e9, hbX, hcX⟩ := hX.out.open (by omega)
        injection e9 with e9
        injection e9 with e10 e11 _
        subst e10 e11
        have hx0 := hcX kd _ (exAt_at hkdX) 0 (by decide)
        simp [exc] at hx0
        have HX0 : Hid (∀ w', Below wb.heap.size wb w' → w'.cell? ⟨bX, oX + kd * 4, none⟩ = some (.bool (exAt X (kd : Int)).f)) := hide_ (fun w' h => (h.cell (p := ⟨bX, oX + kd * 4, none⟩) hbX).trans hx0)
        have HSp : Hid (spl (spl M (p + 1) tr) q t2 = spl M (p + 1) (tr ++ t2)) := hide_ (by rw [← HQ.out]; exact spl_app (by have := HQ.out; have := hM.out; omega))
        clear hel hs1 hkt hnk hks hl2 hlL hcX hx0 hkdX hqq HKm HMl
        go_wp2_with fail
        refine HEl.out.mono ?_
        rintro e w7 ⟨rfl, hB7⟩
        have HB7 := hide_ hB7
        clear hB7 z0 z1 z2 z3 y0 y1 y2
        go_wp2_with fail
        refine (HCl.out w7 HB7.out).mono ?_
        rintro e w8 ⟨rfl, HO8, HU8⟩
        rw [HSp.out] at HO8
        have HU80 := hide_ ((HUq.out.then HB7.out).to HU8.out)
        have KT8 := hide_ (KT0.out.upd HU80.out (hne _ _ _ KT0.out (by decide)))
        have KW8 := hide_ (KW0.out.upd HU80.out (hne _ _ _ KW0.out (by decide)))
        have HB8 : Hid (Below wb.heap.size wb w8) := hide_ (HBw0.out.trans (HU80.out.below _ HBw0.out.size (fun b hb => by rw [hb]; exact hgM)))
        have z0 := KT8.out.cell 0
        have v2 := KW8.out.cell 2
        have u0 := HX0.out w8 HB8.out
        simp at z0 v2
        obtain ⟨fx, hfx⟩ : ∃ fx, (exAt X (kd : Int)).f = fx := ⟨_, rfl⟩
        rw [hfx] at u0
        obtain ⟨of, hof⟩ : ∃ of, offP X ⟨k, tn, el, ps⟩ (kd : Int) = of := ⟨_, rfl⟩
        rw [hof] at HKs
        have HOf : Hid ((if k = 6 ∨ k = 7 ∨ fx = true then 0 else 4) = of) := hide_ (by rw [← hof]; unfold offP; rw [hfx])
        clear hfx hof HX0 HCl HEl HSp
        have fin : ∀ (w9 : World), Below w8.heap.size w8 w9 → Hid (IOwn w9 wb.heap.size (.slice (some ⟨gM, 0, none⟩) V.length cM) (spl M (p + 1) (tr ++ t2)) ∧ Upd (fun k => k = gM) w0 w9) := fun w9 h9 => hide_ ⟨HO8.out.later h9, HU80.out.then h9⟩
        have HFin := hide_ fin
        have HK2 : Hid (kidsP (nxP T X V f) X ⟨xk, xn, xd⟩ ⟨k, tn, el, ps⟩ (m + 1) (o0, L ++ [0]) = some (plus3 len of kl, (L ++ [0]) ++ (tr ++ t2))) := hide_ (by rw [HKs.out, List.append_assoc])
        clear fin
        have HZero : Hid (of = 0 → plus2 len kl = plus3 len of kl) := hide_ (fun h => by rw [h]; exact plus_in _ _)
        have HFour : Hid (of = 4 → plus2 len (plus2 kl 4) = plus3 len of kl) := hide_ (fun h => by rw [h]; exact plus_off _ _)
        obtain ⟨pv, hpv⟩ : ∃ pv, plus3 len of kl = pv := ⟨_, rfl⟩
        rw [hpv] at HK2 HZero HFour
        clear hpv HKs HNk HU8
        have HP1 := hide_ (rplus_any kl 4 w8)
        have HP2 : Hid (∀ w9, Calls Try.prog 74 #[.int .i64 len, .int .i64 kl] w9 fun e w' => e = .returned (.int .i64 (plus2 len kl)) ∧ Below w9.heap.size w9 w') := hide_ (fun w9 => rplus_any len kl w9)
        have HP3 : Hid (∀ w9, Calls Try.prog 74 #[.int .i64 len, .int .i64 (plus2 kl 4)] w9 fun e w' => e = .returned (.int .i64 (plus2 len (plus2 kl 4))) ∧ Below w9.heap.size w9 w') := hide_ (fun w9 => rplus_any len (plus2 kl 4) w9)
        obtain ⟨k4, hk4⟩ : ∃ k4, plus2 kl 4 = k4 := ⟨_, rfl⟩
        rw [hk4] at HP1 HP3 HFour
        clear hk4
        have nofour : ∀ (h0 : of = 0), Hid (plus2 len kl = pv) := fun h0 => hide_ (HZero.out h0)
        have last : of = 0 → (k = 6 ∨ k = 7 ∨ fx = true) → True := fun _ _ => trivial
        by_cases h6 : k = 6
        · have hv := nofour (by rw [← HOf.out, if_pos (.inl h6)])
          have c6 : (k != 6) = false := by simp [h6]
          clear h6
          cases fx <;>
          · go_wp2_with fail
            refine (HP2.out _).mono ?_
            rintro e w9 ⟨rfl, hB9⟩
            have H9 := HFin.out _ hB9
            go_wp2_with fail
            go_roundw
            case rel => exact ⟨m + 1, pv, tr ++ t2, q2, by omega, by go_num, by rw [hv.out], rfl, HQ2, hide_ hq2, HK2, hide_ H9.out.1, hide_ H9.out.2⟩
            case measure => simp [intOf]; omega
        have c6 : (k != 6) = true := by simpa using h6
        by_cases h7 : k = 7
        · have hv := nofour (by rw [← HOf.out, if_pos (.inr (.inl h7))])
          have c7 : (k != 7) = false := by simp [h7]
          clear h7
          cases fx <;>
          · go_wp2_with fail
            refine (HP2.out _).mono ?_
            rintro e w9 ⟨rfl, hB9⟩
            have H9 := HFin.out _ hB9
            go_wp2_with fail
            go_roundw
            case rel => exact ⟨m + 1, pv, tr ++ t2, q2, by omega, by go_num, by rw [hv.out], rfl, HQ2, hide_ hq2, HK2, hide_ H9.out.1, hide_ H9.out.2⟩
            case measure => simp [intOf]; omega
        have c7 : (k != 7) = true := by simpa using h7
        cases fx with
        | true =>
          have hv := nofour (by rw [← HOf.out, if_pos (.inr (.inr rfl))])
          go_wp2_with fail
          refine (HP2.out _).mono ?_
          rintro e w9 ⟨rfl, hB9⟩
          have H9 := HFin.out _ hB9
          go_wp2_with fail
          go_roundw
          case rel => exact ⟨m + 1, pv, tr ++ t2, q2, by omega, by go_num, by rw [hv.out], rfl, HQ2, hide_ hq2, HK2, hide_ H9.out.1, hide_ H9.out.2⟩
          case measure => simp [intOf]; omega
        | false =>
          have hv := hide_ (HFour.out (by rw [← HOf.out, if_neg (by simp [h6, h7])]))
          go_wp2_with fail
          refine HP1.out.mono ?_
          rintro e w9 ⟨rfl, hB9⟩
          go_wp2_with fail
          refine (HP3.out _).mono ?_
          rintro e w10 ⟨rfl, hB10⟩
          have H9 := HFin.out _ (below_to hB9 hB10)
          go_wp2_with fail
          go_roundw
          case rel => exact ⟨m + 1, pv, tr ++ t2, q2, by omega, by go_num, by rw [hv.out], rfl, HQ2, hide_ hq2, HK2, hide_ H9.out.1, hide_ H9.out.2⟩
          case measure => simp [intOf]; omega
      · obtain rfl : m = xd.toNat := by omega
        have he := HKd.out
        rw [HKm.out] at he
        simp only [Option.some.injEq, Prod.mk.injEq, List.append_cancel_left_eq] at he
        obtain ⟨hen, het⟩ := he
        have HEn := hide_ hen
        have HEt := hide_ het
        have hpl : p < (spl M (p + 1) tr).length := by rw [spl_len (by have := HQ.out; have := HQV.out; have := hM.out; omega)]; have := hM.out; omega
        obtain ⟨g2, cap2, hv2, hgb, hc2, hf2, hset⟩ := own_set HOq.out hpl
        injection hv2 with e1 e2 e3
        injection e1 with e1
        injection e1 with e1 _ _
        subst e1
        have HUe := hide_ (HUq.out.set ⟨gM, p, none⟩ (.int .i64 len) (.inl rfl))
        have HOe : Hid (IOwn (wq.setCell ⟨gM, p, none⟩ (.int .i64 len)) wb.heap.size (.slice (some ⟨gM, 0, none⟩) V.length cM) (spl M p (n :: tl'))) := hide_ (by
          have h := hset len
          rw [spl_set (by have := HQ.out; have := HQV.out; have := hM.out; omega)] at h
          rw [← HEn.out, ← HEt.out]
          unfold IOwn
          rw [spl_len (by have := HQ.out; have := HQV.out; have := hM.out; simp; omega), ← spl_len (M := M) (i := p + 1) (tl := tr) (by have := HQ.out; have := HQV.out; have := hM.out; omega)]
          exact h)
        have HUf := hide_ ((Upd.of_below (S := fun k => k = gM) HB0.out).trans HUe.out (fun _ _ h => h))
        have hq : p + (n :: tl').length = q := by have := HQ.out; rw [← HEt.out]; simp; omega
        have HQq := hide_ hq
        have v4 := KWq.out.cell 4
        simp at v4
        clear hset hgb z0 z1 z2 z3 y0 y1 hen het e2 e3 hq hpl
        have HN := HEn
        go_wp2
        go_ret2
        refine ⟨?_, HOe, HUf⟩
        rw [← HN.out, show pq = q from HPq.out.symm.trans HQq.out]
        rfl
end Go.Proofs.Ytdpkmkhflgmioaa
