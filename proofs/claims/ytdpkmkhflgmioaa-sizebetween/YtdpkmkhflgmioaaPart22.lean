import Derived.Test.YtdpkmkhflgmioaaPart19
import Derived.Test.YtdpkmkhflgmioaaPart07
import Derived.Test.YtdpkmkhflgmioaaPart11
import Derived.Test.YtdpkmkhflgmioaaPart17

/- size.Lengths, size.Length. -/
namespace Go.Proofs.Ytdpkmkhflgmioaa
open Go.RowKit
set_option linter.unusedVariables false

def lenM (n : Nat) : Option (Int × List Int) → Int × List Int
  | some r => if r.2.length < n then (40, []) else (0, r.2)
  | none => (40, [])
/-- What Lengths answers: the error, the lengths. -/
def lenP (T : List Ty) (R : List Rt) (t : Int) (V : List Nv) : Int × List Int :=
  if (chk T R).1 ≠ 0 then ((chk T R).1, []) else if ¬ (0 ≤ t ∧ t < T.length) then (3, []) else
    lenM V.length (nxP T (extL T) V T.length t.toNat [])
def LenTo (r : Int × List Int) (w : World) (e : Ending) (w' : World) : Prop := ∃ v, e = .returned (.tuple #[v, .int .i64 r.1]) ∧ IOwn w' w.heap.size v r.2 ∧ Below w.heap.size w w'
set_option maxRecDepth 100000 in
set_option maxHeartbeats 8000000 in
theorem lengths_any (aT : Option Addr) (cT : Nat) (T : List Ty) (aR : Option Addr) (cR : Nat) (R : List Rt) (t : Int) (aV : Option Addr) (cV : Nat) (V : List Nv) (w : World) (hn : T.length ≤ 1000000000) (hm : R.length ≤ 10000000000000) (hVl : V.length ≤ 1000000000) (hVk : Hid (∀ x ∈ V, NvOk x)) (hL : Hid (LensT T)) (hT : Hid (TRow w aT T)) (hR : Hid (RRow w aR R)) (hV : Hid (VRow w aV V)) :
    Calls Try.prog 12 #[.agg #[.slice aT T.length cT, .slice aR R.length cR], .int .i64 t, .slice aV V.length cV] w fun e w' => LenTo (lenP T R t V) w e w' := by
  have hB := below1 w (.cells #[.slice aT T.length cT, .slice aR R.length cR] 25)
  have k1 := Blk.newA w #[.slice aT T.length cT, .slice aR R.length cR] 25
  obtain ⟨w0, hw0⟩ : ∃ wx, wx = w.alloc (.cells #[.slice aT T.length cT, .slice aR R.length cR] 25) := ⟨_, rfl⟩
  rw [← hw0] at hB k1
  have HB0 := hide_ hB
  have K1 := hide_ k1
  have i0 := k1.cell 0; have i1 := k1.cell 1
  simp at i0 i1
  have HCo := hide_ (of_any aT cT T aR cR R w0 (by omega) hm hL (hide_ (hT.out.later hB)) (hide_ (hR.out.later hB)))
  obtain ⟨res, hres⟩ : ∃ res, lenP T R t V = res := ⟨_, rfl⟩
  rw [hres]
  have HRes := hide_ hres
  clear hB k1 hres
  go_enter Try.func12, Try.ntmps12
  go_upto_region 1 with fail
  rw [← hw0]
  clear hw0
  go_wp2_with fail
  refine HCo.out.mono ?_
  rintro e w1 (⟨hne, rfl, hB1⟩ | ⟨hOK, vX, rfl, hX1, hB1⟩)
  · have HV : Hid (res = ((chk T R).1, [])) := hide_ (by rw [← HRes.out]; unfold lenP; rw [if_pos hne])
    obtain ⟨vE, hE⟩ : ∃ vE, (chk T R).1 = vE := ⟨_, rfl⟩
    rw [hE] at hne HV ⊢
    have hne' : (vE != 0) = true := by simpa using hne
    have HBf := hide_ (below_to HB0.out hB1)
    clear hB1 HCo hE
    go_wp2
    go_ret2
    exact ⟨.slice none 0 0, by rw [HV.out]; rfl, by rw [HV.out]; exact World.ownsRow_nil _ _ _ _, HBf.out⟩
  · have hc0 : ¬ (chk T R).1 ≠ 0 := by rw [hOK.chk]; simp
    have HB1 := hide_ (below_to HB0.out hB1)
    have K2 := hide_ (K1.out.later hB1)
    obtain ⟨aX, cX, hvX, -, -, hXr⟩ := hX1.row
    subst hvX
    have HXr := hide_ hXr
    have HOK := hide_ hOK
    have HC0 := hide_ hc0
    have l0 := K2.out.cell 0; have l1 := K2.out.cell 1
    simp at l0 l1
    clear hB1 hX1 hXr hOK hc0 HCo i0 i1
    by_cases ht0 : 0 ≤ t
    · by_cases ht1 : t < T.length
      · obtain ⟨num, rfl⟩ := Int.eq_ofNat_of_zero_le ht0
        have hnum : num < T.length := by omega
        have kw := Blk.newA w1 #[.slice aT T.length cT, .slice aX (extL T).length cX, .slice aV V.length cV, .slice none 0 0] 76
        have hB2 := below1 w1 (.cells #[.slice aT T.length cT, .slice aX (extL T).length cX, .slice aV V.length cV, .slice none 0 0] 76)
        obtain ⟨w2, hw2⟩ : ∃ wx, wx = w1.alloc (.cells #[.slice aT T.length cT, .slice aX (extL T).length cX, .slice aV V.length cV, .slice none 0 0] 76) := ⟨_, rfl⟩
        rw [← hw2] at kw hB2
        have HWS : Hid (WS w2 w1.heap.size (.slice aT T.length cT) (.slice aX (extL T).length cX) (.slice aV V.length cV) (.slice none 0 0) []) := hide_ ⟨kw, World.ownsRow_nil _ _ _ _⟩
        have HCn := hide_ ((next_any T R (extL T) V aT aX aV cT cX cV w1.heap.size w1 HOK (hide_ (extL_len T)) hn hVl hVk hL (hide_ (hT.out.later HB1.out)) HXr (hide_ (hV.out.later HB1.out)) rfl T.length).out num w2 (.slice none 0 0) [] hnum hnum (Nat.zero_le _) (hide_ hB2) HWS)
        obtain ⟨r, hr⟩ : ∃ r, nxP T (extL T) V T.length num [] = r := ⟨_, rfl⟩
        rw [hr] at HCn
        have HV0 : Hid (res = lenM V.length r) := hide_ (by
          rw [← HRes.out]
          unfold lenP
          rw [if_neg HC0.out, if_neg (by simp; omega), Int.toNat_natCast, hr])
        have HB2 := hide_ hB2
        clear kw hB2 hr
        go_upto_region 7 with fail
        rw [← hw2]
        clear hw2 l0 l1
        go_wp2_with fail
        refine HCn.out.mono ?_
        rintro e w3 ⟨hU3, hE3⟩
        have HB3 := hide_ (HB2.out.trans (WS.below HWS.out hU3))
        have HBf := hide_ (below_to HB1.out HB3.out)
        clear hU3 HCn
        cases r with
        | none =>
          subst hE3
          have HV : Hid (res = (40, [])) := HV0
          go_wp2
          go_ret2
          exact ⟨.slice none 0 0, by rw [HV.out]; rfl, by rw [HV.out]; exact World.ownsRow_nil _ _ _ _, HBf.out⟩
        | some r =>
          obtain ⟨ln, L⟩ := r
          obtain ⟨rfl, vl, hW3, -⟩ := hE3
          obtain ⟨al, cl, hvl⟩ := own_form hW3.2
          subst hvl
          have HW3 := hide_ hW3
          have m3 := hW3.1.cell 3
          simp at m3
          clear hW3
          by_cases hlt : L.length < V.length
          · have HV : Hid (res = (40, [])) := hide_ (by rw [HV0.out]; exact if_pos hlt)
            have hlt' : (L.length : Int) < V.length := by omega
            go_wp2
            go_ret2
            exact ⟨.slice none 0 0, by rw [HV.out]; rfl, by rw [HV.out]; exact World.ownsRow_nil _ _ _ _, HBf.out⟩
          · have HV : Hid (res = (0, L)) := hide_ (by rw [HV0.out]; exact if_neg hlt)
            have hlt' : ¬ (L.length : Int) < V.length := by omega
            have HO : Hid (IOwn w3 w.heap.size (.slice al L.length cl) L) := hide_ (own_base HW3.out.2 HB1.out.size)
            go_wp2
            go_ret2
            exact ⟨_, by rw [HV.out]; rfl, by rw [HV.out]; exact HO.out, HBf.out⟩
      · have HV : Hid (res = (3, [])) := hide_ (by rw [← HRes.out]; unfold lenP; rw [if_neg HC0.out, if_pos (by omega)])
        go_wp2
        go_ret2
        exact ⟨.slice none 0 0, by rw [HV.out]; rfl, by rw [HV.out]; exact World.ownsRow_nil _ _ _ _, HB1.out⟩
    · have HV : Hid (res = (3, [])) := hide_ (by rw [← HRes.out]; unfold lenP; rw [if_neg HC0.out, if_pos (by omega)])
      go_wp2
      go_ret2
      exact ⟨.slice none 0 0, by rw [HV.out]; rfl, by rw [HV.out]; exact World.ownsRow_nil _ _ _ _, HB1.out⟩
theorem lenP_len {T : List Ty} {R : List Rt} {t : Int} {V : List Nv} (h : (lenP T R t V).1 = 0) : 0 < (lenP T R t V).2.length := by
  unfold lenP at h ⊢
  split at h
  · rename_i hc; exact absurd h hc
  · rename_i hc
    rw [if_neg hc]
    split at h
    · simp at h
    · rename_i hc2
      rw [if_neg hc2]
      cases hr : nxP T (extL T) V T.length t.toNat [] with
      | none => rw [hr] at h; simp [lenM] at h
      | some r =>
        rw [hr] at h
        have h1 := nxP_len T.length t.toNat [] r (Nat.zero_le _) hr
        simp only [lenM] at h ⊢
        split at h
        · simp at h
        · rename_i h3
          rw [if_neg h3]
          simp at h1
          simp only
          omega
set_option maxRecDepth 100000 in
set_option maxHeartbeats 8000000 in
theorem length_any (aT : Option Addr) (cT : Nat) (T : List Ty) (aR : Option Addr) (cR : Nat) (R : List Rt) (t : Int) (aV : Option Addr) (cV : Nat) (V : List Nv) (w : World) (hn : T.length ≤ 1000000000) (hm : R.length ≤ 10000000000000) (hVl : V.length ≤ 1000000000) (hVk : Hid (∀ x ∈ V, NvOk x)) (hL : Hid (LensT T)) (hT : Hid (TRow w aT T)) (hR : Hid (RRow w aR R)) (hV : Hid (VRow w aV V)) :
    Calls Try.prog 13 #[.agg #[.slice aT T.length cT, .slice aR R.length cR], .int .i64 t, .slice aV V.length cV] w fun e w' => e = .returned (.tuple #[.int .i64 (if (lenP T R t V).1 = 0 then (lenP T R t V).2.getD 0 0 else 0), .int .i64 (lenP T R t V).1]) ∧ Below w.heap.size w w' := by
  have hB := below1 w (.cells #[.slice aT T.length cT, .slice aR R.length cR] 25)
  have k1 := Blk.newA w #[.slice aT T.length cT, .slice aR R.length cR] 25
  obtain ⟨w0, hw0⟩ : ∃ wx, wx = w.alloc (.cells #[.slice aT T.length cT, .slice aR R.length cR] 25) := ⟨_, rfl⟩
  rw [← hw0] at hB k1
  have HB0 := hide_ hB
  have i0 := k1.cell 0; have i1 := k1.cell 1
  simp at i0 i1
  have HCo := hide_ (lengths_any aT cT T aR cR R t aV cV V w0 hn hm hVl hVk hL (hide_ (hT.out.later hB)) (hide_ (hR.out.later hB)) (hide_ (hV.out.later hB)))
  have hpos : (lenP T R t V).1 = 0 → 0 < (lenP T R t V).2.length := lenP_len
  generalize lenP T R t V = r at *
  obtain ⟨er, L⟩ := r
  simp only at hpos
  obtain ⟨out, hout⟩ : ∃ out, (if (er, L).1 = 0 then (er, L).2.getD 0 0 else 0) = out := ⟨_, rfl⟩
  rw [hout]
  have HOut := hide_ hout
  have HPos := hide_ hpos
  clear hB k1 hout hpos
  go_enter Try.func13, Try.ntmps13
  go_upto_region 1 with fail
  rw [← hw0]
  clear hw0
  go_wp2_with fail
  refine HCo.out.mono ?_
  rintro e w1 ⟨v, rfl, hO, hB1⟩
  have HBf := hide_ (below_to HB0.out hB1)
  have HO := hide_ hO
  clear hB1 hO HCo i0 i1
  by_cases h0 : er = 0
  · subst h0
    have hp := HPos.out rfl
    obtain ⟨g, cap, hv, -, hc, -, -⟩ := own_set HO.out (i := 0) hp
    subst hv
    simp only at hc hp
    have hp' : (0 : Int) < L.length := by omega
    have HV : Hid (out = L.getD 0 0) := hide_ (by rw [← HOut.out]; rfl)
    generalize L.getD 0 0 = q at *
    go_wp2
    go_ret2
    exact ⟨by rw [HV.out]; rfl, HBf.out⟩
  · have hne : (er != 0) = true := by simpa using h0
    have HV : Hid (out = 0) := hide_ (by rw [← HOut.out]; exact if_neg h0)
    go_wp2
    go_ret2
    exact ⟨by rw [HV.out]; rfl, HBf.out⟩
end Go.Proofs.Ytdpkmkhflgmioaa

/- Lengths, plain: a node fits in size's words just if it does in typing's; the one walk through a value is the other. -/
namespace Go.Proofs.Ytdpkmkhflgmioaa
open Go.RowKit
set_option linter.unusedVariables false
set_option linter.unusedSimpArgs false

theorem fitB_iff {n w : Int} (h0 : 0 ≤ n) : fitB n w = true ↔ n ≤ gr w := by
  unfold fitB gr
  rw [beq_iff_eq]
  have hp : (0 : Int) < 2 ^ (8 * w).toNat := Int.pow_pos (by decide)
  generalize (2 : Int) ^ (8 * w).toNat = P at *
  constructor
  · intro h
    rcases Int.lt_or_le n P with h1 | h1
    · omega
    · have : 1 ≤ n / P := (Int.le_ediv_iff_mul_le hp).2 (by omega)
      omega
  · intro h; exact Int.ediv_eq_zero_of_lt h0 (by omega)
theorem fits_iff {x : Nv} {t : Ty} {i : Int} (hok : tyOk t i = true) (hx : NvOk x) : fitsP x t = true ↔ rightV x = true ∧ misP t x = 0 := by
  obtain ⟨k, n, el, ps⟩ := t
  obtain ⟨xk, xn, xd⟩ := x
  have hk := tyOk_kind hok
  have h1 := (tyOk_parts hok).1
  have h3 := (tyOk_parts hok).2.2
  obtain ⟨hx0, hx1⟩ := hx
  simp only at hk h1 h3 hx0 hx1
  rw [rightV_iff]
  have key : ∀ a : Int, nkind k = a → (misP ⟨k, n, el, ps⟩ ⟨xk, xn, xd⟩ = 0 ↔ xk = a ∧ (if k = 1 then xn ≤ gr n else if k = 4 then xd = n else if k = 5 then 0 ≤ xd ∧ xd ≤ n else if k = 8 then xd = ps.length else if k = 7 then (armI ps xn).isSome = true else True)) := by
    intro a ha
    unfold misP
    simp only [ha]
    by_cases hxk : xk = a
    · rw [if_neg (by simp [hxk])]
      simp only [hxk, true_and]
      split
      · split <;> simp <;> omega
      split
      · split <;> simp <;> omega
      split
      · split <;> simp <;> omega
      split
      · split <;> simp <;> omega
      split
      · split <;> simp_all
      · simp
    · rw [if_pos (by simpa using hxk)]
      simp [hxk]
  rcases hk with rfl | rfl | rfl | rfl | rfl | rfl | rfl | rfl
  · rw [key 1 rfl]
    have hf := fitB_iff (w := n) hx0
    simp only [fitsP, if_true, Bool.and_eq_true, decide_eq_true_eq, hf, mostN, leastK, mostK]
    constructor
    · rintro ⟨⟨rfl, rfl⟩, h⟩
      exact ⟨⟨by omega, by simp; omega, by simp, by simp⟩, rfl, h⟩
    · rintro ⟨⟨-, -, h4, h5⟩, rfl, h⟩
      simp at h4 h5
      exact ⟨⟨rfl, by omega⟩, h⟩
  · rw [key 2 rfl]
    simp [fitsP, mostN, leastK, mostK]
    constructor
    · rintro ⟨⟨rfl, rfl⟩, h⟩
      simp; omega
    · rintro ⟨⟨h2, h3, h4, h5⟩, rfl⟩
      simp at h3 h4 h5
      exact ⟨⟨rfl, by omega⟩, h3⟩
  · rw [key 1 rfl]
    simp [fitsP, mostN, leastK, mostK]
    constructor
    · rintro ⟨rfl, rfl⟩
      simp; omega
    · rintro ⟨⟨h2, h3, h4, h5⟩, rfl⟩
      simp at h3 h4 h5
      exact ⟨rfl, by omega⟩
  · rw [key 3 rfl]
    have h1 := of_decide_eq_true h1
    simp [fitsP, mostN, leastK, mostK]
    constructor
    · rintro ⟨⟨rfl, rfl⟩, rfl⟩
      simp; omega
    · rintro ⟨⟨h2, h3, h4, h5⟩, rfl, h6⟩
      simp at h3 h4 h5
      exact ⟨⟨rfl, by omega⟩, h6⟩
  · rw [key 3 rfl]
    have h1 := of_decide_eq_true h1
    simp [fitsP, mostN, leastK, mostK]
    constructor
    · rintro ⟨⟨⟨rfl, rfl⟩, h6⟩, h7⟩
      simp; omega
    · rintro ⟨⟨h2, h3, h4, h5⟩, rfl, h6⟩
      simp at h3 h4 h5
      exact ⟨⟨⟨rfl, by omega⟩, h6.1⟩, h6.2⟩
  · rw [key 5 rfl]
    simp [fitsP, mostN, leastK, mostK]
    constructor
    · rintro ⟨⟨rfl, rfl⟩, h6⟩
      simp; omega
    · rintro ⟨⟨h2, h3, h4, h5⟩, rfl⟩
      simp at h3 h4 h5
      exact ⟨⟨rfl, by omega⟩, by omega⟩
  · rw [key 6 rfl]
    have htag := tyOk_tags hok
    simp [fitsP, mostN, leastK, mostK]
    constructor
    · rintro ⟨⟨rfl, rfl⟩, h6⟩
      obtain ⟨m, hm⟩ := Option.isSome_iff_exists.1 h6
      obtain ⟨p, hp, hpt⟩ := armI_some hm
      have := htag p (List.mem_of_getElem? hp)
      refine ⟨⟨by omega, by simp; omega, by simp, by simp⟩, rfl, h6⟩
    · rintro ⟨⟨h2, h3, h4, h5⟩, rfl, h6⟩
      simp at h3 h4 h5
      exact ⟨⟨rfl, by omega⟩, h6⟩
  · rw [key 4 rfl]
    have hl : 0 < ps.length ∧ ps.length ≤ 64 := by
      simp only [partsOk, if_true] at h3
      unfold allP at h3
      rw [Bool.and_eq_true, decide_eq_true_eq] at h3
      exact h3.1
    simp [fitsP, mostN, leastK, mostK]
    constructor
    · rintro ⟨⟨rfl, rfl⟩, rfl⟩
      simp; omega
    · rintro ⟨⟨h2, h3, h4, h5⟩, rfl, h6⟩
      simp at h3 h4 h5
      exact ⟨⟨rfl, by omega⟩, h6⟩
theorem kidsT_at {t : Ty} {x : Nv} {i : Int} {j : Nat} (hok : tyOk t i = true) (hf : misP t x = 0) (hr : rightV x = true) (hj : (j : Int) < x.kids) : (kidsT t x)[j]? = some (kidTy x t j) := by
  have hl := kidsT_len hok hf hr
  unfold kidsT kidTy at *
  by_cases h7 : t.k = 7
  · rw [if_pos h7] at hl ⊢
    rw [if_pos h7]
    simp at hl
    have : j = 0 := by omega
    subst this
    rfl
  · rw [if_neg h7] at hl ⊢
    rw [if_neg h7]
    by_cases h8 : t.k = 8
    · rw [if_pos h8] at hl ⊢
      rw [if_pos h8]
      simp at hl
      have hjl : j < t.ps.length := by omega
      simp [hjl, List.getD]
    · rw [if_neg h8] at hl
      rw [if_neg h8, if_neg h8, List.getElem?_replicate, if_pos (by omega)]
theorem apT_nilL (r : List Int × Int × Int) (h : r.2.1 = 0 → r.2.2 = 0) : apT [] r = r := by
  obtain ⟨a, b, c⟩ := r
  unfold apT
  simp only at h ⊢
  by_cases hb : b = 0
  · subst hb; simp [h rfl]
  · simp [hb]
theorem apT_apT (a b : List Int) (r : List Int × Int × Int) : apT a (apT b r) = apT (a ++ b) r := by
  unfold apT
  by_cases h : r.2.1 = 0
  · simp [h]
  · simp [h]
theorem apT_err (a : List Int) (r : List Int × Int × Int) : (apT a r).2.1 = r.2.1 := by
  unfold apT
  by_cases h : r.2.1 = 0
  · simp [h]
  · simp [h]
theorem wkT_step {T : List Ty} {t : Int} {st : List Int} {x : Nv} {v : List Nv} {i : Nat} (h : misP (T.getD t.toNat ty0) x = 0) : wkT T (t :: st) (x :: v) i = apT [t] (wkT T (kidsT (T.getD t.toNat ty0) x ++ st) v (i + 1)) := by
  rw [wkT, if_neg (by simpa using h)]
  dsimp only
  generalize wkT T (kidsT (T.getD t.toNat ty0) x ++ st) v (i + 1) = q
  unfold apT
  by_cases hz : q.2.1 = 0
  · simp [hz]
  · simp [hz]
theorem chkV_one {m a : Int} {x : Nv} {v : List Nv} (h : rightV x = true) (hm : m ≠ 0) : chkV m a (x :: v) = chkV (m + (x.kids - 1)) (a + 1) v := by
  rw [chkV, if_neg (by simp [h, hm])]
/-- From one place to another: these types. -/
def Went (T : List Ty) (V : List Nv) (ks : List Int) (i j : Nat) (ts : List Int) : Prop :=
  i + ts.length = j ∧ (∀ st, wkT T (ks ++ st) (V.drop i) i = apT ts (wkT T st (V.drop j) j)) ∧ ∀ m a : Int, 0 ≤ m → chkV (ks.length + m) a (V.drop i) = chkV m (a + ts.length) (V.drop j)
theorem Went.nil (T : List Ty) (V : List Nv) (i : Nat) : Went T V [] i i [] :=
  ⟨rfl, fun st => by rw [List.nil_append, apT_nilL _ (wkT_ok T _ _ _)], fun m a hm => by simp⟩
theorem Went.app {T : List Ty} {V : List Nv} {k1 k2 : List Int} {i j l : Nat} {t1 t2 : List Int} (h1 : Went T V k1 i j t1) (h2 : Went T V k2 j l t2) : Went T V (k1 ++ k2) i l (t1 ++ t2) :=
  ⟨by have := h1.1; have := h2.1; simp; omega, fun st => by rw [List.append_assoc, h1.2.1, h2.2.1, apT_apT], fun m a hm => by
    rw [show (((k1 ++ k2).length : Nat) : Int) + m = k1.length + (k2.length + m) by simp; omega, h1.2.2 _ _ (by omega), h2.2.2 _ _ hm]
    simp
    rw [Int.add_assoc]⟩
theorem Went.one {T : List Ty} {V : List Nv} {t : Int} {i l : Nat} {x : Nv} {ts : List Int} {b : Int} (hx : V[i]? = some x) (hok : tyOk (T.getD t.toNat ty0) b = true) (hr : rightV x = true) (hm : misP (T.getD t.toNat ty0) x = 0) (h : Went T V (kidsT (T.getD t.toNat ty0) x) (i + 1) l ts) : Went T V [t] i l (t :: ts) := by
  have hi := (List.getElem?_eq_some_iff.1 hx).1
  have hd : V.drop i = x :: V.drop (i + 1) := by rw [List.drop_eq_getElem_cons hi, (List.getElem?_eq_some_iff.1 hx).2]
  have hl := kidsT_len hok hm hr
  refine ⟨by have := h.1; simp; omega, fun st => ?_, fun m a hm' => ?_⟩
  · rw [hd, List.singleton_append, wkT_step hm, h.2.1, apT_apT]
    rfl
  · rw [hd, chkV_one hr (by simp; omega), show (([t].length : Nat) : Int) + m + (x.kids - 1) = (kidsT (T.getD t.toNat ty0) x).length + m by rw [hl]; simp only [List.length_singleton]; omega, h.2.2 _ _ hm']
    simp
    congr 1
    omega
/-- It does not go on from there. -/
def Halts (T : List Ty) (V : List Nv) (t : Int) (i : Nat) : Prop := ∀ (st : List Int) (a : Int), ¬ ((chkV (1 + st.length) a (V.drop i)).1 = 0 ∧ (wkT T (t :: st) (V.drop i) i).2.1 = 0)
theorem kidsP_went {T : List Ty} {X : List Ex} {V : List Nv} {x : Nv} {t : Ty} {b : Int} {g : Nat → List Int → Option (Int × List Int)} (hok : tyOk t b = true) (hf : misP t x = 0) (hr : rightV x = true) (hft : fitsP x t = true)
    (hg : ∀ (num : Nat) (L : List Int) (r : Int × List Int), (num : Int) < b → L.length ≤ V.length → g num L = some r → L.length ≤ r.2.length ∧ r.2.length ≤ V.length ∧ ∃ ts, Went T V [(num : Int)] L.length r.2.length ts) :
    ∀ (m : Nat) (s r : Int × List Int), (m : Int) ≤ x.kids → s.2.length ≤ V.length → kidsP g X x t m s = some r → s.2.length ≤ r.2.length ∧ r.2.length ≤ V.length ∧ ∃ ts, Went T V ((kidsT t x).take m) s.2.length r.2.length ts
  | 0, s, r, hm, hs, h => by
    simp only [kidsP] at h
    injection h with h
    subst h
    exact ⟨Nat.le_refl _, hs, [], by rw [List.take_zero]; exact Went.nil _ _ _⟩
  | m + 1, s, r, hm, hs, h => by
    simp only [kidsP, Option.bind_eq_some_iff] at h
    obtain ⟨q, h1, z, h2, h3⟩ := h
    obtain ⟨a1, a2, t1, a3⟩ := kidsP_went hok hf hr hft hg m s q (by omega) hs h1
    have hk := kidTy_bd (j := m) hok hft (by omega)
    obtain ⟨b1, b2, t2, b3⟩ := hg _ _ _ (by omega) a2 h2
    have hat := kidsT_at (j := m) hok hf hr (by omega)
    have hml : m < (kidsT t x).length := (List.getElem?_eq_some_iff.1 hat).1
    injection h3 with h3
    subst h3
    refine ⟨by simp only; omega, b2, t1 ++ t2, ?_⟩
    rw [List.take_succ_eq_append_getElem hml, (List.getElem?_eq_some_iff.1 hat).2]
    rw [show (((kidTy x t m).toNat : Nat) : Int) = kidTy x t m by omega] at b3
    exact a3.app b3
theorem kidsP_no {X : List Ex} {x : Nv} {t : Ty} {g : Nat → List Int → Option (Int × List Int)} :
    ∀ (m : Nat) (s : Int × List Int), kidsP g X x t m s = none → ∃ j q, j < m ∧ kidsP g X x t j s = some q ∧ g (kidTy x t j).toNat q.2 = none
  | 0, s, h => by simp [kidsP] at h
  | m + 1, s, h => by
    simp only [kidsP] at h
    cases h1 : kidsP g X x t m s with
    | none =>
      obtain ⟨j, q, hj, h2, h3⟩ := kidsP_no m s h1
      exact ⟨j, q, by omega, h2, h3⟩
    | some q =>
      rw [h1] at h
      simp only [Option.bind_some] at h
      cases h2 : g (kidTy x t m).toNat q.2 with
      | none => exact ⟨m, q, by omega, h1, h2⟩
      | some z => rw [h2] at h; simp at h
theorem nxP_went {T : List Ty} {R : List Rt} {X : List Ex} {V : List Nv} (hS : OkS T R) (hV : ∀ x ∈ V, NvOk x) : ∀ (f num : Nat) (L : List Int) (r : Int × List Int), num < T.length → L.length ≤ V.length → nxP T X V f num L = some r → L.length < r.2.length ∧ r.2.length ≤ V.length ∧ ∃ ts, Went T V [(num : Int)] L.length r.2.length ts
  | 0, _, _, _, _, _, h => by simp [nxP] at h
  | f + 1, num, L, r, hn, hL, h => by
    have hlen := nxP_len (f + 1) num L r hL h
    simp only [nxP] at h
    split at h
    · rename_i hc
      simp only [Bool.and_eq_true, decide_eq_true_eq] at hc
      obtain ⟨hc1, hc2⟩ := hc
      rw [Option.bind_eq_some_iff] at h
      obtain ⟨s, h1, h2⟩ := h
      have hok := hS.ty num hn
      have hx : V[L.length]? = some (V.getD L.length nv0) := by simp [List.getD, hc1]
      have hxo : NvOk (V.getD L.length nv0) := hV _ (List.mem_of_getElem? hx)
      obtain ⟨hr, hm⟩ := (fits_iff hok hxo).1 hc2
      have hkids := rightV_kids hr
      obtain ⟨a1, a2, ts, a3⟩ := kidsP_went (V := V) (T := T) hok hm hr hc2 (fun n' L' r' hn' hL' hg => by
        obtain ⟨c1, c2, c3⟩ := nxP_went hS hV f n' L' r' (by omega) hL' hg
        exact ⟨by omega, c2, c3⟩) (V.getD L.length nv0).kids.toNat _ _ (by omega) (by simp; omega) h1
      injection h2 with h2
      subst h2
      refine ⟨hlen.1, hlen.2, (num : Int) :: ts, ?_⟩
      have hkl := kidsT_len hok hm hr
      rw [List.take_of_length_le (by omega)] at a3
      simp only [List.length_append, List.length_singleton] at a3
      simp only [List.length_set]
      exact Went.one hx (b := num) (by simpa using hok) hr (by simpa using hm) (by simpa using a3)
    · cases h
theorem nxP_halts {T : List Ty} {R : List Rt} {X : List Ex} {V : List Nv} (hS : OkS T R) (hV : ∀ x ∈ V, NvOk x) : ∀ (f num : Nat) (L : List Int), num < f → num < T.length → L.length ≤ V.length → nxP T X V f num L = none → Halts T V (num : Int) L.length
  | 0, _, _, h0, _, _, _ => by omega
  | f + 1, num, L, hf, hn, hL, h => by
    intro st a
    have hok := hS.ty num hn
    simp only [nxP] at h
    by_cases hlt : L.length < V.length
    · have hx : V[L.length]? = some (V.getD L.length nv0) := by simp [List.getD, hlt]
      have hxo : NvOk (V.getD L.length nv0) := hV _ (List.mem_of_getElem? hx)
      have hi := (List.getElem?_eq_some_iff.1 hx).1
      have hd : V.drop L.length = V.getD L.length nv0 :: V.drop (L.length + 1) := by rw [List.drop_eq_getElem_cons hi, (List.getElem?_eq_some_iff.1 hx).2]
      generalize V.getD L.length nv0 = x at *
      rw [hd]
      by_cases hr : rightV x = true
      · by_cases hm : misP (T.getD num ty0) x = 0
        · have hft := (fits_iff hok hxo).2 ⟨hr, hm⟩
          rw [if_pos (by rw [hft, decide_eq_true hlt]; rfl)] at h
          rw [Option.bind_eq_none_iff] at h
          have hkids := rightV_kids hr
          have hkl := kidsT_len hok hm hr
          have hno : kidsP (nxP T X V f) X x (T.getD num ty0) x.kids.toNat (ownP x (T.getD num ty0), L ++ [0]) = none := by
            cases hk : kidsP (nxP T X V f) X x (T.getD num ty0) x.kids.toNat (ownP x (T.getD num ty0), L ++ [0]) with
            | none => rfl
            | some s => have := h s hk; simp at this
          obtain ⟨j, q, hj, h1, h2⟩ := kidsP_no _ _ hno
          have hjk : (j : Int) < x.kids := by omega
          have hkb := kidTy_bd (j := j) hok hft hjk
          obtain ⟨a1, a2, ts, a3⟩ := kidsP_went (V := V) (T := T) hok hm hr hft (fun n' L' r' hn' hL' hg => by
            obtain ⟨c1, c2, c3⟩ := nxP_went hS hV f n' L' r' (by omega) hL' hg
            exact ⟨by omega, c2, c3⟩) j _ _ (by omega) (by simp; omega) h1
          have hat := kidsT_at (j := j) hok hm hr hjk
          have hjl : j < (kidsT (T.getD num ty0) x).length := (List.getElem?_eq_some_iff.1 hat).1
          have IH := nxP_halts hS hV f (kidTy x (T.getD num ty0) j).toNat q.2 (by omega) (by omega) a2 h2 ((kidsT (T.getD num ty0) x).drop (j + 1) ++ st) (a + 1 + ts.length)
          rw [show (((kidTy x (T.getD num ty0) j).toNat : Nat) : Int) = kidTy x (T.getD num ty0) j by omega] at IH
          have hsp : kidsT (T.getD num ty0) x = (kidsT (T.getD num ty0) x).take j ++ (kidTy x (T.getD num ty0) j :: (kidsT (T.getD num ty0) x).drop (j + 1)) := by
            have e := (List.take_append_drop j (kidsT (T.getD num ty0) x)).symm
            rw [List.drop_eq_getElem_cons hjl, (List.getElem?_eq_some_iff.1 hat).2] at e
            exact e
          simp only [List.length_append, List.length_singleton] at a3
          rintro ⟨g1, g2⟩
          refine IH ⟨?_, ?_⟩
          · rw [chkV_one hr (by omega)] at g1
            have e : (1 : Int) + st.length + (x.kids - 1) = ((kidsT (T.getD num ty0) x).take j).length + (1 + ((kidsT (T.getD num ty0) x).drop (j + 1) ++ st).length) := by
              rw [List.length_take, List.length_append, List.length_drop, Nat.min_eq_left (by omega)]
              omega
            rw [e, a3.2.2 _ _ (by omega)] at g1
            exact g1
          · rw [wkT_step (by simpa using hm), apT_err] at g2
            simp only [Int.toNat_natCast] at g2
            rw [hsp, List.append_assoc, a3.2.1, apT_err] at g2
            exact g2
        · rintro ⟨-, g2⟩
          rw [wkT, if_pos (by simpa using hm)] at g2
          exact hm (by simpa using g2)
      · rintro ⟨g1, -⟩
        rw [chkV, if_pos (.inr (by simpa using hr))] at g1
        cases g1
    · rintro ⟨g1, -⟩
      rw [List.drop_of_length_le (by omega), chkV, if_pos (by omega)] at g1
      cases g1
theorem misP_codes (t : Ty) (x : Nv) : misP t x = 0 ∨ 110 ≤ misP t x := by
  unfold misP
  split
  · simp
  split
  · split <;> simp
  split
  · split <;> simp
  split
  · split <;> simp
  split
  · split <;> simp
  split
  · split <;> simp
  · simp
theorem wkT_codes (T : List Ty) : ∀ (v : List Nv) (st : List Int) (i : Nat), (wkT T st v i).2.1 = 0 ∨ 110 ≤ (wkT T st v i).2.1
  | [], [], i => .inl rfl
  | [], s :: st, i => .inl rfl
  | x :: v, [], i => .inl rfl
  | x :: v, s :: st, i => by
    rw [wkT]
    split
    · rename_i h
      rcases misP_codes (T.getD s.toNat ty0) x with h1 | h1
      · exact absurd h1 h
      · exact .inr h1
    · dsimp only
      split
      · exact wkT_codes T v _ _
      · exact .inl rfl
theorem chkV_codes : ∀ (v : List Nv) (m a : Int), (chkV m a v).1 = 0 ∨ (chkV m a v).1 = 40
  | [], m, a => by rw [chkV]; split <;> simp
  | x :: v, m, a => by
    rw [chkV]
    split
    · simp
    · exact chkV_codes v _ _
/-- What Lengths answers of a type that is there, by what Types answers. -/
theorem len_bad {T : List Ty} {R : List Rt} {t : Int} {V : List Nv} (hS : OkS T R) (hV : ∀ x ∈ V, NvOk x) (h0 : 0 ≤ t) (h1 : t < T.length) (hb : (tyV T R t V).2.1 ≠ 0) : lenP T R t V = (40, []) ∧ (tyV T R t V).2.1 ≠ 3 := by
  have hc : chk T R = (0, 0) := hS.chk
  have hty : tyV T R t V = if (chkV 1 0 V).1 ≠ 0 then ([], chkV 1 0 V) else wkT T [t] V 0 := by
    unfold tyV
    rw [if_neg (by rw [hc]; simp), if_neg (by omega)]
  have hln : lenP T R t V = lenM V.length (nxP T (extL T) V T.length t.toNat []) := by
    unfold lenP
    rw [if_neg (by rw [hc]; simp), if_neg (by omega)]
  refine ⟨?_, ?_⟩
  · rw [hln]
    cases hn : nxP T (extL T) V T.length t.toNat [] with
    | none => rfl
    | some r =>
      obtain ⟨a1, a2, ts, a3⟩ := nxP_went hS hV _ _ _ _ (by omega) (Nat.zero_le _) hn
      unfold lenM
      simp only
      by_cases hl : r.2.length < V.length
      · rw [if_pos hl]
      · exfalso
        have hlv : r.2.length = V.length := by omega
        have e1 := a3.2.2 0 0 (by omega)
        have e2 := a3.2.1 []
        simp only [List.length_nil, List.drop_zero] at e1 e2
        rw [hlv, List.drop_length] at e1 e2
        rw [show ((t.toNat : Nat) : Int) = t by omega] at e1 e2
        have e3 : chkV 1 0 V = (0, 0) := by rw [show (1 : Int) = (([t].length : Nat) : Int) + 0 from rfl, e1]; rfl
        have e4 : (wkT T [t] V 0).2.1 = 0 := by
          rw [show [t] = [t] ++ [] from rfl, e2, apT_err]
          unfold wkT
          rfl
        rw [hty, e3] at hb
        simp only [ne_eq, not_true_eq_false, if_false] at hb
        exact hb e4
  · rw [hty]
    split
    · rcases chkV_codes V 1 0 with h | h <;> simp only [h] <;> omega
    · rcases wkT_codes T V [t] 0 with h | h <;> omega
theorem len_good {T : List Ty} {R : List Rt} {t : Int} {V : List Nv} (hS : OkS T R) (hV : ∀ x ∈ V, NvOk x) (h0 : 0 ≤ t) (h1 : t < T.length) (hb : (tyV T R t V).2.1 = 0) :
    ∃ r, nxP T (extL T) V T.length t.toNat [] = some r ∧ r.2.length = V.length ∧ lenP T R t V = (0, r.2) ∧ 0 < V.length := by
  have hc : chk T R = (0, 0) := hS.chk
  have hty : tyV T R t V = if (chkV 1 0 V).1 ≠ 0 then ([], chkV 1 0 V) else wkT T [t] V 0 := by
    unfold tyV
    rw [if_neg (by rw [hc]; simp), if_neg (by omega)]
  have hln : lenP T R t V = lenM V.length (nxP T (extL T) V T.length t.toNat []) := by
    unfold lenP
    rw [if_neg (by rw [hc]; simp), if_neg (by omega)]
  rw [hty] at hb
  have hc0 : (chkV 1 0 V).1 = 0 := by
    rcases chkV_codes V 1 0 with h | h
    · exact h
    · rw [if_pos (by omega)] at hb
      simp only at hb
      omega
  rw [if_neg (by simpa using hc0)] at hb
  cases hn : nxP T (extL T) V T.length t.toNat [] with
  | none =>
    have := nxP_halts hS hV _ _ _ (by omega) (by omega) (Nat.zero_le _) hn [] 0
    rw [show ((t.toNat : Nat) : Int) = t by omega] at this
    exact absurd ⟨by simpa using hc0, by simpa using hb⟩ this
  | some r =>
    obtain ⟨a1, a2, ts, a3⟩ := nxP_went hS hV _ _ _ _ (by omega) (Nat.zero_le _) hn
    have e1 := a3.2.2 0 0 (by omega)
    simp only [List.length_nil, List.drop_zero] at e1
    have hlv : r.2.length = V.length := by
      by_cases hl : r.2.length < V.length
      · exfalso
        have hd := List.drop_eq_getElem_cons hl
        rw [show (([((t.toNat : Nat) : Int)].length : Nat) : Int) + 0 = 1 from rfl, hd, chkV, if_pos (.inl rfl)] at e1
        rw [e1] at hc0
        cases hc0
      · omega
    refine ⟨r, rfl, hlv, ?_, by simp at a1; omega⟩
    rw [hln, hn]
    unfold lenM
    simp only
    rw [if_neg (by omega)]
end Go.Proofs.Ytdpkmkhflgmioaa

/- awake's schema and value, plain. -/
namespace Go.Proofs.Ytdpkmkhflgmioaa
open Go.RowKit
set_option linter.unusedVariables false

def awP : List Pt := [⟨⟨#[97]⟩, 0, 0⟩, ⟨⟨#[98]⟩, 0, 2⟩, ⟨⟨#[99]⟩, 0, 4⟩]
def awT : List Ty := [⟨1, 1, 0, []⟩, ⟨3, 0, 0, []⟩, ⟨5, 9, 1, []⟩, ⟨1, 2, 0, []⟩, ⟨6, 0, 3, []⟩, ⟨8, 0, 0, awP⟩]
def awV : List Nv := [⟨4, 0, 3⟩, ⟨1, 7, 0⟩, ⟨3, 0, 2⟩, ⟨1, 5, 0⟩, ⟨1, 300, 0⟩, ⟨5, 0, 0⟩]
theorem aw_chk : chk awT [] = (0, 0) := by kernel_rfl
theorem aw_ext : extL awT = [⟨true, 1, 1, 1⟩, ⟨false, 1, 10, 1⟩, ⟨false, 0, 126, 2⟩, ⟨true, 2, 2, 1⟩, ⟨false, 1, 3, 2⟩, ⟨false, 10, 138, 3⟩] := by kernel_rfl
theorem aw_len5 : lenP awT [] 5 awV = (0, [21, 1, 11, 1, 2, 1]) := by kernel_rfl
theorem aw_len4 : lenP awT [] 4 awV = (40, []) := by kernel_rfl
theorem aw_len6 : lenP awT [] 6 awV = (3, []) := by kernel_rfl
end Go.Proofs.Ytdpkmkhflgmioaa

/- awake. -/
namespace Go.Proofs.Ytdpkmkhflgmioaa
open Go.RowKit
set_option linter.unusedVariables false

theorem num_any (n : Int) (w : World) : Calls Try.prog 9 #[.int .i64 n] w fun e w' => e = .returned (.int .i64 n) ∧ w = w' := by
  go_enter Try.func9, Try.ntmps9
  go_wp2
  go_ret
  exact ⟨rfl, rfl⟩
set_option maxRecDepth 100000 in
set_option maxHeartbeats 4000000 in
theorem sameInts_yes (a b : Option Addr) (c d n : Nat) (l : List Int) (w : World) (hl : Hid (l.length = n)) (hn : n ≤ 9223372036854775806) (hr : Hid (Row .i64 w a l)) (hs : Hid (Row .i64 w b l)) :
    Calls Try.prog 18 #[.slice a n c, .slice b n d] w fun e w' => e = .returned (.bool true) ∧ Below w.heap.size w w' := by
  go_enter Try.func18, Try.ntmps18
  go_wp2_with fail
  go_loopw [5] (fun x5 wr => ∃ i : Nat, i ≤ n ∧ x5 = .int .i64 (i : Int) ∧ Hid (Below w.heap.size w wr)) (fun x5 _ => n - (intOf x5).toNat)
  case atStart => exact ⟨0, Nat.zero_le _, rfl, hide_ (Below.refl _ _)⟩
  case round =>
    obtain ⟨i, hi, rfl, HB⟩ := hrel
    generalize wr = wq at *
    by_cases hlt : i < n
    · have hlt' : (i : Int) < n := by omega
      have hil : i < l.length := by rw [hl.out]; exact hlt
      obtain ⟨ba, oa, rfl, -, ca⟩ := (hr.out.later HB.out).open (by omega)
      obtain ⟨bb, ob, rfl, -, cb⟩ := (hs.out.later HB.out).open (by omega)
      have x0 := ca i hil
      have y0 := cb i hil
      generalize l.getD i 0 = q at *
      clear ca cb hil
      go_wp2_with fail
      go_quiet (fail)
      have HBq := hide_ (below_drewN HB.out nq)
      go_wp2_with fail
      go_roundw
      case rel => exact ⟨i + 1, by omega, by go_num, HBq⟩
      case measure => simp [intOf]; omega
    · obtain rfl : i = n := by omega
      go_wp2
      go_ret
      exact ⟨rfl, HB.out⟩
def awTc (g : Nat) : List Value := [.int .i64 1, .int .i64 1, .int .i64 0, .slice none 0 0, .int .i64 3, .int .i64 0, .int .i64 0, .slice none 0 0, .int .i64 5, .int .i64 9, .int .i64 1, .slice none 0 0, .int .i64 1, .int .i64 2, .int .i64 0, .slice none 0 0, .int .i64 6, .int .i64 0, .int .i64 3, .slice none 0 0, .int .i64 8, .int .i64 0, .int .i64 0, .slice (some ⟨g, 0, none⟩) 3 3]
theorem aw_row {w : World} {g b : Nat} (hP : PRow w (some ⟨g, 0, none⟩) awP) (hK : Blk w b 62 (awTc g)) : TRow w (some ⟨b, 0, none⟩) awT := by
  refine .inr ⟨b, 0, rfl, hK.lt, fun i t ht => ?_⟩
  have key : ∀ (m : Nat) (u : Ty) (v : Value), (∀ j, j < 4 → (awTc g)[m * 4 + j]? = (tyc u v)[j]?) → ∀ j, j < 4 → w.cell? ⟨b, 0 + m * 4 + j, none⟩ = (tyc u v)[j]? := fun m u v h j hj => by
    rw [hK.cell, Nat.zero_add]
    exact h j hj
  have nn : ∀ (m : Nat) (u : Ty), u.ps = [] → (∀ j, j < 4 → (awTc g)[m * 4 + j]? = (tyc u (.slice none 0 0))[j]?) → ∃ va vc, (∀ j, j < 4 → w.cell? ⟨b, 0 + m * 4 + j, none⟩ = (tyc u (.slice va u.ps.length vc))[j]?) ∧ u.ps.length ≤ vc ∧ (va = none → vc = 0) ∧ PRow w va u.ps := fun m u hu h => by
    refine ⟨none, 0, ?_, by rw [hu]; exact Nat.le_refl _, fun _ => rfl, .inl hu⟩
    rw [hu]
    exact key m u _ h
  match i, ht with
  | 0, ht => injection ht with ht; subst ht; exact nn 0 _ rfl (fun j hj => match j, hj with | 0, _ => rfl | 1, _ => rfl | 2, _ => rfl | 3, _ => rfl)
  | 1, ht => injection ht with ht; subst ht; exact nn 1 _ rfl (fun j hj => match j, hj with | 0, _ => rfl | 1, _ => rfl | 2, _ => rfl | 3, _ => rfl)
  | 2, ht => injection ht with ht; subst ht; exact nn 2 _ rfl (fun j hj => match j, hj with | 0, _ => rfl | 1, _ => rfl | 2, _ => rfl | 3, _ => rfl)
  | 3, ht => injection ht with ht; subst ht; exact nn 3 _ rfl (fun j hj => match j, hj with | 0, _ => rfl | 1, _ => rfl | 2, _ => rfl | 3, _ => rfl)
  | 4, ht => injection ht with ht; subst ht; exact nn 4 _ rfl (fun j hj => match j, hj with | 0, _ => rfl | 1, _ => rfl | 2, _ => rfl | 3, _ => rfl)
  | 5, ht => injection ht with ht; subst ht; exact ⟨some ⟨g, 0, none⟩, 3, key 5 _ _ (fun j hj => match j, hj with | 0, _ => rfl | 1, _ => rfl | 2, _ => rfl | 3, _ => rfl), by decide, (fun h => by cases h), hP⟩
  | n + 6, ht => cases ht
theorem aw_lens : LensT awT := ⟨by decide, fun t ht => by
  simp only [awT, List.mem_cons, List.not_mem_nil, or_false] at ht
  rcases ht with rfl | rfl | rfl | rfl | rfl | rfl <;> simp [awP]⟩
theorem aw_ok : ∀ x ∈ awV, NvOk x := fun x hx => by
  simp only [awV, List.mem_cons, List.not_mem_nil, or_false] at hx
  rcases hx with rfl | rfl | rfl | rfl | rfl | rfl <;> (constructor <;> decide)
def awX : List Ex := [⟨true, 1, 1, 1⟩, ⟨false, 1, 10, 1⟩, ⟨false, 0, 126, 2⟩, ⟨true, 2, 2, 1⟩, ⟨false, 1, 3, 2⟩, ⟨false, 10, 138, 3⟩]
set_option maxRecDepth 100000 in
set_option maxHeartbeats 8000000 in
theorem awake_any (w : World) : Calls Try.prog 5 #[] w fun e w' => e = .returned (.bool true) ∧ Below w.heap.size w w' := by
  obtain ⟨w1, hw1⟩ : ∃ w1, w1 = w.alloc (.cells #[.string ⟨#[97]⟩, .int .i64 0, .int .i64 0, .string ⟨#[98]⟩, .int .i64 0, .int .i64 2, .string ⟨#[99]⟩, .int .i64 0, .int .i64 4] 64) := ⟨_, rfl⟩
  have hB1 : Below w.heap.size w w1 := by rw [hw1]; exact below1 _ _
  have k1 : Blk w1 w.heap.size 64 (cellsG ptc awP) := by rw [hw1]; exact Blk.newA w _ _
  obtain ⟨w2, hw2⟩ : ∃ w2, w2 = w1.alloc (.cells (awTc w.heap.size).toArray 62) := ⟨_, rfl⟩
  have hB2 : Below w1.heap.size w1 w2 := by rw [hw2]; exact below1 _ _
  have k2 : Blk w2 w1.heap.size 62 (awTc w.heap.size) := by rw [hw2]; exact Blk.new w1 _ _
  obtain ⟨w3, hw3⟩ : ∃ w3, w3 = w2.alloc (.cells #[.slice (some ⟨w1.heap.size, 0, none⟩) 6 6, .slice none 0 0] 25) := ⟨_, rfl⟩
  have hB3 : Below w2.heap.size w2 w3 := by rw [hw3]; exact below1 _ _
  have k3 : Blk w3 w2.heap.size 25 [.slice (some ⟨w1.heap.size, 0, none⟩) 6 6, .slice none 0 0] := by rw [hw3]; exact Blk.newA w2 _ _
  have hz1 : w1.heap.size = w.heap.size + 1 := by rw [hw1]; simp
  have hz2 : w2.heap.size = w.heap.size + 2 := by rw [hw2]; simp [hz1]
  have HTR := hide_ (aw_row (blk_grow ptc_len ((k1.later hB2).later hB3)) (k2.later hB3))
  have HRR : Hid (RRow w3 none []) := hide_ (.inl rfl)
  have HB03 := hide_ (below_to (below_to hB1 hB2) hB3)
  have K3 := hide_ k3
  rw [hz1] at HTR k3 K3 hw3
  rw [hz2] at K3 k3
  have HOf : Hid (Calls Try.prog 7 #[.agg #[.slice (some ⟨w.heap.size + 1, 0, none⟩) 6 6, .slice none 0 0]] w3 fun e w' => ∃ g cap, e = .returned (.tuple #[.slice (some ⟨g, 0, none⟩) 6 cap, .int .i64 0]) ∧ Hid (XRow w' (some ⟨g, 0, none⟩) awX) ∧ Hid (Below w3.heap.size w3 w')) := hide_ (by
    refine (of_any (some ⟨w.heap.size + 1, 0, none⟩) 6 awT none 0 [] w3 (by decide) (by decide) (hide_ aw_lens) HTR HRR).mono ?_
    rintro e w' (⟨hne, -, -⟩ | ⟨-, v, rfl, hX, hB⟩)
    · rw [aw_chk] at hne; exact absurd rfl hne
    · rw [aw_ext] at hX
      obtain ⟨g, cap, ys, rfl, -, -, -, -, -, hKK⟩ := ownS_blk hX (by decide)
      obtain ⟨a2, c2, e2, -, -, hrow⟩ := hX.row
      injection e2 with e2 _ _
      subst e2
      exact ⟨g, cap, rfl, hide_ hrow, hide_ hB⟩)
  have i0 := k3.cell 0; have i1 := k3.cell 1
  simp at i0 i1
  simp only [awTc] at hw2
  clear k1 k2 k3 hB1 hB2 hB3
  go_enter Try.func5, Try.ntmps5
  go_upto_region 2 with fail
  rw [← hw1, ← hw2, ← hw3]
  clear hw1 hw2 hw3 hz1 hz2
  go_wp2_with fail
  refine HOf.out.mono ?_
  rintro e w4 ⟨gx, cx, rfl, HX4, HB4⟩
  obtain ⟨w5, hw5⟩ : ∃ w5, w5 = w4.alloc (.cells #[.int .i64 4, .int .u64 0, .int .i64 3, .int .i64 1, .int .u64 7, .int .i64 0, .int .i64 3, .int .u64 0, .int .i64 2, .int .i64 1, .int .u64 5, .int .i64 0, .int .i64 1, .int .u64 300, .int .i64 0, .int .i64 5, .int .u64 0, .int .i64 0] 58) := ⟨_, rfl⟩
  have hB5 : Below w4.heap.size w4 w5 := by rw [hw5]; exact below1 _ _
  have k5 : Blk w5 w4.heap.size 58 (cellsG nvc awV) := by rw [hw5]; exact Blk.newA w4 _ _
  have HB5 := hide_ (below_to HB4.out hB5)
  have HV5 : Hid (VRow w5 (some ⟨w4.heap.size, 0, none⟩) awV) := hide_ (blk_grow nvc_len k5)
  have HX5 := hide_ (HX4.out.later hB5)
  have K5 := hide_ (K3.out.later HB5.out)
  have HTall : Hid (∀ w', Below w3.heap.size w3 w' → Hid (TRow w' (some ⟨w.heap.size + 1, 0, none⟩) awT)) := hide_ (fun w' hB => hide_ (HTR.out.later hB))
  have HL5 : Hid (∀ w', Below w5.heap.size w5 w' → Calls Try.prog 12 #[.agg #[.slice (some ⟨w.heap.size + 1, 0, none⟩) 6 6, .slice none 0 0], .int .i64 5, .slice (some ⟨w4.heap.size, 0, none⟩) 6 6] w' fun e w'' => ∃ a c, e = .returned (.tuple #[.slice a 6 c, .int .i64 0]) ∧ Hid (Row .i64 w'' a [21, 1, 11, 1, 2, 1]) ∧ Hid (Below w'.heap.size w' w'')) := hide_ (fun w' hB => by
    refine (lengths_any (some ⟨w.heap.size + 1, 0, none⟩) 6 awT none 0 [] 5 (some ⟨w4.heap.size, 0, none⟩) 6 awV w' (by decide) (by decide) (by decide) (hide_ aw_ok) (hide_ aw_lens) (HTall.out w' (below_to HB5.out hB)) (hide_ (.inl rfl)) (hide_ (HV5.out.later hB))).mono ?_
    rintro e w'' ⟨v, rfl, hO, hB2⟩
    rw [aw_len5] at hO ⊢
    obtain ⟨a, c, rfl, hr, -⟩ := own_open hO rfl
    exact ⟨a, c, rfl, hide_ hr, hide_ hB2⟩)
  have HLn : Hid (∀ (t q r : Int), (if (lenP awT [] t awV).1 = 0 then (lenP awT [] t awV).2.getD 0 0 else 0) = q → (lenP awT [] t awV).1 = r → ∀ w', Below w5.heap.size w5 w' → Calls Try.prog 13 #[.agg #[.slice (some ⟨w.heap.size + 1, 0, none⟩) 6 6, .slice none 0 0], .int .i64 t, .slice (some ⟨w4.heap.size, 0, none⟩) 6 6] w' fun e w'' => e = .returned (.tuple #[.int .i64 q, .int .i64 r]) ∧ Below w'.heap.size w' w'') := hide_ (fun t q r hq hr w' hB => by
    have h := length_any (some ⟨w.heap.size + 1, 0, none⟩) 6 awT none 0 [] t (some ⟨w4.heap.size, 0, none⟩) 6 awV w' (by decide) (by decide) (by decide) (hide_ aw_ok) (hide_ aw_lens) (HTall.out w' (below_to HB5.out hB)) (hide_ (.inl rfl)) (hide_ (HV5.out.later hB))
    rw [hq, hr] at h
    exact h)
  clear hB5 k5 i0 i1
  go_upto_region 6 with (go_at_call 9; refine (num_any _ _).mono ?_; rintro e w' ⟨rfl, rfl⟩)
  rw [← hw5]
  clear hw5
  have i0 := K5.out.cell 0; have i1 := K5.out.cell 1
  simp at i0 i1
  go_wp2_with fail
  refine (HL5.out _ (Below.refl _ _)).mono ?_
  rintro e w6 ⟨al, cl, rfl, HL6, HB6⟩
  have K6 := hide_ (K5.out.later HB6.out)
  clear i0 i1
  have i0 := K6.out.cell 0; have i1 := K6.out.cell 1
  simp at i0 i1
  go_wp2_with (go_at_call 9; refine (num_any _ _).mono ?_; rintro e w' ⟨rfl, rfl⟩)
  refine (HLn.out 5 21 0 (by rw [aw_len5]; rfl) (by rw [aw_len5]) _ HB6.out).mono ?_
  rintro e w7 ⟨rfl, hB7⟩
  have HB7 := hide_ (below_to HB6.out hB7)
  have K7 := hide_ (K6.out.later hB7)
  have HL7 := hide_ (HL6.out.later hB7)
  clear i0 i1 hB7
  have i0 := K7.out.cell 0; have i1 := K7.out.cell 1
  simp at i0 i1
  go_wp2_with fail
  refine (HLn.out 4 0 40 (by rw [aw_len4]; rfl) (by rw [aw_len4]) _ HB7.out).mono ?_
  rintro e w8 ⟨rfl, hB8⟩
  have HB8 := hide_ (below_to HB7.out hB8)
  have K8 := hide_ (K7.out.later hB8)
  have HL8 := hide_ (HL7.out.later hB8)
  clear i0 i1 hB8
  have i0 := K8.out.cell 0; have i1 := K8.out.cell 1
  simp at i0 i1
  go_wp2_with fail
  refine (HLn.out 6 0 3 (by rw [aw_len6]; rfl) (by rw [aw_len6]) _ HB8.out).mono ?_
  rintro e w9 ⟨rfl, hB9⟩
  have HB9 := hide_ (below_to HB8.out hB9)
  have HL9 := hide_ (HL8.out.later hB9)
  have HX9 := hide_ (HX5.out.later HB9.out)
  clear i0 i1 hB9
  obtain ⟨bx, ox, hax, -, hcx⟩ := HX9.out.open (by decide)
  injection hax with hax
  injection hax with e1 e2 _
  subst e1 e2
  have p0 := hcx 0 _ rfl 0 (by decide); have p1 := hcx 0 _ rfl 1 (by decide); have p2 := hcx 0 _ rfl 2 (by decide); have p3 := hcx 0 _ rfl 3 (by decide)
  have q0 := hcx 5 _ rfl 0 (by decide); have q1 := hcx 5 _ rfl 1 (by decide); have q2 := hcx 5 _ rfl 2 (by decide); have q3 := hcx 5 _ rfl 3 (by decide)
  simp [exc] at p0 p1 p2 p3 q0 q1 q2 q3
  clear hcx
  obtain ⟨wa, hwa⟩ : ∃ wa, wa = w9.alloc (.cells #[.int .i64 21, .int .i64 1, .int .i64 11, .int .i64 1, .int .i64 2, .int .i64 1] 3) := ⟨_, rfl⟩
  have hBa : Below w9.heap.size w9 wa := by rw [hwa]; exact below1 _ _
  have ka : Blk wa w9.heap.size 3 (cellsL .i64 [21, 1, 11, 1, 2, 1]) := by rw [hwa]; exact Blk.newA w9 _ _
  have HSm := hide_ (sameInts_yes al (some ⟨w9.heap.size, 0, none⟩) cl 6 6 [21, 1, 11, 1, 2, 1] wa (hide_ rfl) (by decide) (hide_ (HL9.out.later hBa)) (hide_ ka.row))
  have HBa := hide_ (below_to HB03.out (below_to HB5.out (below_to HB9.out hBa)))
  clear ka hBa
  go_wp2_with (first | (go_at_call 9; refine (num_any _ _).mono ?_; rintro e w' ⟨rfl, rfl⟩))
  rw [← hwa]
  refine HSm.out.mono ?_
  rintro e wb ⟨rfl, hBb⟩
  have HBb := hide_ (below_to HBa.out hBb)
  clear hwa hBb
  go_wp2
  go_ret
  exact ⟨rfl, HBb.out⟩
end Go.Proofs.Ytdpkmkhflgmioaa

/- The law's apart: two lists of the call's own, written over and grown. -/
namespace Go.Proofs.Ytdpkmkhflgmioaa
open Go.RowKit
set_option linter.unusedVariables false

theorem iown_at {w : World} {l : List Int} {B g n cap i : Nat} (h : IOwn w B (.slice (some ⟨g, 0, none⟩) n cap) l) (hi : i < l.length) : w.cell? ⟨g, i, none⟩ = some (.int .i64 (l.getD i 0)) ∧ w.frozen? ⟨g, i, none⟩ = false := by
  obtain ⟨a, c, e, -, -, -, -, h2⟩ := own_open h rfl
  obtain ⟨g', e2, -, -, hc, hf⟩ := h2 (by omega)
  injection e with e1 _ _
  rw [e2] at e1
  injection e1 with e1
  injection e1 with e1 _ _
  subst e1
  exact ⟨hc i hi, hf i⟩
theorem iown_addr {w : World} {l : List Int} {B n cap : Nat} {a : Option Addr} (h : IOwn w B (.slice a n cap) l) (hl : 0 < l.length) : ∃ g, a = some ⟨g, 0, none⟩ := by
  obtain ⟨g, cap', ys, e, _⟩ := ownS_blk h hl
  injection e with e _ _
  exact ⟨g, e⟩
theorem IOwn.rowS {w : World} {l : List Int} {B n c : Nat} {a : Option Addr} (h : IOwn w B (.slice a n c) l) : Row .i64 w a l := by
  obtain ⟨a', c', e, h1, _⟩ := h.row
  injection e with e _ _
  rw [e]
  exact h1
theorem take_set_s (l : List Int) (k : Nat) (s : Int) (hk : k < l.length) : (l.set k s).take (k + 1) = l.take k ++ [s] := by
  have h1 : k < (l.set k s).length := by rw [List.length_set]; exact hk
  rw [List.take_succ_eq_append_getElem h1, List.getElem_set_self, List.take_set_of_le (Nat.le_refl k)]
theorem rep_last (n : Nat) (x : Int) (i : Nat) (h : i < n + 1) : (List.replicate n x ++ [x]).getD i 0 = x := by
  have e : List.replicate n x ++ [x] = List.replicate (n + 1) x := by rw [List.replicate_succ']
  rw [e]
  simp [List.getD, h]
set_option maxRecDepth 100000 in
set_option maxHeartbeats 8000000 in
theorem apart_yes (va vb : Value) (n B : Nat) (la lb : List Int) (w : World) (hla : Hid (la.length = n)) (hlb : Hid (lb.length = n)) (hn : n ≤ 100000000) (hB : B ≤ w.heap.size) (ha : Hid (IOwn w B va la)) (hb : Hid (IOwn w B vb lb)) (hd : Hid (∀ k, va.ownBlock = some k → vb.ownBlock = some k → False)) :
    Calls Try.prog 21 #[va, vb] w fun e w' => e = .returned (.bool true) ∧ Hid (Upd (fun k => va.ownBlock = some k ∨ vb.ownBlock = some k) w w') := by
  obtain ⟨aA, cA, eA⟩ := ha.out.slice
  obtain ⟨aB, cB, eB, hrB, hnB, -⟩ := hb.out.row
  rw [hla.out] at eA
  rw [hlb.out] at eB
  subst eA eB
  obtain ⟨vw, w1, hr1, ho1, hg1⟩ := run_copy elI w 26 w.heap.size aB n cB lb hlb.out hrB hnB (by unfold maxLen; omega) (by omega) (Nat.le_refl _)
  have hb1 : Below w.heap.size w w1 := ((Upd.refl (fun _ => False) w).grown hg1 (fun k hk => by cases hk)).below _ (Nat.le_refl _) (fun k hk => hk.elim)
  have HR1 := hide_ hr1
  have HW1 : Hid (IOwn w1 w.heap.size vw lb) := hide_ (by unfold IOwn; rw [hlb.out]; exact ho1)
  have HB1 := hide_ hb1
  have HA1 := hide_ (ha.out.later hb1)
  have HBl1 := hide_ (hb.out.later hb1)
  have hz1 : w.heap.size ≤ w1.heap.size := hb1.size
  obtain ⟨aW, cW, eW, -⟩ := HW1.out.row
  rw [hlb.out] at eW
  subst eW
  have HBw : Hid (∀ k, (Value.slice aB n cB).ownBlock = some k → k < w.heap.size) := hide_ (fun k hk => (hb.out.lies hk).2)
  have HAw : Hid (∀ k, (Value.slice aA n cA).ownBlock = some k → k < w.heap.size) := hide_ (fun k hk => (ha.out.lies hk).2)
  clear hr1 ho1 hg1 hb1 hrB hnB
  go_enter Try.func21, Try.ntmps21
  go_wp2_with (first | (at_builtin; refine wpList_append_run rfl (.const (.slice none 0 0)) (.tmp 11) 26 26 rfl rfl rfl HR1.out ?_; clear HR1) | fail)
  go_loopw [6] (fun x6 wr => ∃ (i : Nat) (m : List Int), i ≤ n ∧ x6 = .int .i64 (i : Int) ∧ Hid (m.length = n) ∧ Hid (m.take i = List.replicate i (-7)) ∧ Hid (IOwn wr B (.slice aA n cA) m) ∧ Hid (Upd (fun k => (Value.slice aA n cA).ownBlock = some k) w1 wr)) (fun x6 _ => n - (intOf x6).toNat)
  case atStart => exact ⟨0, la, Nat.zero_le _, rfl, hla, hide_ (by simp), HA1, hide_ (Upd.refl _ _)⟩
  case round =>
    obtain ⟨i, m, hi, rfl, HM, HT, HO, HU⟩ := hrel
    generalize wr = wq at *
    by_cases hlt : i < n
    · have hlt' : (i : Int) < n := by omega
      have him : i < m.length := by rw [HM.out]; exact hlt
      obtain ⟨gA, hgA⟩ := iown_addr HO.out (by omega)
      subst hgA
      obtain ⟨x0, xf⟩ := iown_at HO.out him
      have HS := hide_ (HO.out.set him (-7))
      have HT2 : Hid ((m.set i (-7)).take (i + 1) = List.replicate (i + 1) (-7)) := hide_ (by rw [take_set_s _ _ _ him, HT.out, List.replicate_succ'])
      have HM2 : Hid ((m.set i (-7)).length = n) := hide_ (by rw [List.length_set]; exact HM.out)
      have HU2 := hide_ (HU.out.set ⟨gA, i, none⟩ (.int .i64 (-7)) (.inl rfl))
      generalize m.getD i 0 = q at *
      clear him
      go_wp2_with fail
      go_roundw
      case rel => exact ⟨i + 1, _, by omega, by go_num, HM2, HT2, HS, HU2⟩
      case measure => simp [intOf]; omega
    · obtain rfl : i = n := by omega
      have hmr : m = List.replicate i (-7) := by have := HT.out; rw [← HM.out, List.take_length] at this; rw [HM.out] at this; exact this
      subst hmr
      have HBl2 := hide_ (HBl1.out.upd HU.out (fun k hk e => hd.out k e hk))
      have HW2 := hide_ (HW1.out.upd HU.out (fun k hk e => by have := (HW1.out.lies hk).1; have := HAw.out k e; omega))
      have hzq : w1.heap.size ≤ wq.heap.size := HU.out.size
      obtain ⟨gC, cC, w2, hrc, hoc, huc, hgc⟩ := HO.out.push (-7) (by simp; omega) (by omega)
      rw [List.length_replicate] at hrc hoc
      have HRc := hide_ hrc
      have HC := hide_ hoc
      have HUc := hide_ (HU.out.to huc)
      have HBl3 := hide_ (HBl2.out.upd huc (fun k hk e => hd.out k e hk))
      have HW3 := hide_ (HW2.out.upd huc (fun k hk e => by have := (HW1.out.lies hk).1; have := HAw.out k e; omega))
      have HCn : Hid (¬ (Value.slice aB i cB).ownBlock = some gC) := hide_ (fun e => by
        rcases hgc with h | h
        · exact hd.out gC h e
        · have := HBw.out gC e; omega)
      have hz2 : wq.heap.size ≤ w2.heap.size := huc.size
      have HSm := hide_ (sameInts_yes aB aW cB cW i lb w2 hlb (by omega) (hide_ HBl3.out.rowS) (hide_ HW3.out.rowS))
      clear hrc hoc huc hgc HO HU HT HM HBl2 HW2
      go_wp2_with (first | (at_builtin; refine wpList_append_run rfl (.tmp 22) (.tmp 23) 26 26 rfl rfl rfl HRc.out ?_; clear HRc) | fail)
      refine HSm.out.mono ?_
      rintro e w3 ⟨rfl, hB3⟩
      have HC3 := hide_ (HC.out.later hB3)
      have HBl4 := hide_ (HBl3.out.later hB3)
      have HU3 := hide_ (HUc.out.then hB3)
      have hz3 : w2.heap.size ≤ w3.heap.size := hB3.size
      clear hB3 HSm HC HBl3 HW3 HUc
      go_wp2_with fail
      go_loopw [8] (fun x8 wr => ∃ (j : Nat) (m : List Int), j ≤ i ∧ x8 = .int .i64 (j : Int) ∧ Hid (m.length = i) ∧ Hid (m.take j = List.replicate j (-8)) ∧ Hid (IOwn wr B (.slice aB i cB) m) ∧ Hid (Upd (fun k => (Value.slice aB i cB).ownBlock = some k) w3 wr)) (fun x8 _ => i - (intOf x8).toNat)
      case atStart => exact ⟨0, lb, Nat.zero_le _, rfl, hlb, hide_ (by simp), HBl4, hide_ (Upd.refl _ _)⟩
      case round =>
        obtain ⟨j, m, hj, rfl, HM, HT, HO, HU⟩ := hrel
        generalize wr = wq2 at *
        by_cases hltj : j < i
        · have hltj' : (j : Int) < i := by omega
          have him : j < m.length := by rw [HM.out]; exact hltj
          obtain ⟨gB, hgB⟩ := iown_addr HO.out (by omega)
          subst hgB
          obtain ⟨x0, xf⟩ := iown_at HO.out him
          have HS := hide_ (HO.out.set him (-8))
          have HT2 : Hid ((m.set j (-8)).take (j + 1) = List.replicate (j + 1) (-8)) := hide_ (by rw [take_set_s _ _ _ him, HT.out, List.replicate_succ'])
          have HM2 : Hid ((m.set j (-8)).length = i) := hide_ (by rw [List.length_set]; exact HM.out)
          have HU2 := hide_ (HU.out.set ⟨gB, j, none⟩ (.int .i64 (-8)) (.inl rfl))
          generalize m.getD j 0 = q at *
          clear him
          go_wp2_with fail
          go_roundw
          case rel => exact ⟨j + 1, _, by omega, by go_num, HM2, HT2, HS, HU2⟩
          case measure => simp [intOf]; omega
        · obtain rfl : j = i := by omega
          have hmr : m = List.replicate j (-8) := by have := HT.out; rw [← HM.out, List.take_length] at this; rw [HM.out] at this; exact this
          subst hmr
          have HC4 := hide_ (HC3.out.upd HU.out (fun k hk e => HCn.out (by rw [← own_is hk] at e; exact e)))
          have hzq2 : w3.heap.size ≤ wq2.heap.size := HU.out.size
          obtain ⟨gD, cD, w4, hrd, hod, hud, hgd⟩ := HO.out.push (-8) (by simp; omega) (by omega)
          rw [List.length_replicate] at hrd hod
          have HRd := hide_ hrd
          have HD := hide_ hod
          have HC5 := hide_ (HC4.out.upd hud (fun k hk e => HCn.out (by rw [← own_is hk] at e; exact e)))
          have HUf : Hid (Upd (fun k => (Value.slice aA j cA).ownBlock = some k ∨ (Value.slice aB j cB).ownBlock = some k) w w4) := hide_ (((Upd.of_below HB1.out).to (HU3.out.mono (T := fun k => (Value.slice aA j cA).ownBlock = some k ∨ (Value.slice aB j cB).ownBlock = some k) (fun _ _ h => .inl h))).to ((HU.out.to hud).mono (fun _ _ h => .inr h)))
          clear hrd hod hud hgd HO HU HT HM HC4
          go_wp2_with (first | (at_builtin; refine wpList_append_run rfl (.tmp 38) (.tmp 39) 26 26 rfl rfl rfl HRd.out ?_; clear HRd) | fail)
          go_loopw [10] (fun x10 wr => ∃ (k : Nat), k ≤ j + 1 ∧ x10 = .int .i64 (k : Int) ∧ w4 = wr) (fun x10 _ => j + 1 - (intOf x10).toNat)
          case atStart => exact ⟨0, Nat.zero_le _, rfl, rfl⟩
          case round =>
            obtain ⟨k, hk, rfl, rfl⟩ := hrel
            by_cases hltk : k < j + 1
            · have hltk' : (k : Int) < (j : Int) + 1 := by omega
              have c1 := (iown_at HC5.out (i := k) (by simp; omega)).1
              have d1 := (iown_at HD.out (i := k) (by simp; omega)).1
              rw [rep_last _ _ _ hltk] at c1 d1
              go_wp2_with fail
              go_roundw
              case rel => exact ⟨k + 1, by omega, by go_num, by trivial⟩
              case measure => simp [intOf]; omega
            · obtain rfl : k = j + 1 := by omega
              go_wp2
              go_ret
              exact ⟨rfl, HUf⟩
end Go.Proofs.Ytdpkmkhflgmioaa
