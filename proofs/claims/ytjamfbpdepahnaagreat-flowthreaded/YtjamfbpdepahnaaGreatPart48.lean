import Derived.Test.YtjamfbpdepahnaaGreatPart46
import Derived.Test.YtjamfbpdepahnaaGreatPart18
import Derived.Test.YtjamfbpdepahnaaGreatPart01
import Derived.Laws.EntriesVeiled
namespace Go.Proofs.YtjamfbpdepahnaaGreat
open Go.RowKit
set_option linter.unusedVariables false
set_option linter.unusedSimpArgs false
theorem COwn.upd {w w' : World} {B : Nat} {v : Value} {l : List In} {S : Nat → Prop} (h : COwn w B v l) (hu : Upd S w w') (hs : ∀ k, v.ownBlock = some k → ¬ S k) : COwn w' B v l := ownS_upd h hu hs
theorem COwn.lies {w : World} {B : Nat} {v : Value} {l : List In} (h : COwn w B v l) {k : Nat} (hk : v.ownBlock = some k) : B ≤ k ∧ k < w.heap.size := h.lt k hk
theorem COwn.setB {w : World} {B g n cap i : Nat} {l : List In} {x : In} (h : COwn w B (.slice (some ⟨g, 0, none⟩) n cap) l) (hx : l[i]? = some x) (b : Int) : COwn (w.setCell ⟨g, i * 4 + 2, none⟩ (.int .i64 b)) B (.slice (some ⟨g, 0, none⟩) n cap) (l.set i ⟨x.op, x.a, b, x.c⟩) := by
  have hi : i < l.length := (List.getElem?_eq_some_iff.1 hx).1
  obtain ⟨g', cap', ys, e, hb, hn, hm, hys, ht, hk⟩ := ownS_blk h (by omega)
  injection e with e1 e2 e3
  injection e1 with e1
  injection e1 with e1 _ _
  subst e1 e2 e3
  have hk2 := hk.set (i * 4 + 2) (.int .i64 b)
  have h2 := ownS_of_blk (B := B) (n := l.length) (c := 4) (cap := cap) hk2 hb (by simp [hys]) hn hm
  have e4 : (ys.set (i * 4 + 2) (.int .i64 b)).take (l.length * 4) = cellsG inc (l.set i ⟨x.op, x.a, b, x.c⟩) := by
    apply List.ext_getElem?
    intro q
    rw [List.getElem?_take]
    by_cases hq : q < l.length * 4
    · rw [if_pos hq]
      have hqd : (q / 4) * 4 + q % 4 = q := by omega
      have hx2 := List.getElem?_eq_getElem (l := l) (i := q / 4) (by omega)
      have h4 := cellsG_at inc_len l (q / 4) (q % 4) _ hx2 (by omega)
      rw [hqd, ← ht, List.getElem?_take, if_pos hq] at h4
      have hx3 := List.getElem?_eq_getElem (l := l.set i ⟨x.op, x.a, b, x.c⟩) (i := q / 4) (by rw [List.length_set]; omega)
      have h3 := cellsG_at inc_len (l.set i ⟨x.op, x.a, b, x.c⟩) (q / 4) (q % 4) _ hx3 (by omega)
      rw [hqd] at h3
      rw [h3]
      by_cases e5 : q / 4 = i
      · have e6 : (l.set i ⟨x.op, x.a, b, x.c⟩)[q / 4]'(by rw [List.length_set]; omega) = ⟨x.op, x.a, b, x.c⟩ := by simp [e5]
        have e7 : l[q / 4]'(by omega) = x := by
          have := (List.getElem?_eq_some_iff.1 hx).2
          simp [e5, this]
        rw [e6]
        rw [e7] at h4
        by_cases e8 : q % 4 = 2
        · have e9 : q = i * 4 + 2 := by omega
          rw [e8, e9, List.getElem?_set_self (by rw [hys]; omega)]
          rfl
        · rw [List.getElem?_set_ne (by omega), h4]
          have : q % 4 = 0 ∨ q % 4 = 1 ∨ q % 4 = 3 := by omega
          rcases this with h | h | h <;> rw [h] <;> rfl
      · have e6 : (l.set i ⟨x.op, x.a, b, x.c⟩)[q / 4]'(by rw [List.length_set]; omega) = l[q / 4]'(by omega) := by simp [List.getElem_set, show i ≠ q / 4 from fun e => e5 e.symm]
        rw [e6, List.getElem?_set_ne (by omega), h4]
    · rw [if_neg hq, List.getElem?_eq_none (by rw [cellsG_len inc_len]; simp; omega)]
  unfold COwn
  rw [List.length_set, ← e4]
  exact h2
theorem copyC {w : World} {a : Option Addr} {n cap : Nat} {l : List In} (hn : l.length = n) (hr : IRow w a l) (hnil : a = none → cap = 0) (hl : n ≤ 4398046511104) :
    ∃ v' w', (Builtin.append_ #[22, 22] 22 #[.slice none 0 0, .slice a n cap]).run Tryz.prog w = .ok v' w' ∧ COwn w' w.heap.size v' l ∧ Below w.heap.size w w' := by
  subst hn
  exact run_copyG (P := Tryz.prog) (t := 22) (e := 37) (c := 4) inc_len inc_one Tryz.underlying22 infoIn rfl (by decide) w a l.length cap l rfl hr hnil (by unfold maxLen; omega) (by omega)
structure EnB (w : World) (bx g n : Nat) (L : List Int) : Prop where
  box : Blk w bx 23 [.slice (some ⟨g, 0, none⟩) n n]
  row : Row .i64 w (some ⟨g, 0, none⟩) L
  len : L.length = n
theorem EnB.later {w w' : World} {bx g n : Nat} {L : List Int} (h : EnB w bx g n L) (hB : Below w.heap.size w w') : EnB w' bx g n L := ⟨h.box.later hB, h.row.later hB, h.len⟩
set_option maxRecDepth 100000 in
set_option maxHeartbeats 16000000 in
theorem end1_any (bx g n t : Nat) (L : List Int) (w : World) (ht : t < n) (h : Hid (EnB w bx g n L)) :
    Calls Tryz.prog 18 #[.int .i64 (t : Int), .pointer (some ⟨bx, 0, none⟩)] w fun e w' => e = .returned (.int .i64 (hAt L t)) ∧ w = w' := by
  have b0 := h.out.box.cell 0
  simp at b0
  have htI : (t : Int) < (n : Int) := by omega
  have hl := h.out.len
  obtain ⟨b', o', e, -, hc⟩ := h.out.row.open (by omega)
  injection e with e
  injection e with e1 e2
  subst e1 e2
  have c0' := hc t (by omega)
  rw [Nat.zero_add] at c0'
  have c0 : w.cell? ⟨g, t, none⟩ = some (.int .i64 (hAt L t)) := c0'
  clear c0'
  obtain ⟨y, hy⟩ : ∃ y, hAt L t = y := ⟨_, rfl⟩
  rw [hy] at c0 ⊢
  clear hc hl hy
  go_enter Tryz.func18, Tryz.ntmps18
  go_wp2_with fail
  go_ret
  exact ⟨rfl, rfl⟩
def thJ (C : List In) (j : Nat) : List In := (thC C).take j ++ C.drop j
theorem thJ_zero (C : List In) : thJ C 0 = C := by simp [thJ]
theorem thJ_len (C : List In) {j : Nat} (hj : j ≤ C.length) : (thJ C j).length = C.length := by simp [thJ, thC]; omega
theorem thJ_all (C : List In) : thJ C C.length = thC C := by
  unfold thJ
  rw [List.drop_length, List.append_nil, List.take_of_length_le (by rw [thC_len]; exact Nat.le_refl _)]
theorem thJ_at {C : List In} {j : Nat} {x : In} (hx : C[j]? = some x) : (thJ C j)[j]? = some x := by
  have hj := (List.getElem?_eq_some_iff.1 hx).1
  unfold thJ
  rw [List.getElem?_append_right (by simp [thC]; omega)]
  simp [thC, show min j C.length = j by omega, hx]
theorem thJ_step {C : List In} {j : Nat} {x : In} (hx : C[j]? = some x) : thJ C (j + 1) = (thJ C j).set j (thI C x) := by
  have hj := (List.getElem?_eq_some_iff.1 hx).1
  apply List.ext_getElem?
  intro q
  rw [List.getElem?_set, thJ_len C (by omega)]
  unfold thJ
  by_cases h1 : j = q
  · subst h1
    rw [if_pos rfl, if_pos hj, List.getElem?_append_left (by simp [thC]; omega), List.getElem?_take, if_pos (by omega)]
    simp [thC, hx]
  · rw [if_neg h1]
    by_cases h2 : q < j
    · rw [List.getElem?_append_left (by simp [thC]; omega), List.getElem?_append_left (by simp [thC]; omega), List.getElem?_take, List.getElem?_take, if_pos (by omega), if_pos h2]
    · rw [List.getElem?_append_right (by simp [thC]; omega), List.getElem?_append_right (by simp [thC]; omega)]
      simp [thC, show min (j + 1) C.length = j + 1 by omega, show min j C.length = j by omega]
      congr 1
      omega
theorem thJ_same {C : List In} {j : Nat} {x : In} (hx : C[j]? = some x) (h : thI C x = x) : thJ C (j + 1) = thJ C j := by
  rw [thJ_step hx, h]
  have h1 := thJ_at hx
  have hl : j < (thJ C j).length := (List.getElem?_eq_some_iff.1 h1).1
  have h2 := (List.getElem?_eq_some_iff.1 h1).2
  conv => lhs; rw [← h2]
  exact List.set_getElem_self hl
theorem thE_len (C : List In) (E : List Int) : (thE C E).length = E.length := by simp [thE]
theorem thE_step {C : List In} {E : List Int} {j y : Nat} (hj : j < E.length) (hy : hAt E j = (y : Int)) : (thE C E).take (j + 1) = (thE C E).take j ++ [(endP C y : Int)] := by
  rw [List.take_add_one, thE, List.getElem?_map]
  have : E[j]? = some (y : Int) := by
    rw [List.getElem?_eq_getElem hj, ← hy]
    simp [hAt, List.getD, hj]
  rw [this]
  simp
def TuTo (w : World) (enc : Bool) (C : List In) (E : List Int) (e : Ending) (w' : World) : Prop := ∃ vC vE, e = .returned (.agg #[.bool enc, vC, vE]) ∧ COwn w' w.heap.size vC (thC C) ∧ IOwn w' w.heap.size vE (thE C E) ∧ Below w.heap.size w w'
structure TuM (w0 w : World) (gq : Nat) (enc : Bool) (ac ae : Option Addr) (n cc ne ce : Nat) (vC vE : Value) (D : List In) (F : List Int) : Prop where
  pg : Blk w w0.heap.size 25 [.bool enc, .slice ac n cc, .slice ae ne ce]
  rs : Blk w (w0.heap.size + 1) 25 [.bool false, .slice none 0 0, .slice none 0 0]
  qb : Blk w gq 25 [.bool enc, vC, vE]
  gq : w0.heap.size + 2 ≤ gq
  cd : COwn w w0.heap.size vC D
  en : IOwn w w0.heap.size vE F
  bl : Below w0.heap.size w0 w
theorem TuM.upd {w0 w w' : World} {gq : Nat} {enc : Bool} {ac ae : Option Addr} {n cc ne ce : Nat} {vC vE : Value} {D : List In} {F : List Int} {S : Nat → Prop} (h : TuM w0 w gq enc ac ae n cc ne ce vC vE D F) (hu : Upd S w w') (h1 : ∀ q, S q → w0.heap.size + 2 ≤ q) (h2 : ¬ S gq) (h3 : ∀ q, vC.ownBlock = some q → ¬ S q) (h4 : ∀ q, vE.ownBlock = some q → ¬ S q) : TuM w0 w' gq enc ac ae n cc ne ce vC vE D F :=
  ⟨h.pg.upd hu (fun e => by have := h1 _ e; omega), h.rs.upd hu (fun e => by have := h1 _ e; omega), h.qb.upd hu h2, h.gq, h.cd.upd hu h3, h.en.upd hu h4, below_to2 h.bl hu (fun q e => by have := h1 _ e; omega)⟩
theorem TuM.later {w0 w w' : World} {gq : Nat} {enc : Bool} {ac ae : Option Addr} {n cc ne ce : Nat} {vC vE : Value} {D : List In} {F : List Int} (h : TuM w0 w gq enc ac ae n cc ne ce vC vE D F) (hB : Below w.heap.size w w') : TuM w0 w' gq enc ac ae n cc ne ce vC vE D F :=
  ⟨h.pg.later hB, h.rs.later hB, h.qb.later hB, h.gq, h.cd.later hB, h.en.later hB, below_to h.bl hB⟩
theorem TuM.ne {w0 w : World} {gq : Nat} {enc : Bool} {ac ae : Option Addr} {n cc ne ce : Nat} {vC vE : Value} {D : List In} {F : List Int} (h : TuM w0 w gq enc ac ae n cc ne ce vC vE D F) : (∀ k, vC.ownBlock = some k → k ≠ w0.heap.size ∧ k ≠ w0.heap.size + 1 ∧ k ≠ gq) ∧ (∀ k, vE.ownBlock = some k → k ≠ w0.heap.size ∧ k ≠ w0.heap.size + 1 ∧ k ≠ gq) :=
  ⟨fun k e => ⟨fun e2 => notC h.cd (e2 ▸ h.pg) (by decide) e, fun e2 => notC h.cd (e2 ▸ h.rs) (by decide) e, fun e2 => notC h.cd (e2 ▸ h.qb) (by decide) e⟩, fun k e => ⟨fun e2 => notI h.en (e2 ▸ h.pg) (by decide) e, fun e2 => notI h.en (e2 ▸ h.rs) (by decide) e, fun e2 => notI h.en (e2 ▸ h.qb) (by decide) e⟩⟩
theorem retP1 {fn : Func} {p : Tmp} (h : fn.results = #[.cell p 25]) {R : Ending → World → Prop} {tmps : Array Value} {g : Nat} {w : World} {x y z : Value} (hp : tmps.getD p undef = .pointer (some ⟨g, 0, none⟩)) (hK : Blk w g 25 [x, y, z]) (hR : R (.returned (.agg #[x, y, z])) w) :
    bodyPost Tryz.prog fn R Exit.ret ⟨tmps, []⟩ w :=
  bodyPost_ret (results_cell_row h _ _ _ _ #[x, y, z] _ _ hp (show w.heap[g]? = some (.cells #[x, y, z] 25 (0, 0)) from hK) Tryz.underlying25 rfl (by show _ = some 3; kernel_rfl)) rfl hR
theorem wr3p {w : World} {g : Nat} {x y z : Value} (h : Blk w g 25 [x, y, z]) (u v t : Value) : Blk (((w.setCell ⟨g, 0, none⟩ u).setCell ⟨g, 1, none⟩ v).setCell ⟨g, 2, none⟩ t) g 25 [u, v, t] := by
  have := ((h.set 0 u).set 1 v).set 2 t
  simpa using this
theorem upd3p (w : World) (g : Nat) (x y z : Value) : Upd (fun k => k = g) w (((w.setCell ⟨g, 0, none⟩ x).setCell ⟨g, 1, none⟩ y).setCell ⟨g, 2, none⟩ z) := by
  have h1 : Upd (fun k => k = g) w (w.setCell ⟨g, 0, none⟩ x) := (Upd.refl (fun k => k = g) w).set ⟨g, 0, none⟩ x (.inl rfl)
  have h2 := h1.set ⟨g, 1, none⟩ y (.inl rfl)
  exact h2.set ⟨g, 2, none⟩ z (.inl rfl)
theorem COwn.rowS {w : World} {l : List In} {B n c : Nat} {a : Option Addr} (h : COwn w B (.slice a n c) l) : IRow w a l := by
  obtain ⟨a', c', e, -, -, hr⟩ := h.row
  injection e with e
  rw [e]
  exact hr
theorem COwn.frz {w : World} {l : List In} {B n c g : Nat} (h : COwn w B (.slice (some ⟨g, 0, none⟩) n c) l) (h0 : 0 < l.length) (k : Nat) : w.frozen? ⟨g, k, none⟩ = false := by
  obtain ⟨g', cap', ys, e, hb, hn', hm, hys, ht, hk⟩ := ownS_blk h h0
  injection e with e1
  injection e1 with e1
  injection e1 with e1
  rw [e1]
  exact hk.frozen _
theorem COwn.open {w : World} {B n c : Nat} {a : Option Addr} {l : List In} (h : COwn w B (.slice a n c) l) (h0 : 0 < l.length) : ∃ g, a = some ⟨g, 0, none⟩ ∧ B ≤ g ∧ g < w.heap.size := by
  unfold COwn at h
  rcases h.2 with ⟨h1, h2⟩ | ⟨g, cap, cur, hv, hb, hg, _⟩
  · omega
  · injection hv with h1
    exact ⟨g, h1, hb, (Array.getElem?_eq_some_iff.1 hg).1⟩
set_option maxRecDepth 100000 in
set_option maxHeartbeats 16000000 in
theorem turned_any (enc : Bool) (ac ae : Option Addr) (cc ce n bx g : Nat) (C : List In) (E : List Int) (w : World) (hn : C.length = n) (hnil : ac = none → cc = 0) (hK : Hid (Chk enc C E)) (hC : Hid (IRow w ac C)) (hE : Hid (Row .i64 w ae E)) (hB : Hid (EnB w bx g n (enL C))) :
    Calls Tryz.prog 17 #[.agg #[.bool enc, .slice ac n cc, .slice ae E.length ce], .func (.func 18) #[] #[.pointer (some ⟨bx, 0, none⟩)]] w fun e w' => TuTo w enc C E e w' := by
  have hnb : n ≤ 1048576 := by rw [← hn]; exact hK.out.nc
  have hl44 : n ≤ 4398046511104 := by omega
  have heb : E.length ≤ 1048576 := hK.out.ne
  obtain ⟨w1, hw1⟩ : ∃ wx, (w.alloc (.cells #[.bool enc, .slice ac n cc, .slice ae E.length ce] 25)).alloc (.cells #[.bool false, .slice none 0 0, .slice none 0 0] 25) = wx := ⟨_, rfl⟩
  have HB1 : Hid (Below w.heap.size w w1) := hide_ (by rw [← hw1]; exact below2 _ _ _)
  obtain ⟨kp, kr⟩ := blk2 w #[.bool enc, .slice ac n cc, .slice ae E.length ce] #[.bool false, .slice none 0 0, .slice none 0 0] 25 25
  rw [hw1] at kp kr
  have HP1 := hide_ kp
  have HR1 := hide_ kr
  have hs1 : w1.heap.size = w.heap.size + 2 := by rw [← hw1]; simp
  have Hn := hide_ hn
  have HC : Hid (∀ w', Below w1.heap.size w1 w' → IRow w' ac C) := hide_ (fun w' h => hC.out.later (below_to HB1.out h))
  have HSS : Hid (∀ w', Below w1.heap.size w1 w' → w'.cell? ⟨w.heap.size, 0, none⟩ = some (.bool enc) ∧ w'.cell? ⟨w.heap.size, 1, none⟩ = some (.slice ac n cc)) := hide_ (fun w' h => by
    have h1 := (HP1.out.later h).cell 0; have h2 := (HP1.out.later h).cell 1
    simp at h1 h2
    exact ⟨h1, h2⟩)
  have HEnd : Hid (∀ (gq : Nat) (vC : Value) (w4 : World), w1.heap.size ≤ gq → Blk w4 gq 25 [.bool false, .slice none 0 0, .slice none 0 0] → COwn w4 w.heap.size vC C → Below w1.heap.size w1 w4 → TuM w (((w4.setCell ⟨gq, 0, none⟩ (.bool enc)).setCell ⟨gq, 1, none⟩ vC).setCell ⟨gq, 2, none⟩ (.slice none 0 0)) gq enc ac ae n cc E.length ce vC (.slice none 0 0) C []) := hide_ (fun gq vC w4 h1 h2 h3 h4 => by
    have hU : Upd (fun q => q = gq) w4 (((w4.setCell ⟨gq, 0, none⟩ (.bool enc)).setCell ⟨gq, 1, none⟩ vC).setCell ⟨gq, 2, none⟩ (.slice none 0 0)) := upd3p _ _ _ _ _
    exact ⟨(HP1.out.later h4).upd hU (fun e => by omega), (HR1.out.later h4).upd hU (fun e => by omega), wr3p h2 _ _ _, by omega, h3.upd hU (fun q e e2 => by rw [e2] at e; exact notC h3 h2 (by decide) e), IOwn.nil _ _, below_to2 (below_to HB1.out h4) hU (fun q e => by omega)⟩)
  clear hs1
  have hsz1 : w.heap.size ≤ w1.drew.heap.size := HB1.out.size
  have HEr : Hid (∀ w3 : World, Below w.heap.size w w3 → Row .i64 w3 ae E) := hide_ (fun w3 h => hE.out.later h)
  have HF : Hid (∀ (t : Nat) (w3 : World), t < n → Below w.heap.size w w3 → Calls Tryz.prog 18 #[.int .i64 (t : Int), .pointer (some ⟨bx, 0, none⟩)] w3 fun e w' => e = .returned (.int .i64 (endP C t : Int)) ∧ w3 = w') := hide_ (fun t w3 ht h => by
    have h1 := end1_any bx g n t (enL C) w3 ht (hide_ (hB.out.later h))
    rw [enL_at (by omega)] at h1
    exact h1)
  clear hn kp kr hC hE hB
  go_enter Tryz.func17, Tryz.ntmps17
  go_upto_region 1 with fail
  try rw [hw1]
  clear hw1
  go_cut [5] from 5 to 15 (fun x5 wc => ∃ (gq : Nat) (vC : Value) (wz : World), x5 = .pointer (some ⟨gq, 0, none⟩) ∧ wz = wc ∧ Hid (TuM w wz gq enc ac ae n cc E.length ce vC (.slice none 0 0) C []))
  case first =>
    refine wp_region_last 7 (fun w' => w'.cell? ⟨w.heap.size, 0, none⟩ = some (.bool enc) ∧ w'.cell? ⟨w.heap.size, 1, none⟩ = some (.slice ac n cc)) (by kernel_rfl) (HSS.out _ ((Below.refl w1.heap.size w1).drew)) (fun hHeld => ?_)
    refine wpAnyF_take [7] (by kernel_rfl) (i := 0) (v := ?va1) rfl (by kernel_rfl) (by kernel_rfl) (by kernel_rfl) (fun _ _ _ h => h) (Or.inl ⟨by kernel_rfl, ?hya1⟩) hHeld ?resta1
    case hya1 => intro w' hSw; (try dsimp only at hSw); go_simp; try with_reducible rfl
    simp only [Act.put]
    try dsimp only
    refine wpAnyF_take [7] (by kernel_rfl) (i := 1) (v := ?va2) rfl (by kernel_rfl) (by kernel_rfl) (by kernel_rfl) (fun _ _ _ h => h) (Or.inl ⟨by kernel_rfl, ?hya2⟩) hHeld ?resta2
    case hya2 => intro w' hSw; (try dsimp only at hSw); go_simp; try with_reducible rfl
    simp only [Act.put]
    try dsimp only
    refine wpAnyF_take [7] (by kernel_rfl) (i := 2) (v := ?va3) rfl (by kernel_rfl) (by kernel_rfl) (by kernel_rfl) (fun _ _ _ h => h) (Or.inl ⟨by kernel_rfl, ?hya3⟩) hHeld ?resta3
    case hya3 => intro w' hSw; (try dsimp only at hSw); go_simp; try with_reducible rfl
    simp only [Act.put]
    try dsimp only
    refine wpAnyF_take [7] (by kernel_rfl) (i := 3) (v := ?va4) rfl (by kernel_rfl) (by kernel_rfl) (by kernel_rfl) (fun _ _ _ h => h) (Or.inl ⟨by kernel_rfl, ?hya4⟩) hHeld ?resta4
    case hya4 => intro w' hSw; (try dsimp only at hSw); go_simp; try with_reducible rfl
    simp only [Act.put]
    try dsimp only
    refine wpAnyF_ready (rs := [4, 6]) (by kernel_rfl) (by simp) ?_
    refine AllReadyF.cons rfl (fun K hK => ?_) ?_
    · obtain ⟨vC, w3, hr3, hO3, hB3⟩ := copyC Hn.out (HC.out _ ((Below.refl w1.heap.size w1).drew)) hnil hl44
      obtain ⟨aC, cC, hv, -, -, -⟩ := COwn.row hO3
      rw [Hn.out] at hv
      subst hv
      have HRun := hide_ hr3
      have HO3 : Hid (COwn _ w.heap.size (.slice aC n cC) C) := hide_ (own_base hO3 hsz1)
      have hBw3 := below_to ((Below.refl w1.heap.size w1).drew) hB3
      have HB3 := hide_ hBw3
      clear hr3 hO3 hB3 hBw3
      refine step_append_run rfl (.const (.slice none 0 0)) (.tmp 13) 22 22 rfl (v := .slice none 0 0) (u := .slice ac n cc) (by kernel_rfl) (by kernel_rfl) HRun.out ?_
      simp only [Act.put]
      refine hK.out _ _ (HSS.out _ HB3.out) (fun hHeld => ?_)
      clear hK K
      refine wpAnyF_take [7] (by kernel_rfl) (i := 5) (v := ?va5) rfl (by kernel_rfl) (by kernel_rfl) (by kernel_rfl) (fun _ _ _ h => h) (Or.inl ⟨by kernel_rfl, ?hya5⟩) hHeld ?resta5
      case hya5 => intro w' hSw; (try dsimp only at hSw); go_simp; try with_reducible rfl
      simp only [Act.put]
      try dsimp only
      refine wpAnyF_ready (rs := [6]) (by kernel_rfl) (by simp) ?_
      refine AllReadyF.cons rfl (fun K hK => ?_) AllReadyF.nil
      obtain ⟨w4, hw4⟩ : ∃ wx, w3.alloc (.cells #[.bool false, .slice none 0 0, .slice none 0 0] 25) = wx := ⟨_, rfl⟩
      have hB4 : Below w3.heap.size w3 w4 := by rw [← hw4]; exact below1 _ _
      have HQ4 : Hid (Blk w4 w3.heap.size 25 [.bool false, .slice none 0 0, .slice none 0 0]) := hide_ (by rw [← hw4]; exact Blk.newA _ _ _)
      have HO4 := hide_ (HO3.out.later hB4)
      have hBw4 := below_to HB3.out hB4
      have HB4 := hide_ hBw4
      clear hB4 hBw4
      go_simp
      try rw [hw4]
      refine hK.out _ _ (HSS.out _ HB4.out) (fun hHeld => ?_)
      clear hK K
      refine wpAnyF_ready (rs := [7]) (by kernel_rfl) (by simp) ?_
      refine AllReadyF.last rfl (fun K hK => ?_)
      have q0 := HQ4.out.cell 0; have q1 := HQ4.out.cell 1; have q2 := HQ4.out.cell 2; have qz := fun i => HQ4.out.frozen i
      simp at q0 q1 q2
      go_simp
      refine hK.out _ _ ?_
      clear hK K
      refine wpAnyF_done (by kernel_rfl) ?_ _
      go_wp2_with fail
      go_meet
      case rel => exact ⟨_, _, _, rfl, rfl, hide_ (HEnd.out _ _ _ (by first | exact Nat.le_refl _ | exact HB3.out.size) HQ4.out HO4.out HB4.out)⟩
    refine AllReadyF.cons rfl (fun K hK => ?_) AllReadyF.nil
    obtain ⟨w3, hw3⟩ : ∃ wx, w1.drew.alloc (.cells #[.bool false, .slice none 0 0, .slice none 0 0] 25) = wx := ⟨_, rfl⟩
    have HB3 : Hid (Below w1.heap.size w1 w3) := hide_ (by rw [← hw3]; exact below_to ((Below.refl w1.heap.size w1).drew) (below1 _ _))
    have HQ3 : Hid (Blk w3 w1.heap.size 25 [.bool false, .slice none 0 0, .slice none 0 0]) := hide_ (by rw [← hw3]; exact Blk.newA w1.drew _ _)
    go_simp
    try rw [hw3]
    refine hK.out _ _ (HSS.out _ HB3.out) (fun hHeld => ?_)
    clear hK K
    refine wpAnyF_ready (rs := [4]) (by kernel_rfl) (by simp) ?_
    refine AllReadyF.cons rfl (fun K hK => ?_) AllReadyF.nil
    obtain ⟨vC, w4, hr4, hO4, hB4⟩ := copyC Hn.out (HC.out _ HB3.out) hnil hl44
    obtain ⟨aC, cC, hv, -, -, -⟩ := COwn.row hO4
    rw [Hn.out] at hv
    subst hv
    have HRun := hide_ hr4
    have HO4 : Hid (COwn _ w.heap.size (.slice aC n cC) C) := hide_ (own_base hO4 (Nat.le_trans hsz1 HB3.out.size))
    have hBw4 := below_to HB3.out hB4
    have HB4 := hide_ hBw4
    have HQ4 := hide_ (HQ3.out.later hB4)
    clear hr4 hO4 hB4 hBw4
    refine step_append_run rfl (.const (.slice none 0 0)) (.tmp 13) 22 22 rfl (v := .slice none 0 0) (u := .slice ac n cc) (by kernel_rfl) (by kernel_rfl) HRun.out ?_
    simp only [Act.put]
    refine hK.out _ _ (HSS.out _ HB4.out) (fun hHeld => ?_)
    clear hK K
    refine wpAnyF_take [7] (by kernel_rfl) (i := 5) (v := ?va6) rfl (by kernel_rfl) (by kernel_rfl) (by kernel_rfl) (fun _ _ _ h => h) (Or.inl ⟨by kernel_rfl, ?hya6⟩) hHeld ?resta6
    case hya6 => intro w' hSw; (try dsimp only at hSw); go_simp; try with_reducible rfl
    simp only [Act.put]
    try dsimp only
    refine wpAnyF_ready (rs := [7]) (by kernel_rfl) (by simp) ?_
    refine AllReadyF.last rfl (fun K hK => ?_)
    have q0 := HQ4.out.cell 0; have q1 := HQ4.out.cell 1; have q2 := HQ4.out.cell 2; have qz := fun i => HQ4.out.frozen i
    simp at q0 q1 q2
    go_simp
    refine hK.out _ _ ?_
    clear hK K
    refine wpAnyF_done (by kernel_rfl) ?_ _
    go_wp2_with fail
    go_meet
    case rel => exact ⟨_, _, _, rfl, rfl, hide_ (HEnd.out _ _ _ (by first | exact Nat.le_refl _ | exact HB3.out.size) HQ4.out HO4.out HB4.out)⟩
  case rest =>
  obtain ⟨gq, vC, w4, rfl, rfl, HM4⟩ := hcut
  obtain ⟨aC, cC, hv, hcC, -, -⟩ := HM4.out.cd.row
  rw [Hn.out] at hv hcC
  subst hv
  have q1 := HM4.out.qb.cell 1
  simp at q1
  clear HEnd HSS HC hsz1 HB1 HP1 HR1
  go_wp2_with fail
  clear q1
  go_loopw [19] (fun x19 wr => ∃ (j : Nat), j ≤ n ∧ x19 = .int .i64 (j : Int) ∧ Hid (TuM w wr gq enc ac ae n cc E.length ce (.slice aC n cC) (.slice none 0 0) (thJ C j) [])) (fun x19 _ => n - (intOf x19).toNat)
  case atStart => exact ⟨0, by omega, rfl, hide_ (by rw [thJ_zero]; exact HM4.out)⟩
  case round =>
    clear HM4
    obtain ⟨j, hj, rfl, HMj⟩ := hrel
    generalize wr = wq at *
    by_cases hlt : j < n
    · have hlt' : (j : Int) < (n : Int) := by omega
      have hjC : j < C.length := by rw [Hn.out]; exact hlt
      obtain ⟨x, hx⟩ : ∃ x, C[j]? = some x := ⟨_, List.getElem?_eq_getElem hjC⟩
      have hxA : inA C j = x := inA_at hx
      have hxJ := thJ_at hx
      have hlJ := thJ_len C (j := j) (by omega)
      obtain ⟨gC, haC, hgB, hgL⟩ := HMj.out.cd.open (by rw [hlJ]; omega)
      subst haC
      have hrow := HMj.out.cd.rowS
      obtain ⟨i0, i1, i2, i3⟩ := hrow.at hxJ
      rw [Nat.zero_add] at i0 i1 i2 i3
      have i2f := HMj.out.cd.frz (by rw [hlJ]; omega) (j * 4 + 2)
      obtain ⟨wz, hwz⟩ : ∃ wx, wq.alloc (.cells #[.int .i64 x.op, .int .i64 x.a, .int .i64 x.b, .int .i64 x.c] 37) = wx := ⟨_, rfl⟩
      have hBz : Below wq.heap.size wq wz := by rw [← hwz]; exact below1 _ _
      have hXz : Blk wz wq.heap.size 37 (inc x) := by rw [← hwz]; exact Blk.newA wq _ _
      have HMz := hide_ (HMj.out.later hBz)
      obtain ⟨k0, k1, k2, k3⟩ := hXz.ci
      have HT := hide_ (hasT_any x.op wz)
      obtain ⟨d, hd⟩ : ∃ d, htP x.op = d := ⟨_, rfl⟩
      rw [hd] at HT
      have m2 := (hBz.cell (p := ⟨gC, j * 4 + 2, none⟩) hgL).trans i2
      have m2f : wz.frozen? ⟨gC, j * 4 + 2, none⟩ = false := by rw [hBz.frozen (p := ⟨gC, j * 4 + 2, none⟩) hgL]; exact i2f
      have Hx := hide_ hx
      have HxA := hide_ hxA
      have HxJ := hide_ hxJ
      have HgB := hide_ hgB
      have Hd := hide_ hd
      clear hx hxA hxJ hrow hBz hXz hgB hd i2f
      go_upto_region 5 with fail
      try rw [hwz]
      clear i0 i1 i2 i3 hwz
      go_wp2_with fail
      refine HT.out.mono ?_
      rintro e w6 ⟨rfl, rfl⟩
      clear HT
      cases d
      · have HM6 : Hid (TuM w wz gq enc ac ae n cc E.length ce (.slice (some ⟨gC, 0, none⟩) n cC) (.slice none 0 0) (thJ C (j + 1)) []) := hide_ (by
          rw [thJ_same Hx.out (by unfold thI; rw [if_neg (by rw [Hd.out]; simp)])]
          exact HMz.out)
        clear HMz HMj
        go_wp2_with fail
        go_roundw
        case rel => exact ⟨j + 1, by omega, by go_num, HM6⟩
        case measure => simp [intOf]; omega
      · have htg := chk_tgt hK.out (k := j) hjC (by rw [HxA.out]; exact Hd.out)
        rw [HxA.out, Hn.out] at htg
        obtain ⟨t, ht⟩ := Int.eq_ofNat_of_zero_le htg.1
        have htn : t < n := by omega
        rw [ht] at k2
        have HEnd1 := hide_ (HF.out t wz.drew htn HMz.out.bl.drew)
        have q1 := HMz.out.qb.cell 1
        simp at q1
        obtain ⟨en, hen⟩ : ∃ en : Nat, endP C t = en := ⟨_, rfl⟩
        rw [hen] at HEnd1
        have HM6 : Hid (TuM w (wz.drew.setCell ⟨gC, j * 4 + 2, none⟩ (.int .i64 (en : Int))) gq enc ac ae n cc E.length ce (.slice (some ⟨gC, 0, none⟩) n cC) (.slice none 0 0) (thJ C (j + 1)) []) := hide_ (by
          have hne := HMz.out.ne.1 gC rfl
          have hU : Upd (fun q => q = gC) wz (wz.drew.setCell ⟨gC, j * 4 + 2, none⟩ (.int .i64 (en : Int))) := (Upd.refl _ wz).drew.set _ _ (.inl rfl)
          refine ⟨HMz.out.pg.upd hU (fun e => hne.1 e.symm), HMz.out.rs.upd hU (fun e => hne.2.1 e.symm), HMz.out.qb.upd hU (fun e => hne.2.2 e.symm), HMz.out.gq, ?_, IOwn.nil _ _, below_to2 HMz.out.bl hU (fun q e => by rw [e]; exact HgB.out)⟩
          rw [thJ_step Hx.out]
          have h1 := COwn.setB (w := wz.drew) (i := j) (x := x) HMz.out.cd HxJ.out (en : Int)
          have h2 : thI C x = ⟨x.op, x.a, (en : Int), x.c⟩ := by
            unfold thI
            rw [if_pos Hd.out, ht, Int.toNat_natCast, hen]
          rw [h2]
          exact h1)
        clear ht htg hen HMz HMj htn
        go_wp2_with fail
        refine wp_region_last 9 (fun w' => w' = wz.drew) (by kernel_rfl) (rfl) (fun hHeld => ?_)
        refine wpAnyF_take [9] (by kernel_rfl) (i := 0) (v := ?vb1) rfl (by kernel_rfl) (by kernel_rfl) (by kernel_rfl) (fun _ _ _ h => h) (Or.inl ⟨by kernel_rfl, ?hyb1⟩) hHeld ?restb1
        case hyb1 => intro w' hSw; subst hSw; (try dsimp only at hSw); go_simp; try with_reducible rfl
        simp only [Act.put]
        try dsimp only
        refine wpAnyF_take [9] (by kernel_rfl) (i := 1) (v := ?vb2) rfl (by kernel_rfl) (by kernel_rfl) (by kernel_rfl) (fun _ _ _ h => h) (Or.inl ⟨by kernel_rfl, ?hyb2⟩) hHeld ?restb2
        case hyb2 => intro w' hSw; subst hSw; (try dsimp only at hSw); go_simp; try with_reducible rfl
        simp only [Act.put]
        try dsimp only
        refine wpAnyF_take [9] (by kernel_rfl) (i := 2) (v := ?vb3) rfl (by kernel_rfl) (by kernel_rfl) (by kernel_rfl) (fun _ _ _ h => h) (Or.inl ⟨by kernel_rfl, ?hyb3⟩) hHeld ?restb3
        case hyb3 => intro w' hSw; subst hSw; (try dsimp only at hSw); go_simp; try with_reducible rfl
        simp only [Act.put]
        try dsimp only
        refine wpAnyF_take [9] (by kernel_rfl) (i := 3) (v := ?vb4) rfl (by kernel_rfl) (by kernel_rfl) (by kernel_rfl) (fun _ _ _ h => h) (Or.inl ⟨by kernel_rfl, ?hyb4⟩) hHeld ?restb4
        case hyb4 => intro w' hSw; subst hSw; (try dsimp only at hSw); go_simp; try with_reducible rfl
        simp only [Act.put]
        try dsimp only
        refine wpAnyF_take [9] (by kernel_rfl) (i := 4) (v := ?vb5) rfl (by kernel_rfl) (by kernel_rfl) (by kernel_rfl) (fun _ _ _ h => h) (Or.inl ⟨by kernel_rfl, ?hyb5⟩) hHeld ?restb5
        case hyb5 => intro w' hSw; subst hSw; (try dsimp only at hSw); go_simp; try with_reducible rfl
        simp only [Act.put]
        try dsimp only
        refine wpAnyF_take [9] (by kernel_rfl) (i := 5) (v := ?vb6) rfl (by kernel_rfl) (by kernel_rfl) (by kernel_rfl) (fun _ _ _ h => h) (Or.inl ⟨by kernel_rfl, ?hyb6⟩) hHeld ?restb6
        case hyb6 => intro w' hSw; subst hSw; (try dsimp only at hSw); go_simp; try with_reducible rfl
        simp only [Act.put]
        try dsimp only
        refine wpAnyF_ready (rs := [6]) (by kernel_rfl) (by simp) ?_
        refine AllReadyF.cons rfl (fun K hK => ?_) AllReadyF.nil
        go_simp
        refine HEnd1.out.mono ?_
        rintro e w7 ⟨rfl, rfl⟩
        dsimp only
        refine hK.out _ _ (rfl) (fun hHeld => ?_)
        clear hK K
        refine wpAnyF_take [9, 8] (by kernel_rfl) (i := 7) (v := ?vb7) rfl (by kernel_rfl) (by kernel_rfl) (by kernel_rfl) (fun _ _ _ h => h) (Or.inl ⟨by kernel_rfl, ?hyb7⟩) hHeld ?restb7
        case hyb7 => intro w' hSw; subst hSw; (try dsimp only at hSw); go_simp; try with_reducible rfl
        simp only [Act.put]
        try dsimp only
        refine wpAnyF_take [9] (by kernel_rfl) (i := 8) (v := ?vb8) rfl (by kernel_rfl) (by kernel_rfl) (by kernel_rfl) (fun _ _ _ h => h) (Or.inl ⟨by kernel_rfl, ?hyb8⟩) hHeld ?restb8
        case hyb8 => intro w' hSw; subst hSw; (try dsimp only at hSw); go_simp; try with_reducible rfl
        simp only [Act.put]
        try dsimp only
        refine wpAnyF_ready (rs := [9]) (by kernel_rfl) (by simp) ?_
        refine AllReadyF.last rfl (fun K hK => ?_)
        go_simp
        refine hK.out _ _ ?_
        clear hK K
        refine wpAnyF_done (by kernel_rfl) ?_ _
        go_wp2_with fail
        go_roundw
        case rel => exact ⟨j + 1, by omega, by go_num, HM6⟩
        case measure => simp [intOf]; omega
    · have ej : j = n := by omega
      subst ej
      have HMk : Hid (TuM w wq gq enc ac ae j cc E.length ce (.slice aC j cC) (.slice none 0 0) (thC C) []) := hide_ (by
        have h1 := HMj.out
        rw [← Hn.out] at h1 ⊢
        rw [thJ_all] at h1
        exact h1)
      have p2 := HMk.out.pg.cell 2
      simp at p2
      clear HMj hlt
      go_wp2_with fail
      clear p2
      go_loopw [40] (fun x40 wr => ∃ (i : Nat) (vE : Value), i ≤ E.length ∧ x40 = .int .i64 (i : Int) ∧ Hid (TuM w wr gq enc ac ae j cc E.length ce (.slice aC j cC) vE (thC C) ((thE C E).take i))) (fun x40 _ => E.length - (intOf x40).toNat)
      case atStart => exact ⟨0, _, by omega, rfl, hide_ (by rw [List.take_zero]; exact HMk.out)⟩
      case round =>
        clear HMk
        obtain ⟨i, vE, hi, rfl, HMi⟩ := hrel
        generalize wr = wz at *
        by_cases hlt : i < E.length
        · have hlt' : (i : Int) < (E.length : Int) := by omega
          have hent := hK.out.ent i hlt
          obtain ⟨y, hy⟩ := Int.eq_ofNat_of_zero_le hent.1
          have hyn : y < j := by rw [← Hn.out]; omega
          obtain ⟨be, oe, hae, -, hce⟩ := (HEr.out wz HMi.out.bl).open (by omega)
          subst hae
          have cy := hce i hlt
          rw [hy] at cy
          have hst := thE_step (C := C) hlt (y := y) (by unfold hAt; exact hy)
          have HEnd1 := hide_ (HF.out y wz.drew hyn HMi.out.bl.drew)
          obtain ⟨en, hen⟩ : ∃ en : Nat, endP C y = en := ⟨_, rfl⟩
          rw [hen] at HEnd1 hst
          have q2' := HMi.out.qb.cell 2
          simp at q2'
          have q2d : wz.drew.cell? ⟨gq, 2, none⟩ = some vE := q2'
          clear q2'
          have hIl : ((thE C E).take i).length = i := by rw [List.length_take, thE_len]; omega
          have hMd : IOwn wz.drew w.heap.size vE ((thE C E).take i) := HMi.out.en
          obtain ⟨g9, c9, w9, hr9, hO9, hU9, hg9⟩ := hMd.push (en : Int) (by rw [hIl]; omega) HMi.out.bl.size
          obtain ⟨w8, hw8⟩ : ∃ wx, wz.drew.alloc (.cells #[.int .i64 (en : Int)] 3) = wx := ⟨_, rfl⟩
          have hw8' : (wz.alloc (.cells #[.int .i64 (en : Int)] 3)).drew = w8 := hw8
          rw [hw8] at hr9
          have hne := HMi.out.ne
          have hB8 : Below wz.heap.size wz w8 := by rw [← hw8]; exact below_to ((Below.refl _ wz).drew) (below1 _ _)
          have hUz : Upd (fun k => vE.ownBlock = some k) wz w9 := ⟨hU9.os, hU9.tape, hU9.output, hU9.size, hU9.block⟩
          have HS8 : Hid (w8.cell? ⟨gq, 2, none⟩ = some vE) := hide_ (by have := (HMi.out.qb.later hB8).cell 2; simpa using this)
          have hQ9 := HMi.out.qb.upd hUz (fun e => (hne.2 _ e).2.2 rfl)
          have HS9 : Hid (w9.cell? ⟨gq, 2, none⟩ = some vE) := hide_ (by have := hQ9.cell 2; simpa using this)
          have z2 : w9.cell? ⟨gq, 2, none⟩ = some vE := HS9.out
          have zf := hQ9.frozen 2
          have HRun := hide_ hr9
          rw [hIl] at HRun hO9
          have HM9 : Hid (TuM w (w9.setCell ⟨gq, 2, none⟩ (.slice (some ⟨g9, 0, none⟩) (i + 1) c9)) gq enc ac (some ⟨be, oe, none⟩) j cc E.length ce (.slice aC j cC) (.slice (some ⟨g9, 0, none⟩) (i + 1) c9) (thC C) ((thE C E).take (i + 1))) := hide_ (by
            have hgq := HMi.out.gq
            have hU : Upd (fun q => q = gq) w9 (w9.setCell ⟨gq, 2, none⟩ (.slice (some ⟨g9, 0, none⟩) (i + 1) c9)) := (Upd.refl _ w9).set _ _ (.inl rfl)
            have hC9 := HMi.out.cd.upd hUz (fun q e e2 => notIC HMi.out.en HMi.out.cd q e2 e)
            refine ⟨(HMi.out.pg.upd hUz (fun e => (hne.2 _ e).1 rfl)).upd hU (fun e => by omega), (HMi.out.rs.upd hUz (fun e => (hne.2 _ e).2.1 rfl)).upd hU (fun e => by omega), ?_, hgq, hC9.upd hU (fun q e e2 => by rw [e2] at e; exact notC hC9 hQ9 (by decide) e), ?_, below_to2 (below_to2 HMi.out.bl hUz (fun q e => (HMi.out.en.lies e).1)) hU (fun q e => by omega)⟩
            · have := hQ9.set 2 (.slice (some ⟨g9, 0, none⟩) (i + 1) c9)
              simpa using this
            · rw [hst]
              exact hO9.upd hU (fun q e e2 => by rw [e2] at e; exact notI hO9 hQ9 (by decide) e))
          clear hr9 hO9 hU9 hUz hg9 hMd hIl hen hst hent hy hce hne hB8 hQ9 HMi
          go_wp2_with fail
          refine wp_region_last 8 (fun w' => w'.cell? ⟨gq, 2, none⟩ = some vE) (by kernel_rfl) (q2d) (fun hHeld => ?_)
          refine wpAnyF_take [8] (by kernel_rfl) (i := 0) (v := ?vc1) rfl (by kernel_rfl) (by kernel_rfl) (by kernel_rfl) (fun _ _ _ h => h) (Or.inl ⟨by kernel_rfl, ?hyc1⟩) hHeld ?restc1
          case hyc1 => intro w' hSw; (try dsimp only at hSw); go_simp; try with_reducible rfl
          simp only [Act.put]
          try dsimp only
          refine wpAnyF_take [8] (by kernel_rfl) (i := 1) (v := ?vc2) rfl (by kernel_rfl) (by kernel_rfl) (by kernel_rfl) (fun _ _ _ h => h) (Or.inl ⟨by kernel_rfl, ?hyc2⟩) hHeld ?restc2
          case hyc2 => intro w' hSw; (try dsimp only at hSw); go_simp; try with_reducible rfl
          simp only [Act.put]
          try dsimp only
          refine wpAnyF_take [8] (by kernel_rfl) (i := 2) (v := ?vc3) rfl (by kernel_rfl) (by kernel_rfl) (by kernel_rfl) (fun _ _ _ h => h) (Or.inl ⟨by kernel_rfl, ?hyc3⟩) hHeld ?restc3
          case hyc3 => intro w' hSw; (try dsimp only at hSw); go_simp; try with_reducible rfl
          simp only [Act.put]
          try dsimp only
          refine wpAnyF_take [8] (by kernel_rfl) (i := 3) (v := ?vc4) rfl (by kernel_rfl) (by kernel_rfl) (by kernel_rfl) (fun _ _ _ h => h) (Or.inl ⟨by kernel_rfl, ?hyc4⟩) hHeld ?restc4
          case hyc4 => intro w' hSw; (try dsimp only at hSw); go_simp; try with_reducible rfl
          simp only [Act.put]
          try dsimp only
          refine wpAnyF_ready (rs := [4]) (by kernel_rfl) (by simp) ?_
          refine AllReadyF.cons rfl (fun K hK => ?_) AllReadyF.nil
          go_simp
          refine HEnd1.out.mono ?_
          rintro e w7 ⟨rfl, rfl⟩
          dsimp only
          refine hK.out _ _ (q2d) (fun hHeld => ?_)
          clear hK K
          refine wpAnyF_ready (rs := [5]) (by kernel_rfl) (by simp) ?_
          refine AllReadyF.cons rfl (fun K hK => ?_) AllReadyF.nil
          go_simp
          try rw [hw8]
          refine hK.out _ _ (HS8.out) (fun hHeld => ?_)
          clear hK K
          refine wpAnyF_ready (rs := [6]) (by kernel_rfl) (by simp) ?_
          refine AllReadyF.cons rfl (fun K hK => ?_) AllReadyF.nil
          refine step_append_run rfl (.tmp 45) (.tmp 49) 23 23 rfl (v := vE) (u := .slice (some ⟨wz.drew.heap.size, 0, none⟩) 1 1) (by kernel_rfl) (by kernel_rfl) HRun.out ?_
          simp only [Act.put]
          refine hK.out _ _ (HS9.out) (fun hHeld => ?_)
          clear hK K
          refine wpAnyF_take [8] (by kernel_rfl) (i := 7) (v := ?vc5) rfl (by kernel_rfl) (by kernel_rfl) (by kernel_rfl) (fun _ _ _ h => h) (Or.inl ⟨by kernel_rfl, ?hyc5⟩) hHeld ?restc5
          case hyc5 => intro w' hSw; (try dsimp only at hSw); go_simp; try with_reducible rfl
          simp only [Act.put]
          try dsimp only
          refine wpAnyF_ready (rs := [8]) (by kernel_rfl) (by simp) ?_
          refine AllReadyF.last rfl (fun K hK => ?_)
          go_simp
          refine hK.out _ _ ?_
          clear hK K
          refine wpAnyF_done (by kernel_rfl) ?_ _
          go_wp2_with fail
          go_roundw
          case rel => exact ⟨i + 1, _, by omega, by go_num, HM9⟩
          case measure => simp [intOf]; omega
        · have ei : i = E.length := by omega
          subst ei
          obtain ⟨aE, nE, cE, hv⟩ : ∃ aE nE cE, vE = .slice aE nE cE := by
            obtain ⟨a, c, h⟩ := HMi.out.en.slice
            exact ⟨a, _, c, h⟩
          subst hv
          have q0 := HMi.out.qb.cell 0; have q1 := HMi.out.qb.cell 1; have q2 := HMi.out.qb.cell 2
          have r0 := HMi.out.rs.cell 0; have r1 := HMi.out.rs.cell 1; have r2 := HMi.out.rs.cell 2
          have rf := fun i => HMi.out.rs.frozen i
          simp at q0 q1 q2 r0 r1 r2
          have hU : Upd (fun q => q = w.heap.size + 1) wz (((wz.setCell ⟨w.heap.size + 1, 0, none⟩ (.bool enc)).setCell ⟨w.heap.size + 1, 1, none⟩ (.slice aC j cC)).setCell ⟨w.heap.size + 1, 2, none⟩ (.slice aE nE cE)) := upd3p _ _ _ _ _
          have HX : Hid (TuTo w enc C E (.returned (.agg #[.bool enc, .slice aC j cC, (.slice aE nE cE)])) (((wz.setCell ⟨w.heap.size + 1, 0, none⟩ (.bool enc)).setCell ⟨w.heap.size + 1, 1, none⟩ (.slice aC j cC)).setCell ⟨w.heap.size + 1, 2, none⟩ (.slice aE nE cE))) := hide_ ⟨_, _, rfl, HMi.out.cd.upd hU (fun q e e2 => (HMi.out.ne.1 q e).2.1 e2), by
            have h1 := HMi.out.en.upd hU (fun q e e2 => (HMi.out.ne.2 q e).2.1 e2)
            rw [List.take_of_length_le (by rw [thE_len]; exact Nat.le_refl _)] at h1
            exact h1, below_to2 HMi.out.bl hU (fun q e => by omega)⟩
          have HRs := hide_ (wr3p HMi.out.rs (.bool enc) (.slice aC j cC) (.slice aE nE cE))
          clear hU HMi
          go_wp2_with fail
          refine retP1 rfl rfl HRs.out ?_
          exact HX.out
end Go.Proofs.YtjamfbpdepahnaaGreat
