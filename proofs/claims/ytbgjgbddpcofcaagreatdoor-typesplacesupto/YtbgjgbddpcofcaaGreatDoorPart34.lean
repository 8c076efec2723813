import Derived.Test.YtbgjgbddpcofcaaGreatDoorPart33
import Derived.Test.YtbgjgbddpcofcaaGreatDoorPart02

/- types.Build: nextPart, typeOfNext. -/
namespace Go.Proofs.YtbgjgbddpcofcaaGreatDoor
open Go.RowKit
set_option linter.unusedVariables false

/-- What typeOfNext answers of a tree N with M behind it. -/
def TnTo (w0 : World) (g bm nm : Nat) (kn : ByteArray → Option Nat) (fu : Nat) (N M : List Nd) (v : Value) (Q : List (Ty × Value)) (w : World) (e : Ending) (w' : World) : Prop :=
  ∃ v' Q' r', e = .returned (.int .i64 ((bF kn fu 1 (N ++ M) (Q.map (·.1))).1.headD pt0).ty) ∧ Hid (BdM w0 w' g bm nm v' Q' kn r') ∧ Hid (RsN w0 r' M) ∧ Hid (Q'.map (·.1) = (bF kn fu 1 (N ++ M) (Q.map (·.1))).2.2) ∧ Hid (Bkg g v v' Q Q' w w')
def TnC (w0 : World) (g bm nm : Nat) (kn : ByteArray → Option Nat) (fu : Nat) : Prop :=
  ∀ (d : Nat) (k : Int) (N M : List Nd) (v : Value) (Q : List (Ty × Value)) (r : Value) (w : World), Forest fu d k 1 N → (∀ y ∈ N, NodeOk1 y) → Q.length + N.length ≤ 1000000000 → Hid (BdM w0 w g bm nm v Q kn r) → Hid (RsN w0 r (N ++ M)) →
    Calls Tryz.prog 29 #[.pointer (some ⟨g, 0, none⟩)] w fun e w' => TnTo w0 g bm nm kn fu N M v Q w e w'
def NpTo (w0 : World) (g bm nm : Nat) (kn : ByteArray → Option Nat) (fu : Nat) (x : Nd) (A M : List Nd) (v : Value) (Q : List (Ty × Value)) (w : World) (e : Ending) (w' : World) : Prop :=
  ∃ v' Q' r', e = .returned (.agg #[.string x.label, .int .i64 x.tag, .int .i64 ((bF kn fu 1 (x :: A ++ M) (Q.map (·.1))).1.headD pt0).ty]) ∧ Hid (BdM w0 w' g bm nm v' Q' kn r') ∧ Hid (RsN w0 r' M) ∧ Hid (Q'.map (·.1) = (bF kn fu 1 (x :: A ++ M) (Q.map (·.1))).2.2) ∧ Hid (Bkg g v v' Q Q' w w')
set_option maxRecDepth 100000 in
set_option maxHeartbeats 8000000 in
theorem np_any {w0 : World} {g bm nm fu d : Nat} {k : Int} {kn : ByteArray → Option Nat} (hT : Hid (TnC w0 g bm nm kn fu)) (x : Nd) (A M : List Nd) (v : Value) (Q : List (Ty × Value)) (r : Value) (w : World) (hF : Hid (Forest fu d k 1 (x :: A))) (hok : Hid (∀ y ∈ x :: A, NodeOk1 y)) (hl : Q.length + (A.length + 1) ≤ 1000000000) (hM : Hid (BdM w0 w g bm nm v Q kn r)) (hR : Hid (RsN w0 r (x :: A ++ M))) :
    Calls Tryz.prog 55 #[.pointer (some ⟨g, 0, none⟩)] w fun e w' => NpTo w0 g bm nm kn fu x A M v Q w e w' := by
  obtain ⟨b, o, c, e0, hc, hb, hcl, -⟩ := RsN.open (N := A ++ M) hR.out
  subst e0
  obtain ⟨n, hn⟩ : ∃ n, n = (A ++ M).length + 1 := ⟨_, rfl⟩
  rw [← hn] at hM hR
  have hn0 : (0 : Int) < (n : Int) := by omega
  obtain ⟨w1, hw1⟩ : ∃ wx, wx = w.alloc (.cells #[.string ⟨#[]⟩, .int .i64 0, .int .i64 0] 67) := ⟨_, rfl⟩
  have hB1 : Below w.heap.size w w1 := by rw [hw1]; exact (Below.refl _ _).alloc (Nat.le_refl _) _
  have kr : Blk w1 w.heap.size 67 [.string ⟨#[]⟩, .int .i64 0, .int .i64 0] := by rw [hw1]; exact Blk.newA w _ _
  have M1 := hM.out.later hB1
  have c2 := M1.1.cell 2
  simp at c2
  have hcl1 := hcl w1 M1.2.2.2.1
  have i0 : w1.cell? ⟨b, o, none⟩ = some (.int .i64 x.k) := by have := hcl1 0 (by decide); simpa [ndc] using this
  have i1 : w1.cell? ⟨b, o + 1, none⟩ = some (.int .i64 x.n) := by have := hcl1 1 (by decide); simpa [ndc] using this
  have i2 : w1.cell? ⟨b, o + 2, none⟩ = some (.string x.name) := by have := hcl1 2 (by decide); simpa [ndc] using this
  have i3 : w1.cell? ⟨b, o + 3, none⟩ = some (.string x.label) := by have := hcl1 3 (by decide); simpa [ndc] using this
  have i4 : w1.cell? ⟨b, o + 4, none⟩ = some (.int .i64 x.tag) := by have := hcl1 4 (by decide); simpa [ndc] using this
  have i5 : w1.cell? ⟨b, o + 5, none⟩ = some (.int .i64 x.kids) := by have := hcl1 5 (by decide); simpa [ndc] using this
  have i6 : w1.cell? ⟨b, o + 6, none⟩ = some (.int .i64 x.a) := by have := hcl1 6 (by decide); simpa [ndc] using this
  obtain ⟨w2, hw2⟩ : ∃ wx, wx = w1.alloc (.cells #[.int .i64 x.k, .int .i64 x.n, .string x.name, .string x.label, .int .i64 x.tag, .int .i64 x.kids, .int .i64 x.a] 40) := ⟨_, rfl⟩
  have hB2 : Below w1.heap.size w1 w2 := by rw [hw2]; exact (Below.refl _ _).alloc (Nat.le_refl _) _
  have kx : Blk w2 w1.heap.size 40 (ndc x) := by rw [hw2]; exact Blk.newA w1 _ _
  have KX := hide_ kx
  have KR := hide_ (kr.later hB2)
  have HM2 := hide_ (M1.later hB2)
  have HB2 := hide_ (below_to hB1 hB2)
  have HMw := hide_ hM.out
  have HBw := hide_ hM.out.2.2.2.1
  have hx := hok.out x (List.mem_cons_self ..)
  have hls : x.label.size ≤ 65536 := by have := hx.1; omega
  have HTn : Hid (∀ wx, Below w2.heap.size w2 wx → Calls Tryz.prog 29 #[.pointer (some ⟨g, 0, none⟩)] wx fun e w' => TnTo w0 g bm nm kn fu (x :: A) M v Q wx e w') := hide_ (fun wx hb => hT.out d k (x :: A) M v Q _ wx hF.out hok.out (by simp; omega) (hide_ (HM2.out.later hb)) (hide_ hR.out))
  have HSS : Hid (∀ w', Below w2.heap.size w2 w' → (fun w' => w'.cell? ⟨w1.heap.size, 3, none⟩ = some (.string x.label) ∧ w'.cell? ⟨w1.heap.size, 4, none⟩ = some (.int .i64 x.tag)) w') := hide_ (fun w' hb => ⟨by have := (KX.out.later hb).cell 3; simpa [ndc] using this, by have := (KX.out.later hb).cell 4; simpa [ndc] using this⟩)
  have HCl := hide_ (clone_any x.label w2.drew hls)
  clear hx hls kx kr M1 hcl hcl1 hB1 hB2 hT hF hok hM hR
  go_enter Tryz.func55, Tryz.ntmps55
  go_upto_region 1 with fail
  rw [← hw1]
  clear hw1
  go_upto_region 2 with fail
  rw [← hw2]
  clear hw2 c2 i0 i1 i2 i3 i4 i5 i6 hn0
  refine wp_region_last 8 (fun w' => w'.cell? ⟨w1.heap.size, 3, none⟩ = some (.string x.label) ∧ w'.cell? ⟨w1.heap.size, 4, none⟩ = some (.int .i64 x.tag)) (by kernel_rfl) (HSS.out _ ((Below.refl w2.heap.size w2).drew)) (fun hHeld => ?_)
  refine wpAnyF_take [8] (by kernel_rfl) (i := 0) (v := ?vn1) rfl (by kernel_rfl) (by kernel_rfl) (by kernel_rfl) (fun _ _ _ h => h) (Or.inl ⟨by kernel_rfl, ?hyn1⟩) hHeld ?restn1
  case hyn1 => intro w' hSw; (try dsimp only at hSw); go_simp; try with_reducible rfl
  simp only [Act.put]
  refine wpAnyF_take [8] (by kernel_rfl) (i := 1) (v := ?vn2) rfl (by kernel_rfl) (by kernel_rfl) (by kernel_rfl) (fun _ _ _ h => h) (Or.inl ⟨by kernel_rfl, ?hyn2⟩) hHeld ?restn2
  case hyn2 => intro w' hSw; (try dsimp only at hSw); go_simp; try with_reducible rfl
  simp only [Act.put]
  refine wpAnyF_take [8] (by kernel_rfl) (i := 3) (v := ?vn3) rfl (by kernel_rfl) (by kernel_rfl) (by kernel_rfl) (fun _ _ _ h => h) (Or.inl ⟨by kernel_rfl, ?hyn3⟩) hHeld ?restn3
  case hyn3 => intro w' hSw; (try dsimp only at hSw); go_simp; try with_reducible rfl
  simp only [Act.put]
  refine wpAnyF_take [8] (by kernel_rfl) (i := 4) (v := ?vn4) rfl (by kernel_rfl) (by kernel_rfl) (by kernel_rfl) (fun _ _ _ h => h) (Or.inl ⟨by kernel_rfl, ?hyn4⟩) hHeld ?restn4
  case hyn4 => intro w' hSw; (try dsimp only at hSw); go_simp; try with_reducible rfl
  simp only [Act.put]
  refine wpAnyF_take [8] (by kernel_rfl) (i := 5) (v := ?vn5) rfl (by kernel_rfl) (by kernel_rfl) (by kernel_rfl) (fun _ _ _ h => h) (Or.inl ⟨by kernel_rfl, ?hyn5⟩) hHeld ?restn5
  case hyn5 => intro w' hSw; (try dsimp only at hSw); go_simp; try with_reducible rfl
  simp only [Act.put]
  refine wpAnyF_ready (rs := [2]) (by kernel_rfl) (by simp) ?_
  refine AllReadyF.cons rfl (fun K hK => ?_) AllReadyF.nil
  go_simp
  refine HCl.out.mono ?_
  rintro e w5 ⟨rfl, hB5⟩
  dsimp only
  have HB5 := hide_ hB5
  clear hB5
  refine hK.out _ _ (HSS.out _ (below_to ((Below.refl w2.heap.size w2).drew) HB5.out)) (fun hHeld => ?_)
  clear hK K
  refine wpAnyF_ready (rs := [6]) (by kernel_rfl) (by simp) ?_
  refine AllReadyF.cons rfl (fun K hK => ?_) AllReadyF.nil
  go_simp
  refine (HTn.out w5 (below_to ((Below.refl w2.heap.size w2).drew) HB5.out)).mono ?_
  rintro e w6 ⟨v', Q', r', he, HM6, HR6, HQ6, HK6⟩
  obtain ⟨nu, hnu⟩ : ∃ nu, nu = ((bF kn fu 1 (x :: A ++ M) (Q.map (·.1))).1.headD pt0).ty := ⟨_, rfl⟩
  rw [← hnu] at he
  subst he
  have HNu := hide_ hnu
  clear hnu
  dsimp only
  have HX6 : Hid (Blk w6 w1.heap.size 40 (ndc x)) := hide_ (HK6.out.blkT (HM2.out.later (below_to ((Below.refl w2.heap.size w2).drew) HB5.out)) (KX.out.later (below_to ((Below.refl w2.heap.size w2).drew) HB5.out)) (by decide) (by decide))
  have HG6 : Hid (Blk w6 w.heap.size 67 [.string ⟨#[]⟩, .int .i64 0, .int .i64 0]) := hide_ (HK6.out.blkT (HM2.out.later (below_to ((Below.refl w2.heap.size w2).drew) HB5.out)) (KR.out.later (below_to ((Below.refl w2.heap.size w2).drew) HB5.out)) (by decide) (by decide))
  refine hK.out _ _ (⟨by have := HX6.out.cell 3; simpa [ndc] using this, by have := HX6.out.cell 4; simpa [ndc] using this⟩) (fun hHeld => ?_)
  clear hK K
  refine wpAnyF_take [8] (by kernel_rfl) (i := 7) (v := ?vn6) rfl (by kernel_rfl) (by kernel_rfl) (by kernel_rfl) (fun _ _ _ h => h) (Or.inl ⟨by kernel_rfl, ?hyn6⟩) hHeld ?restn6
  case hyn6 => intro w' hSw; (try dsimp only at hSw); go_simp; try with_reducible rfl
  simp only [Act.put]
  refine wpAnyF_ready (rs := [8]) (by kernel_rfl) (by simp) ?_
  refine AllReadyF.last rfl (fun K hK => ?_)
  have q0 := HG6.out.cell 0; have q1 := HG6.out.cell 1; have q2 := HG6.out.cell 2; have qz := fun i => HG6.out.frozen i
  simp at q0 q1 q2
  go_simp
  refine hK.out _ _ ?_
  clear hK K
  refine wpAnyF_done (by kernel_rfl) ?_ _
  go_wp2_with fail
  have hu : Upd (fun q => q = w.heap.size) w6 (((w6.setCell ⟨w.heap.size, 0, none⟩ (.string x.label)).setCell ⟨w.heap.size, 1, none⟩ (.int .i64 x.tag)).setCell ⟨w.heap.size, 2, none⟩ (.int .i64 nu)) := (((Upd.refl (fun q => q = w.heap.size) w6).set _ _ (.inl rfl)).set _ _ (.inl rfl)).set _ _ (.inl rfl)
  have hpre : Below w.heap.size w w5 := below_to HB2.out (below_to ((Below.refl w2.heap.size w2).drew) HB5.out)
  have hkw := Bkg.pre hpre HK6.out
  have hsz : w.heap.size < w2.heap.size := KR.out.lt
  refine retPt rfl rfl (wr3 HG6.out _ _ _) ⟨v', Q', r', by rw [HNu.out], hide_ (HM6.out.updS hu (fun e => ?_) (fun e => ?_) (fun q hq e => ?_) (fun q e => by have := HM2.out.size; have h2 := HBw.out.size; omega) (fun p hp q hq e => ?_)), HR6, HQ6, hide_ (hkw.newU (S := fun q => q = w.heap.size) hu (fun q e => by omega))⟩
  · exact absurd (blk_type HM6.out.1 (e ▸ HG6.out)) (by decide)
  · exact HM6.out.2.2.1.ne HG6.out e
  · subst e
    obtain ⟨-, -, ys, hy⟩ := HM6.out.own hq
    exact absurd (blk_type hy HG6.out) (by decide)
  · subst e
    rcases HK6.out.2.2 p hp with h1 | h1
    · have := HMw.out.pblk h1 hq; omega
    · have := h1 _ hq; have h3 := hpre.size; have h4 := HB5.out.size; have h5 : w2.drew.heap.size = w2.heap.size := rfl; omega
theorem bF_one (kn : ByteArray → Option Nat) (fu : Nat) (x : Nd) (N : List Nd) (T : List Ty) :
    bF kn (fu + 1) 1 (x :: N) T = ([⟨x.label, x.tag, if x.k = 9 then (((kn x.name).getD 0 : Nat) : Int) else ((bF kn fu x.kids.toNat N T).2.2.length : Int)⟩], (bF kn fu x.kids.toNat N T).2.1, if x.k = 9 then (bF kn fu x.kids.toNat N T).2.2 else (bF kn fu x.kids.toNat N T).2.2 ++ [mdT x (bF kn fu x.kids.toNat N T).1]) := by
  simp only [bF, bF_zero]
theorem forest_one {fu d : Nat} {k : Int} {N : List Nd} (h : Forest fu d k 1 N) : ∃ f x A, fu = f + 1 ∧ N = x :: A ∧ ndE x k d = 0 ∧ Forest f (d + 1) x.k x.kids.toNat A := by
  cases fu with
  | zero => exact absurd h.1 (by decide)
  | succ f =>
    obtain ⟨x, A, B, rfl, h1, h2, h3⟩ := h
    have hB : B = [] := by cases f with
      | zero => exact h3.2
      | succ f => exact h3
    subst hB
    exact ⟨f, x, A, rfl, by simp, h1, h2⟩
theorem forest_zero {fu d : Nat} {k : Int} {N : List Nd} (h : Forest fu d k 0 N) : N = [] := by
  cases fu with
  | zero => exact h.2
  | succ f => exact h
theorem forest_succ {fu d n : Nat} {k : Int} {N : List Nd} (h : Forest fu d k (n + 1) N) : ∃ f x A B, fu = f + 1 ∧ N = (x :: A) ++ B ∧ Forest fu d k 1 (x :: A) ∧ Forest f d k n B := by
  cases fu with
  | zero => exact absurd h.1 (by simp)
  | succ f =>
    obtain ⟨x, A, B, rfl, h1, h2, h3⟩ := h
    exact ⟨f, x, A, B, rfl, by simp, ⟨x, A, [], by simp, h1, h2, Forest.none _ _ _⟩, h3⟩
theorem ndE_k {x : Nd} {of : Int} {dp : Nat} (h : ndE x of dp = 0) : ((x.k = 1 ∨ x.k = 2 ∨ x.k = 3 ∨ x.k = 9) ∧ x.kids = 0) ∨ ((x.k = 4 ∨ x.k = 5 ∨ x.k = 6) ∧ x.kids = 1) ∨ ((x.k = 7 ∨ x.k = 8) ∧ 0 < x.kids ∧ x.kids ≤ 64) := by
  have hk := ndE_kids h
  unfold ndE nodeE at h
  by_cases h1 : 16 < dp
  · rw [if_pos h1] at h; omega
  rw [if_neg h1] at h
  by_cases h2 : (x.k = 8 ∨ x.k = 7) ∧ 64 < x.kids
  · rw [if_pos h2] at h; omega
  rw [if_neg h2] at h
  cases h3 : kindOk x.k x.n x.kids with
  | false => rw [if_pos (.inl h3)] at h; omega
  | true =>
    unfold kindOk at h3
    by_cases e1 : x.k = 1
    · rw [if_pos e1] at h3; have := of_decide_eq_true h3; omega
    rw [if_neg e1] at h3
    by_cases e2 : x.k = 2 ∨ x.k = 3 ∨ x.k = 9
    · rw [if_pos e2] at h3; have := of_decide_eq_true h3; omega
    rw [if_neg e2] at h3
    by_cases e3 : x.k = 4 ∨ x.k = 5
    · rw [if_pos e3] at h3
      rw [Bool.and_eq_true] at h3
      have := of_decide_eq_true h3.2; omega
    rw [if_neg e3] at h3
    by_cases e4 : x.k = 6
    · rw [if_pos e4] at h3; have := of_decide_eq_true h3; omega
    rw [if_neg e4] at h3
    by_cases e5 : x.k = 7 ∨ x.k = 8
    · rw [if_pos e5] at h3; have := of_decide_eq_true h3; omega
    · rw [if_neg e5] at h3; cases h3
end Go.Proofs.YtbgjgbddpcofcaaGreatDoor

/- types.Build: typeOfNext. -/
namespace Go.Proofs.YtbgjgbddpcofcaaGreatDoor
open Go.RowKit
set_option linter.unusedVariables false

theorem bldT (k n : Int) (w : World) : (Instr.build 49 #[(0, .int .i64 k), (1, .int .i64 n)]).run Tryz.prog w = .ok (.agg #[.int .i64 k, .int .i64 n, .int .i64 0, .slice none 0 0]) w := by kernel_rfl
theorem TnTo.mk {w0 w w' : World} {g bm nm f : Nat} {kn : ByteArray → Option Nat} {x : Nd} {A M : List Nd} {v : Value} {Q : List (Ty × Value)} {a : List Ptz × List Nd × List Ty} (ha : a = bF kn f x.kids.toNat (A ++ M) (Q.map (·.1))) (v' : Value) (Q' : List (Ty × Value)) (r' : Value) (num : Int) (hnum : num = if x.k = 9 then (((kn x.name).getD 0 : Nat) : Int) else (a.2.2.length : Int))
    (hM : Hid (BdM w0 w' g bm nm v' Q' kn r')) (hR : Hid (RsN w0 r' M)) (hQ : Q'.map (·.1) = if x.k = 9 then a.2.2 else a.2.2 ++ [mdT x a.1]) (hK : Hid (Bkg g v v' Q Q' w w')) : TnTo w0 g bm nm kn (f + 1) (x :: A) M v Q w (.returned (.int .i64 num)) w' := by
  refine ⟨v', Q', r', ?_, hM, hR, hide_ ?_, hK⟩
  · rw [show x :: A ++ M = x :: (A ++ M) from rfl, bF_one, ← ha, hnum]
    rfl
  · rw [show x :: A ++ M = x :: (A ++ M) from rfl, bF_one, ← ha, hQ]
/-- What is known when the parts' loop has gone round. -/
def LpB (w0 : World) (g bm nm : Nat) (kn : ByteArray → Option Nat) (fu d : Nat) (x : Nd) (A M : List Nd) (v : Value) (Q : List (Ty × Value)) (w : World) (gm : Nat) (j : Nat) (wq : World) : Prop :=
  ∃ (fj : Nat) (Aj : List Nd) (vq rq u : Value) (Qq : List (Ty × Value)) (ps : List Ptz), fj ≤ fu ∧ Forest fj (d + 1) x.k (x.kids.toNat - j) Aj ∧ (∀ y ∈ Aj, NodeOk1 y) ∧ Qq.length + Aj.length ≤ 1000000000 - 1 ∧ ps.length = j ∧
    BdM w0 wq g bm nm vq Qq kn rq ∧ RsN w0 rq (Aj ++ M) ∧ Blk wq gm 49 [.int .i64 x.k, .int .i64 x.n, .int .i64 0, u] ∧ POwn wq w0.heap.size u ps ∧ vq.ownBlock ≠ some gm ∧ gm ≠ g ∧ w.heap.size ≤ gm ∧ (∀ q, u.ownBlock = some q → w.heap.size ≤ q) ∧ (∀ p ∈ Qq, ∀ q, u.ownBlock = some q → ¬ PBlk p q) ∧
    ps ++ (bF kn fj (x.kids.toNat - j) (Aj ++ M) (Qq.map (·.1))).1 = (bF kn fu x.kids.toNat (A ++ M) (Q.map (·.1))).1 ∧ (bF kn fj (x.kids.toNat - j) (Aj ++ M) (Qq.map (·.1))).2.2 = (bF kn fu x.kids.toNat (A ++ M) (Q.map (·.1))).2.2 ∧
    Bkg g v vq Q Qq w wq
set_option maxRecDepth 100000 in
set_option maxHeartbeats 16000000 in
theorem tn_any (w0 : World) (g bm nm : Nat) (kn : ByteArray → Option Nat) : ∀ fu, TnC w0 g bm nm kn fu := by
  intro fu
  induction fu using Nat.strongRecOn with
  | _ fu ih =>
  intro d k N M v Q r w hF hok hl hM hR
  obtain ⟨f, x, A, rfl, rfl, hnd, hFA⟩ := forest_one hF
  have hT : ∀ f', f' ≤ f → Hid (TnC w0 g bm nm kn f') := fun f' h => hide_ (ih f' (by omega))
  clear ih hF
  obtain ⟨a, ha⟩ : ∃ a, a = bF kn f x.kids.toNat (A ++ M) (Q.map (·.1)) := ⟨_, rfl⟩
  have HA := hide_ ha
  have hlA : a.2.2.length ≤ Q.length + A.length := by
    have := (bF_len kn f _ _ _ A hFA M (Q.map (·.1))).2.1
    rw [ha]; simpa using this
  simp only [List.length_cons] at hl
  clear ha
  obtain ⟨b, o, c, e0, hc, hb, hcl, hR1⟩ := RsN.open (N := A ++ M) hR.out
  subst e0
  obtain ⟨n, hn⟩ : ∃ n, n = (A ++ M).length + 1 := ⟨_, rfl⟩
  rw [← hn] at hM hR hR1 hc
  have hn0 : (0 : Int) < (n : Int) := by omega
  have hok0 := hok x (List.mem_cons_self ..)
  have hns : x.name.size ≤ maxLen := by have := hok0.2.1; unfold maxLen; omega
  have HokA : Hid (∀ y ∈ A, NodeOk1 y) := hide_ (fun y hy => hok y (List.mem_cons_of_mem _ hy))
  have c2 := hM.out.1.cell 2
  simp at c2
  have hcl1 := hcl w hM.out.2.2.2.1
  have i0 : w.cell? ⟨b, o, none⟩ = some (.int .i64 x.k) := by have := hcl1 0 (by decide); simpa [ndc] using this
  have i1 : w.cell? ⟨b, o + 1, none⟩ = some (.int .i64 x.n) := by have := hcl1 1 (by decide); simpa [ndc] using this
  have i2 : w.cell? ⟨b, o + 2, none⟩ = some (.string x.name) := by have := hcl1 2 (by decide); simpa [ndc] using this
  have i3 : w.cell? ⟨b, o + 3, none⟩ = some (.string x.label) := by have := hcl1 3 (by decide); simpa [ndc] using this
  have i4 : w.cell? ⟨b, o + 4, none⟩ = some (.int .i64 x.tag) := by have := hcl1 4 (by decide); simpa [ndc] using this
  have i5 : w.cell? ⟨b, o + 5, none⟩ = some (.int .i64 x.kids) := by have := hcl1 5 (by decide); simpa [ndc] using this
  have i6 : w.cell? ⟨b, o + 6, none⟩ = some (.int .i64 x.a) := by have := hcl1 6 (by decide); simpa [ndc] using this
  obtain ⟨w1, hw1⟩ : ∃ wx, wx = w.alloc (.cells #[.int .i64 x.k, .int .i64 x.n, .string x.name, .string x.label, .int .i64 x.tag, .int .i64 x.kids, .int .i64 x.a] 40) := ⟨_, rfl⟩
  have hB1 : Below w.heap.size w w1 := by rw [hw1]; exact (Below.refl _ _).alloc (Nat.le_refl _) _
  have kx : Blk w1 w.heap.size 40 (ndc x) := by rw [hw1]; exact Blk.newA w _ _
  have M1 := hM.out.later hB1
  have hw00 : w0.heap.size ≤ w.heap.size := hM.out.size
  have hcu := fun w' => cutEx (some ⟨b, o, none⟩) n c (by omega) (by omega) w'
  obtain ⟨ax, nx, cx, hr1⟩ : ∃ ax nx cx, Value.slice ax nx cx = Value.slice (if c = 1 then some ⟨b, o, none⟩ else (some (⟨b, o, none⟩ : Addr)).map (·.add 7)) (n - 1) (c - 1) := ⟨_, _, _, rfl⟩
  have hcu2 : ∀ w', (Instr.slice 36 (.slice (some ⟨b, o, none⟩) n c) (some (.int .i64 1)) none none).run Tryz.prog w' = .ok (.slice ax nx cx) w' := fun w' => by rw [hr1]; exact hcu w'
  rw [← hr1] at hR1
  have HR1 := hide_ hR1
  have d2 := M1.1.cell 2; have dz := M1.1.frozen 2
  simp at d2
  obtain ⟨w2, hw2⟩ : ∃ wx, wx = w1.setCell ⟨g, 2, none⟩ (.slice ax nx cx) := ⟨_, rfl⟩
  have M2 : BdM w0 w2 g bm nm v Q kn (.slice ax nx cx) := by rw [hw2]; exact M1.setR (.slice ax nx cx)
  have kx2 : Blk w2 w.heap.size 40 (ndc x) := by
    rw [hw2]
    exact kx.upd ((Upd.refl (fun q => q = g) w1).set _ _ (.inl rfl)) (fun e => absurd (blk_type kx (e ▸ M1.1)) (by decide))
  have hk2 : Bkg g v v Q Q w w2 := by
    rw [hw2]
    exact (Bkg.then (Bkg.refl g v Q w) hB1).set 2 (.slice ax nx cx)
  have KX := hide_ kx2
  have HM2 := hide_ M2
  have HK2 := hide_ hk2
  have hkd := ndE_k hnd

  clear hn hr1 hcu hcl hcl1 kx M1 hB1 hR hM hR1 kx2 M2 hk2 hok hok0 hnd hc hb
  go_enter Tryz.func29, Tryz.ntmps29
  go_upto_region 2 with fail
  rw [← hw1]
  clear hw1 c2 i0 i1 i2 i3 i4 i5 i6 hn0
  go_upto_region 3 with fail
  rw [← hw2]
  clear hw2 hcu2 d2 dz
  have x0 := KX.out.cell 0; have x1 := KX.out.cell 1; have x2 := KX.out.cell 2; have x5 := KX.out.cell 5
  simp [ndc] at x0 x1 x2 x5
  have hb9 := bldT
  by_cases h9 : x.k = 9
  · --<N
    have hA0 : A = [] := forest_zero (fu := f) (d := d + 1) (k := x.k) (by have : x.kids.toNat = 0 := by omega
                                                                           rw [this] at hFA; exact hFA)
    have hk0 : x.kids.toNat = 0 := by omega
    have ha2 : a.2.2 = Q.map (·.1) := by rw [HA.out, hk0, bF_zero]
    have HSS : Hid (∀ w', Below w2.heap.size w2 w' → (fun w' => w'.cell? ⟨g, 1, none⟩ = some (.map (some bm)) ∧ w'.cell? ⟨w.heap.size, 2, none⟩ = some (.string x.name) ∧ (Instr.lookup 61 (.map (some bm)) (.string x.name) false).run Tryz.prog w' = .ok (.int .i64 (((kn x.name).getD 0 : Nat) : Int)) w') w') := hide_ (fun w' hb => ⟨by have := (HM2.out.later hb).1.cell 1; simpa using this, by have := (KX.out.later hb).cell 2; simpa [ndc] using this, (HM2.out.later hb).2.2.1.look x.name hns⟩)
    subst hA0
    have h9' : (x.k == 9) = true := by simp [h9]
    clear hkd hT HokA
    go_upto_region 4 with fail
    clear x0 x1 x2 x5 hb9 h9'
    refine wp_region_last 7 (fun w' => w'.cell? ⟨g, 1, none⟩ = some (.map (some bm)) ∧ w'.cell? ⟨w.heap.size, 2, none⟩ = some (.string x.name) ∧ (Instr.lookup 61 (.map (some bm)) (.string x.name) false).run Tryz.prog w' = .ok (.int .i64 (((kn x.name).getD 0 : Nat) : Int)) w') (by kernel_rfl) (HSS.out _ ((Below.refl w2.heap.size w2).drew)) (fun hHeld => ?_)
    refine wpAnyF_take [7] (by kernel_rfl) (i := 0) (v := ?va1) rfl (by kernel_rfl) (by kernel_rfl) (by kernel_rfl) (fun _ _ _ h => h) (Or.inl ⟨by kernel_rfl, ?hya1⟩) hHeld ?resta1
    case hya1 => intro w' hSw; (try dsimp only at hSw); go_simp; try with_reducible rfl
    simp only [Act.put]
    refine wpAnyF_take [7] (by kernel_rfl) (i := 1) (v := ?va2) rfl (by kernel_rfl) (by kernel_rfl) (by kernel_rfl) (fun _ _ _ h => h) (Or.inl ⟨by kernel_rfl, ?hya2⟩) hHeld ?resta2
    case hya2 => intro w' hSw; (try dsimp only at hSw); go_simp; try with_reducible rfl
    simp only [Act.put]
    refine wpAnyF_take [7] (by kernel_rfl) (i := 2) (v := ?va3) rfl (by kernel_rfl) (by kernel_rfl) (by kernel_rfl) (fun _ _ _ h => h) (Or.inl ⟨by kernel_rfl, ?hya3⟩) hHeld ?resta3
    case hya3 => intro w' hSw; (try dsimp only at hSw); go_simp; try with_reducible rfl
    simp only [Act.put]
    refine wpAnyF_take [7] (by kernel_rfl) (i := 3) (v := ?va4) rfl (by kernel_rfl) (by kernel_rfl) (by kernel_rfl) (fun _ _ _ h => h) (Or.inl ⟨by kernel_rfl, ?hya4⟩) hHeld ?resta4
    case hya4 => intro w' hSw; (try dsimp only at hSw); go_simp; try with_reducible rfl
    simp only [Act.put]
    refine wpAnyF_take [7] (by kernel_rfl) (i := 4) (v := ?va5) rfl (by kernel_rfl) (by kernel_rfl) (by kernel_rfl) (fun _ _ _ h => h) (Or.inl ⟨by kernel_rfl, ?hya5⟩) hHeld ?resta5
    case hya5 => intro w' hSw; (try dsimp only at hSw); go_simp; try with_reducible rfl
    simp only [Act.put]
    refine wpAnyF_take [7] (by kernel_rfl) (i := 5) (v := ?va6) rfl (by kernel_rfl) (by kernel_rfl) (by kernel_rfl) (fun _ _ _ h => h) (Or.inl ⟨by kernel_rfl, ?hya6⟩) hHeld ?resta6
    case hya6 => intro w' hSw; (try dsimp only at hSw); go_simp; try with_reducible rfl
    simp only [Act.put]
    refine wpAnyF_take [7] (by kernel_rfl) (i := 6) (v := ?va7) rfl (by kernel_rfl) (by kernel_rfl) (by kernel_rfl) (fun _ _ _ h => h) (Or.inl ⟨by kernel_rfl, ?hya7⟩) hHeld ?resta7
    case hya7 => intro w' hSw; (try dsimp only at hSw); go_simp; try with_reducible rfl
    simp only [Act.put]
    refine wpAnyF_ready (rs := [7]) (by kernel_rfl) (by simp) ?_
    refine AllReadyF.last rfl (fun K hK => ?_)
    go_simp
    refine hK.out _ _ ?_
    clear hK K
    refine wpAnyF_done (by kernel_rfl) ?_ _
    go_wp2_with fail
    go_ret
    exact TnTo.mk HA.out v Q (.slice ax nx cx) _ (by rw [if_pos h9]) (hide_ (HM2.out.later ((Below.refl w2.heap.size w2).drew))) HR1 (by rw [if_pos h9]; exact ha2.symm) (hide_ (HK2.out.then ((Below.refl w2.heap.size w2).drew)))
  · have HMx := hide_ (HM2.out.later (below1 w2 (.cells #[.int .i64 x.k, .int .i64 x.n, .int .i64 0, .slice none 0 0] 49)))
    obtain ⟨w3, hw3⟩ : ∃ wx, wx = w2.alloc (.cells #[.int .i64 x.k, .int .i64 x.n, .int .i64 0, .slice none 0 0] 49) := ⟨_, rfl⟩
    have hB3 : Below w2.heap.size w2 w3 := by rw [hw3]; exact below1 _ _
    have kg : Blk w3 w2.heap.size 49 [.int .i64 x.k, .int .i64 x.n, .int .i64 0, .slice none 0 0] := by rw [hw3]; exact Blk.newA w2 _ _
    have HG3 := hide_ kg
    have HM3 : Hid (BdM w0 w3 g bm nm v Q kn (.slice ax nx cx)) := hide_ (HM2.out.later hB3)
    have HK3 : Hid (Bkg g v v Q Q w w3) := hide_ (HK2.out.then hB3)
    have KX3 := hide_ (KX.out.later hB3)
    have hvg : v.ownBlock ≠ some w2.heap.size := fun e => by have := (HM2.out.own e).2.1; omega
    have hgg : w2.heap.size ≠ g := fun e => by have := HM2.out.1.lt; omega
    have hwg : w.heap.size ≤ w2.heap.size := HK2.out.1.size
    clear HMx
    have n9 : (x.k == 9) = false := by simp [h9]
    go_upto_region 6 with fail
    rw [← hw3]
    clear hw3 hB3 x0 x1 x2 x5 kg
    have x0 := KX3.out.cell 0; have x5 := KX3.out.cell 5
    simp [ndc] at x0 x5
    rcases hkd with ⟨hk, hk0⟩ | ⟨hk, hk1⟩ | ⟨hk, hkp, hk64⟩
    · --<L
      have hA0 : A = [] := forest_zero (fu := f) (d := d + 1) (k := x.k) (by have : x.kids.toNat = 0 := by omega
                                                                             rw [this] at hFA; exact hFA)
      have hk0' : x.kids.toNat = 0 := by omega
      have ha2 : a = ([], A ++ M, Q.map (·.1)) := by rw [HA.out, hk0', bF_zero]
      subst hA0
      have n4 : (x.k == 4) = false := by simp; omega
      have n5 : (x.k == 5) = false := by simp; omega
      have n6 : (x.k == 6) = false := by simp; omega
      have n7 : (x.k == 7) = false := by simp; omega
      have n8 : (x.k == 8) = false := by simp; omega
      have hmd : mdT x a.1 = ⟨x.k, x.n, 0, []⟩ := by unfold mdT; rw [if_neg (by omega), if_neg (by omega)]
      have HEq : Hid (Q.map (·.1) ++ [(⟨x.k, x.n, 0, []⟩ : Ty)] = a.2.2 ++ [mdT x a.1] ∧ (a.2.2.length : Int) = (Q.length : Int)) := hide_ (by rw [hmd, ha2]; simp)
      have HPt : Hid (PtIn w3 w0.heap.size ([] : List Ptz) (.slice none 0 0)) := hide_ ⟨none, 0, rfl, by simp, fun _ => rfl, .inl rfl, .inl rfl⟩
      have hub : ∀ q, PBlk ((⟨x.k, x.n, 0, []⟩ : Ty), .slice none 0 0) q → w.heap.size ≤ q := fun q ⟨_, _, _, e, _⟩ => by cases e
      have HRt : Hid (RsN w0 (.slice ax nx cx) M) := HR1
      have hQl : Q.length ≤ 1000000000 := by omega
      clear hT HokA
      go_upto_region 17 with fail
      clear x0 x5 n4 n5 n6 n7 n8
      have hVg : ¬ v.ownBlock = some w2.heap.size := hvg
      obtain ⟨aV, cV, eV⟩ := HM3.out.slice
      subst eV
      have HMd := hide_ (HM3.out.later ((Below.refl w3.heap.size w3).drew))
      have hPd : PtIn w3.drew w0.heap.size (⟨x.k, x.n, 0, []⟩ : Ty).ps (.slice none 0 0) := HPt.out.upd (Upd.of_below (S := fun _ => False) ((Below.refl w3.heap.size w3).drew)) (fun _ h => h.elim) (fun _ _ h => h.elim)
      obtain ⟨gT, cT, w7, r7, k7, m7, u7, b7⟩ := HMd.out.push (⟨x.k, x.n, 0, []⟩ : Ty) (.slice none 0 0) rfl hPd hQl
      have HSS : Hid (∀ w', Below w3.heap.size w3 w' → (fun w' => w'.cell? ⟨g, 0, none⟩ = some (.slice aV Q.length cV) ∧ w'.cell? ⟨w2.heap.size, 0, none⟩ = some (.int .i64 x.k) ∧ w'.cell? ⟨w2.heap.size, 1, none⟩ = some (.int .i64 x.n) ∧ w'.cell? ⟨w2.heap.size, 2, none⟩ = some (.int .i64 0) ∧ w'.cell? ⟨w2.heap.size, 3, none⟩ = some (.slice none 0 0)) w') := hide_ (fun w' hb => by
        have y0 := (HM3.out.later hb).1.cell 0
        have z0 := (HG3.out.later hb).cell 0; have z1 := (HG3.out.later hb).cell 1; have z2 := (HG3.out.later hb).cell 2; have z3 := (HG3.out.later hb).cell 3
        simp at y0 z0 z1 z2 z3
        exact ⟨y0, z0, z1, z2, z3⟩)
      have kg7 : Blk w7 w2.heap.size 49 [.int .i64 x.k, .int .i64 x.n, .int .i64 0, .slice none 0 0] := (HG3.out.later ((Below.refl w3.heap.size w3).drew)).upd u7 hVg
      have HS7 : Hid ((fun w' => w'.cell? ⟨g, 0, none⟩ = some (.slice aV Q.length cV) ∧ w'.cell? ⟨w2.heap.size, 0, none⟩ = some (.int .i64 x.k) ∧ w'.cell? ⟨w2.heap.size, 1, none⟩ = some (.int .i64 x.n) ∧ w'.cell? ⟨w2.heap.size, 2, none⟩ = some (.int .i64 0) ∧ w'.cell? ⟨w2.heap.size, 3, none⟩ = some (.slice none 0 0)) w7) := hide_ (by
        have y0 := k7.cell 0
        have z0 := kg7.cell 0; have z1 := kg7.cell 1; have z2 := kg7.cell 2; have z3 := kg7.cell 3
        simp at y0 z0 z1 z2 z3
        exact ⟨y0, z0, z1, z2, z3⟩)
      obtain ⟨n1, hn1⟩ : ∃ n1, n1 = Q.length + 1 := ⟨_, rfl⟩
      rw [← hn1] at r7 m7
      have hkf := (HK3.out.then ((Below.refl w3.heap.size w3).drew)).push (n := n1) (c := cT) (t := (⟨x.k, x.n, 0, []⟩ : Ty)) (u := .slice none 0 0) u7 b7 hub (.slice (some ⟨gT, 0, none⟩) n1 cT)
      obtain ⟨w9, hw9⟩ : ∃ wx, wx = w7.setCell ⟨g, 0, none⟩ (.slice (some ⟨gT, 0, none⟩) n1 cT) := ⟨_, rfl⟩
      rw [← hw9] at m7 hkf
      have y9 := m7.1.cell 0
      simp at y9
      have HR7 := hide_ r7
      have HK7 := hide_ k7
      have HM9 := hide_ m7
      have HK9 := hide_ hkf
      have hwr : IntKind.i64.wrap ((n1 : Int) - 1) = (n1 : Int) - 1 := i64wz _ (by omega)
      have hne : (n1 : Int) - 1 = (a.2.2.length : Int) := by rw [HEq.out.2, hn1]; omega
      clear r7 k7 m7 u7 b7 kg7 hPd hkf HMd hn1 HPt
      refine wp_region_last 10 (fun w' => w'.cell? ⟨g, 0, none⟩ = some (.slice aV Q.length cV) ∧ w'.cell? ⟨w2.heap.size, 0, none⟩ = some (.int .i64 x.k) ∧ w'.cell? ⟨w2.heap.size, 1, none⟩ = some (.int .i64 x.n) ∧ w'.cell? ⟨w2.heap.size, 2, none⟩ = some (.int .i64 0) ∧ w'.cell? ⟨w2.heap.size, 3, none⟩ = some (.slice none 0 0)) (by kernel_rfl) (HSS.out _ ((Below.refl w3.heap.size w3).drew)) (fun hHeld => ?_)
      refine wpAnyF_take [10] (by kernel_rfl) (i := 0) (v := ?vt1) rfl (by kernel_rfl) (by kernel_rfl) (by kernel_rfl) (fun _ _ _ h => h) (Or.inl ⟨by kernel_rfl, ?hyt1⟩) hHeld ?restt1
      case hyt1 => intro w' hSw; (try dsimp only at hSw); go_simp; try with_reducible rfl
      simp only [Act.put]
      refine wpAnyF_take [10] (by kernel_rfl) (i := 1) (v := ?vt2) rfl (by kernel_rfl) (by kernel_rfl) (by kernel_rfl) (fun _ _ _ h => h) (Or.inl ⟨by kernel_rfl, ?hyt2⟩) hHeld ?restt2
      case hyt2 => intro w' hSw; (try dsimp only at hSw); go_simp; try with_reducible rfl
      simp only [Act.put]
      refine wpAnyF_take [10] (by kernel_rfl) (i := 2) (v := ?vt3) rfl (by kernel_rfl) (by kernel_rfl) (by kernel_rfl) (fun _ _ _ h => h) (Or.inl ⟨by kernel_rfl, ?hyt3⟩) hHeld ?restt3
      case hyt3 => intro w' hSw; (try dsimp only at hSw); go_simp; try with_reducible rfl
      simp only [Act.put]
      refine wpAnyF_take [10] (by kernel_rfl) (i := 3) (v := ?vt4) rfl (by kernel_rfl) (by kernel_rfl) (by kernel_rfl) (fun _ _ _ h => h) (Or.inl ⟨by kernel_rfl, ?hyt4⟩) hHeld ?restt4
      case hyt4 => intro w' hSw; (try dsimp only at hSw); go_simp; try with_reducible rfl
      simp only [Act.put]
      refine wpAnyF_take [10] (by kernel_rfl) (i := 4) (v := ?vt5) rfl (by kernel_rfl) (by kernel_rfl) (by kernel_rfl) (fun _ _ _ h => h) (Or.inl ⟨by kernel_rfl, ?hyt5⟩) hHeld ?restt5
      case hyt5 => intro w' hSw; (try dsimp only at hSw); go_simp; try with_reducible rfl
      simp only [Act.put]
      refine wpAnyF_take [10] (by kernel_rfl) (i := 5) (v := ?vt6) rfl (by kernel_rfl) (by kernel_rfl) (by kernel_rfl) (fun _ _ _ h => h) (Or.inl ⟨by kernel_rfl, ?hyt6⟩) hHeld ?restt6
      case hyt6 => intro w' hSw; (try dsimp only at hSw); go_simp; try with_reducible rfl
      simp only [Act.put]
      refine wpAnyF_ready (rs := [6]) (by kernel_rfl) (by simp) ?_
      refine AllReadyF.cons rfl (fun K hK => ?_) AllReadyF.nil
      go_simp
      refine hK.out _ _ (HSS.out _ (below_to ((Below.refl w3.heap.size w3).drew) (below1 w3.drew _))) (fun hHeld => ?_)
      clear hK K
      refine wpAnyF_ready (rs := [7]) (by kernel_rfl) (by simp) ?_
      refine AllReadyF.cons rfl (fun K hK => ?_) AllReadyF.nil
      refine step_append_run rfl (.tmp 62) (.tmp 64) 26 26 rfl (v := .slice aV Q.length cV) (u := .slice (some ⟨w3.heap.size, 0, none⟩) 1 1) (by kernel_rfl) (by kernel_rfl) HR7.out ?_
      simp only [Act.put]
      refine hK.out _ _ (HS7.out) (fun hHeld => ?_)
      clear hK K
      refine wpAnyF_take [10, 9] (by kernel_rfl) (i := 8) (v := ?vt7) rfl (by kernel_rfl) (by kernel_rfl) (by kernel_rfl) (fun _ _ _ h => h) (Or.inl ⟨by kernel_rfl, ?hyt7⟩) hHeld ?restt7
      case hyt7 => intro w' hSw; (try dsimp only at hSw); go_simp; try with_reducible rfl
      simp only [Act.put]
      refine wpAnyF_take [10] (by kernel_rfl) (i := 9) (v := ?vt8) rfl (by kernel_rfl) (by kernel_rfl) (by kernel_rfl) (fun _ _ _ h => h) (Or.inl ⟨by kernel_rfl, ?hyt8⟩) hHeld ?restt8
      case hyt8 => intro w' hSw; (try dsimp only at hSw); go_simp; try with_reducible rfl
      simp only [Act.put]
      refine wpAnyF_ready (rs := [10]) (by kernel_rfl) (by simp) ?_
      refine AllReadyF.last rfl (fun K hK => ?_)
      have q0 := HK7.out.cell 0; have qz := HK7.out.frozen 0
      simp at q0
      go_simp
      refine hK.out _ _ ?_
      clear hK K
      refine wpAnyF_done (by kernel_rfl) ?_ _
      rw [← hw9]
      clear hw9 HSS HS7 HR7
      go_wp2_with fail
      go_ret
      exact TnTo.mk HA.out _ _ (.slice ax nx cx) _ (by rw [if_neg h9] <;> first | exact HEq.out.2.symm | exact hne) HM9 HRt (by rw [if_neg h9, ← HEq.out.1]; try simp) HK9
    · --<E
      have hk1' : x.kids.toNat = 1 := by omega
      have hFA1 : Forest f (d + 1) x.k 1 A := by rw [hk1'] at hFA; exact hFA
      have hmd : mdT x a.1 = ⟨x.k, x.n, (a.1.headD pt0).ty, []⟩ := by unfold mdT; rw [if_pos hk, if_neg (by omega)]
      have HMd0 := hide_ hmd
      have HA1 : Hid (a = bF kn f 1 (A ++ M) (Q.map (·.1))) := hide_ (by rw [HA.out, hk1'])
      have HTn := hide_ ((hT f (Nat.le_refl _)).out (d + 1) x.k A M v Q (.slice ax nx cx) w3 hFA1 HokA.out (by omega) HM3 HR1)
      have hkb : (x.k == 4) = true ∨ ((x.k == 4) = false ∧ (x.k == 5) = true) ∨ ((x.k == 4) = false ∧ (x.k == 5) = false ∧ (x.k == 6) = true) := by
        rcases hk with hk | hk | hk <;> simp [hk]
      clear hk hk1 hk1' hFA hFA1 hmd hT HokA
      rcases hkb with n4 | ⟨n4, n5⟩ | ⟨n4, n5, n6⟩
      · go_upto_region 17 with (go_at_call 29; refine HTn.out.mono ?_; rintro e w4 ⟨v4, Q4, r4, he, HM4, HR4, HQ4, HK4⟩; rw [← HA1.out] at he HQ4; obtain ⟨nu, hnu⟩ : ∃ nu, nu = (a.1.headD pt0).ty := ⟨_, rfl⟩; rw [← hnu] at he; subst he; have HNu := hide_ hnu; clear hnu; have HG4 := hide_ (HK4.out.blk HG3.out hgg hvg); have q2 := HG4.out.cell 2; have qz := HG4.out.frozen 2; simp at q2)
        clear q2 qz HTn x0 x5
        have hVg : ¬ v4.ownBlock = some w2.heap.size := fun e => by
          rcases HK4.out.2.1 _ e with h | h
          · exact hvg h
          · have := HG3.out.lt; omega
        obtain ⟨w5, hw5⟩ : ∃ wx, wx = w4.setCell ⟨w2.heap.size, 2, none⟩ (.int .i64 nu) := ⟨_, rfl⟩
        have hu5 : Upd (fun q => q = w2.heap.size) w4 w5 := by rw [hw5]; exact (Upd.refl _ w4).set _ _ (.inl rfl)
        have HM5 : Hid (BdM w0 w5 g bm nm v4 Q4 kn r4) := hide_ (HM4.out.updN hu5 HG4.out (by have := HM2.out.size; omega) hVg (by decide) hgg)
        have HG5 : Hid (Blk w5 w2.heap.size 49 [.int .i64 x.k, .int .i64 x.n, .int .i64 nu, .slice none 0 0]) := hide_ (by rw [hw5]; have := HG4.out.set 2 (.int .i64 nu); simpa using this)
        have HK5 : Hid (Bkg g v v4 Q Q4 w w5) := hide_ (by rw [hw5]; exact (HK3.out.trans HK4.out).new hwg 2 _)
        rw [← hw5]
        clear hw5 hu5
        have hQm : (Q4.map (·.1)).length = a.2.2.length := by rw [HQ4.out]
        have hQl : Q4.length ≤ 1000000000 := by simp at hQm; omega
        have HEq : Hid (Q4.map (·.1) ++ [(⟨x.k, x.n, nu, []⟩ : Ty)] = a.2.2 ++ [mdT x a.1] ∧ (a.2.2.length : Int) = (Q4.length : Int)) := hide_ ⟨by rw [HQ4.out, HMd0.out, HNu.out], by simp at hQm; omega⟩
        have HPt : Hid (PtIn w5 w0.heap.size ([] : List Ptz) (.slice none 0 0)) := hide_ ⟨none, 0, rfl, by simp, fun _ => rfl, .inl rfl, .inl rfl⟩
        have hub : ∀ q, PBlk ((⟨x.k, x.n, nu, []⟩ : Ty), .slice none 0 0) q → w.heap.size ≤ q := fun q ⟨_, _, _, e, _⟩ => by cases e
        clear hQm
        obtain ⟨aV, cV, eV⟩ := HM5.out.slice
        subst eV
        have HMd := hide_ (HM5.out.later ((Below.refl w5.heap.size w5).drew))
        have hPd : PtIn w5.drew w0.heap.size (⟨x.k, x.n, nu, []⟩ : Ty).ps (.slice none 0 0) := HPt.out.upd (Upd.of_below (S := fun _ => False) ((Below.refl w5.heap.size w5).drew)) (fun _ h => h.elim) (fun _ _ h => h.elim)
        obtain ⟨gT, cT, w7, r7, k7, m7, u7, b7⟩ := HMd.out.push (⟨x.k, x.n, nu, []⟩ : Ty) (.slice none 0 0) rfl hPd hQl
        have HSS : Hid (∀ w', Below w5.heap.size w5 w' → (fun w' => w'.cell? ⟨g, 0, none⟩ = some (.slice aV Q4.length cV) ∧ w'.cell? ⟨w2.heap.size, 0, none⟩ = some (.int .i64 x.k) ∧ w'.cell? ⟨w2.heap.size, 1, none⟩ = some (.int .i64 x.n) ∧ w'.cell? ⟨w2.heap.size, 2, none⟩ = some (.int .i64 nu) ∧ w'.cell? ⟨w2.heap.size, 3, none⟩ = some (.slice none 0 0)) w') := hide_ (fun w' hb => by
          have y0 := (HM5.out.later hb).1.cell 0
          have z0 := (HG5.out.later hb).cell 0; have z1 := (HG5.out.later hb).cell 1; have z2 := (HG5.out.later hb).cell 2; have z3 := (HG5.out.later hb).cell 3
          simp at y0 z0 z1 z2 z3
          exact ⟨y0, z0, z1, z2, z3⟩)
        have kg7 : Blk w7 w2.heap.size 49 [.int .i64 x.k, .int .i64 x.n, .int .i64 nu, .slice none 0 0] := (HG5.out.later ((Below.refl w5.heap.size w5).drew)).upd u7 hVg
        have HS7 : Hid ((fun w' => w'.cell? ⟨g, 0, none⟩ = some (.slice aV Q4.length cV) ∧ w'.cell? ⟨w2.heap.size, 0, none⟩ = some (.int .i64 x.k) ∧ w'.cell? ⟨w2.heap.size, 1, none⟩ = some (.int .i64 x.n) ∧ w'.cell? ⟨w2.heap.size, 2, none⟩ = some (.int .i64 nu) ∧ w'.cell? ⟨w2.heap.size, 3, none⟩ = some (.slice none 0 0)) w7) := hide_ (by
          have y0 := k7.cell 0
          have z0 := kg7.cell 0; have z1 := kg7.cell 1; have z2 := kg7.cell 2; have z3 := kg7.cell 3
          simp at y0 z0 z1 z2 z3
          exact ⟨y0, z0, z1, z2, z3⟩)
        obtain ⟨n1, hn1⟩ : ∃ n1, n1 = Q4.length + 1 := ⟨_, rfl⟩
        rw [← hn1] at r7 m7
        have hkf := (HK5.out.then ((Below.refl w5.heap.size w5).drew)).push (n := n1) (c := cT) (t := (⟨x.k, x.n, nu, []⟩ : Ty)) (u := .slice none 0 0) u7 b7 hub (.slice (some ⟨gT, 0, none⟩) n1 cT)
        obtain ⟨w9, hw9⟩ : ∃ wx, wx = w7.setCell ⟨g, 0, none⟩ (.slice (some ⟨gT, 0, none⟩) n1 cT) := ⟨_, rfl⟩
        rw [← hw9] at m7 hkf
        have y9 := m7.1.cell 0
        simp at y9
        have HR7 := hide_ r7
        have HK7 := hide_ k7
        have HM9 := hide_ m7
        have HK9 := hide_ hkf
        have hwr : IntKind.i64.wrap ((n1 : Int) - 1) = (n1 : Int) - 1 := i64wz _ (by omega)
        have hne : (n1 : Int) - 1 = (a.2.2.length : Int) := by rw [HEq.out.2, hn1]; omega
        clear r7 k7 m7 u7 b7 kg7 hPd hkf HMd hn1 HPt
        refine wp_region_last 10 (fun w' => w'.cell? ⟨g, 0, none⟩ = some (.slice aV Q4.length cV) ∧ w'.cell? ⟨w2.heap.size, 0, none⟩ = some (.int .i64 x.k) ∧ w'.cell? ⟨w2.heap.size, 1, none⟩ = some (.int .i64 x.n) ∧ w'.cell? ⟨w2.heap.size, 2, none⟩ = some (.int .i64 nu) ∧ w'.cell? ⟨w2.heap.size, 3, none⟩ = some (.slice none 0 0)) (by kernel_rfl) (HSS.out _ ((Below.refl w5.heap.size w5).drew)) (fun hHeld => ?_)
        refine wpAnyF_take [10] (by kernel_rfl) (i := 0) (v := ?vu0_1) rfl (by kernel_rfl) (by kernel_rfl) (by kernel_rfl) (fun _ _ _ h => h) (Or.inl ⟨by kernel_rfl, ?hyu0_1⟩) hHeld ?restu0_1
        case hyu0_1 => intro w' hSw; (try dsimp only at hSw); go_simp; try with_reducible rfl
        simp only [Act.put]
        refine wpAnyF_take [10] (by kernel_rfl) (i := 1) (v := ?vu0_2) rfl (by kernel_rfl) (by kernel_rfl) (by kernel_rfl) (fun _ _ _ h => h) (Or.inl ⟨by kernel_rfl, ?hyu0_2⟩) hHeld ?restu0_2
        case hyu0_2 => intro w' hSw; (try dsimp only at hSw); go_simp; try with_reducible rfl
        simp only [Act.put]
        refine wpAnyF_take [10] (by kernel_rfl) (i := 2) (v := ?vu0_3) rfl (by kernel_rfl) (by kernel_rfl) (by kernel_rfl) (fun _ _ _ h => h) (Or.inl ⟨by kernel_rfl, ?hyu0_3⟩) hHeld ?restu0_3
        case hyu0_3 => intro w' hSw; (try dsimp only at hSw); go_simp; try with_reducible rfl
        simp only [Act.put]
        refine wpAnyF_take [10] (by kernel_rfl) (i := 3) (v := ?vu0_4) rfl (by kernel_rfl) (by kernel_rfl) (by kernel_rfl) (fun _ _ _ h => h) (Or.inl ⟨by kernel_rfl, ?hyu0_4⟩) hHeld ?restu0_4
        case hyu0_4 => intro w' hSw; (try dsimp only at hSw); go_simp; try with_reducible rfl
        simp only [Act.put]
        refine wpAnyF_take [10] (by kernel_rfl) (i := 4) (v := ?vu0_5) rfl (by kernel_rfl) (by kernel_rfl) (by kernel_rfl) (fun _ _ _ h => h) (Or.inl ⟨by kernel_rfl, ?hyu0_5⟩) hHeld ?restu0_5
        case hyu0_5 => intro w' hSw; (try dsimp only at hSw); go_simp; try with_reducible rfl
        simp only [Act.put]
        refine wpAnyF_take [10] (by kernel_rfl) (i := 5) (v := ?vu0_6) rfl (by kernel_rfl) (by kernel_rfl) (by kernel_rfl) (fun _ _ _ h => h) (Or.inl ⟨by kernel_rfl, ?hyu0_6⟩) hHeld ?restu0_6
        case hyu0_6 => intro w' hSw; (try dsimp only at hSw); go_simp; try with_reducible rfl
        simp only [Act.put]
        refine wpAnyF_ready (rs := [6]) (by kernel_rfl) (by simp) ?_
        refine AllReadyF.cons rfl (fun K hK => ?_) AllReadyF.nil
        go_simp
        refine hK.out _ _ (HSS.out _ (below_to ((Below.refl w5.heap.size w5).drew) (below1 w5.drew _))) (fun hHeld => ?_)
        clear hK K
        refine wpAnyF_ready (rs := [7]) (by kernel_rfl) (by simp) ?_
        refine AllReadyF.cons rfl (fun K hK => ?_) AllReadyF.nil
        refine step_append_run rfl (.tmp 62) (.tmp 64) 26 26 rfl (v := .slice aV Q4.length cV) (u := .slice (some ⟨w5.heap.size, 0, none⟩) 1 1) (by kernel_rfl) (by kernel_rfl) HR7.out ?_
        simp only [Act.put]
        refine hK.out _ _ (HS7.out) (fun hHeld => ?_)
        clear hK K
        refine wpAnyF_take [10, 9] (by kernel_rfl) (i := 8) (v := ?vu0_7) rfl (by kernel_rfl) (by kernel_rfl) (by kernel_rfl) (fun _ _ _ h => h) (Or.inl ⟨by kernel_rfl, ?hyu0_7⟩) hHeld ?restu0_7
        case hyu0_7 => intro w' hSw; (try dsimp only at hSw); go_simp; try with_reducible rfl
        simp only [Act.put]
        refine wpAnyF_take [10] (by kernel_rfl) (i := 9) (v := ?vu0_8) rfl (by kernel_rfl) (by kernel_rfl) (by kernel_rfl) (fun _ _ _ h => h) (Or.inl ⟨by kernel_rfl, ?hyu0_8⟩) hHeld ?restu0_8
        case hyu0_8 => intro w' hSw; (try dsimp only at hSw); go_simp; try with_reducible rfl
        simp only [Act.put]
        refine wpAnyF_ready (rs := [10]) (by kernel_rfl) (by simp) ?_
        refine AllReadyF.last rfl (fun K hK => ?_)
        have q0 := HK7.out.cell 0; have qz := HK7.out.frozen 0
        simp at q0
        go_simp
        refine hK.out _ _ ?_
        clear hK K
        refine wpAnyF_done (by kernel_rfl) ?_ _
        rw [← hw9]
        clear hw9 HSS HS7 HR7
        go_wp2_with fail
        go_ret
        exact TnTo.mk HA.out _ _ r4 _ (by rw [if_neg h9] <;> first | exact HEq.out.2.symm | exact hne) HM9 HR4 (by rw [if_neg h9, ← HEq.out.1]; try simp) HK9
      · go_upto_region 17 with (go_at_call 29; refine HTn.out.mono ?_; rintro e w4 ⟨v4, Q4, r4, he, HM4, HR4, HQ4, HK4⟩; rw [← HA1.out] at he HQ4; obtain ⟨nu, hnu⟩ : ∃ nu, nu = (a.1.headD pt0).ty := ⟨_, rfl⟩; rw [← hnu] at he; subst he; have HNu := hide_ hnu; clear hnu; have HG4 := hide_ (HK4.out.blk HG3.out hgg hvg); have q2 := HG4.out.cell 2; have qz := HG4.out.frozen 2; simp at q2)
        clear q2 qz HTn x0 x5
        have hVg : ¬ v4.ownBlock = some w2.heap.size := fun e => by
          rcases HK4.out.2.1 _ e with h | h
          · exact hvg h
          · have := HG3.out.lt; omega
        obtain ⟨w5, hw5⟩ : ∃ wx, wx = w4.setCell ⟨w2.heap.size, 2, none⟩ (.int .i64 nu) := ⟨_, rfl⟩
        have hu5 : Upd (fun q => q = w2.heap.size) w4 w5 := by rw [hw5]; exact (Upd.refl _ w4).set _ _ (.inl rfl)
        have HM5 : Hid (BdM w0 w5 g bm nm v4 Q4 kn r4) := hide_ (HM4.out.updN hu5 HG4.out (by have := HM2.out.size; omega) hVg (by decide) hgg)
        have HG5 : Hid (Blk w5 w2.heap.size 49 [.int .i64 x.k, .int .i64 x.n, .int .i64 nu, .slice none 0 0]) := hide_ (by rw [hw5]; have := HG4.out.set 2 (.int .i64 nu); simpa using this)
        have HK5 : Hid (Bkg g v v4 Q Q4 w w5) := hide_ (by rw [hw5]; exact (HK3.out.trans HK4.out).new hwg 2 _)
        rw [← hw5]
        clear hw5 hu5
        have hQm : (Q4.map (·.1)).length = a.2.2.length := by rw [HQ4.out]
        have hQl : Q4.length ≤ 1000000000 := by simp at hQm; omega
        have HEq : Hid (Q4.map (·.1) ++ [(⟨x.k, x.n, nu, []⟩ : Ty)] = a.2.2 ++ [mdT x a.1] ∧ (a.2.2.length : Int) = (Q4.length : Int)) := hide_ ⟨by rw [HQ4.out, HMd0.out, HNu.out], by simp at hQm; omega⟩
        have HPt : Hid (PtIn w5 w0.heap.size ([] : List Ptz) (.slice none 0 0)) := hide_ ⟨none, 0, rfl, by simp, fun _ => rfl, .inl rfl, .inl rfl⟩
        have hub : ∀ q, PBlk ((⟨x.k, x.n, nu, []⟩ : Ty), .slice none 0 0) q → w.heap.size ≤ q := fun q ⟨_, _, _, e, _⟩ => by cases e
        clear hQm
        obtain ⟨aV, cV, eV⟩ := HM5.out.slice
        subst eV
        have HMd := hide_ (HM5.out.later ((Below.refl w5.heap.size w5).drew))
        have hPd : PtIn w5.drew w0.heap.size (⟨x.k, x.n, nu, []⟩ : Ty).ps (.slice none 0 0) := HPt.out.upd (Upd.of_below (S := fun _ => False) ((Below.refl w5.heap.size w5).drew)) (fun _ h => h.elim) (fun _ _ h => h.elim)
        obtain ⟨gT, cT, w7, r7, k7, m7, u7, b7⟩ := HMd.out.push (⟨x.k, x.n, nu, []⟩ : Ty) (.slice none 0 0) rfl hPd hQl
        have HSS : Hid (∀ w', Below w5.heap.size w5 w' → (fun w' => w'.cell? ⟨g, 0, none⟩ = some (.slice aV Q4.length cV) ∧ w'.cell? ⟨w2.heap.size, 0, none⟩ = some (.int .i64 x.k) ∧ w'.cell? ⟨w2.heap.size, 1, none⟩ = some (.int .i64 x.n) ∧ w'.cell? ⟨w2.heap.size, 2, none⟩ = some (.int .i64 nu) ∧ w'.cell? ⟨w2.heap.size, 3, none⟩ = some (.slice none 0 0)) w') := hide_ (fun w' hb => by
          have y0 := (HM5.out.later hb).1.cell 0
          have z0 := (HG5.out.later hb).cell 0; have z1 := (HG5.out.later hb).cell 1; have z2 := (HG5.out.later hb).cell 2; have z3 := (HG5.out.later hb).cell 3
          simp at y0 z0 z1 z2 z3
          exact ⟨y0, z0, z1, z2, z3⟩)
        have kg7 : Blk w7 w2.heap.size 49 [.int .i64 x.k, .int .i64 x.n, .int .i64 nu, .slice none 0 0] := (HG5.out.later ((Below.refl w5.heap.size w5).drew)).upd u7 hVg
        have HS7 : Hid ((fun w' => w'.cell? ⟨g, 0, none⟩ = some (.slice aV Q4.length cV) ∧ w'.cell? ⟨w2.heap.size, 0, none⟩ = some (.int .i64 x.k) ∧ w'.cell? ⟨w2.heap.size, 1, none⟩ = some (.int .i64 x.n) ∧ w'.cell? ⟨w2.heap.size, 2, none⟩ = some (.int .i64 nu) ∧ w'.cell? ⟨w2.heap.size, 3, none⟩ = some (.slice none 0 0)) w7) := hide_ (by
          have y0 := k7.cell 0
          have z0 := kg7.cell 0; have z1 := kg7.cell 1; have z2 := kg7.cell 2; have z3 := kg7.cell 3
          simp at y0 z0 z1 z2 z3
          exact ⟨y0, z0, z1, z2, z3⟩)
        obtain ⟨n1, hn1⟩ : ∃ n1, n1 = Q4.length + 1 := ⟨_, rfl⟩
        rw [← hn1] at r7 m7
        have hkf := (HK5.out.then ((Below.refl w5.heap.size w5).drew)).push (n := n1) (c := cT) (t := (⟨x.k, x.n, nu, []⟩ : Ty)) (u := .slice none 0 0) u7 b7 hub (.slice (some ⟨gT, 0, none⟩) n1 cT)
        obtain ⟨w9, hw9⟩ : ∃ wx, wx = w7.setCell ⟨g, 0, none⟩ (.slice (some ⟨gT, 0, none⟩) n1 cT) := ⟨_, rfl⟩
        rw [← hw9] at m7 hkf
        have y9 := m7.1.cell 0
        simp at y9
        have HR7 := hide_ r7
        have HK7 := hide_ k7
        have HM9 := hide_ m7
        have HK9 := hide_ hkf
        have hwr : IntKind.i64.wrap ((n1 : Int) - 1) = (n1 : Int) - 1 := i64wz _ (by omega)
        have hne : (n1 : Int) - 1 = (a.2.2.length : Int) := by rw [HEq.out.2, hn1]; omega
        clear r7 k7 m7 u7 b7 kg7 hPd hkf HMd hn1 HPt
        refine wp_region_last 10 (fun w' => w'.cell? ⟨g, 0, none⟩ = some (.slice aV Q4.length cV) ∧ w'.cell? ⟨w2.heap.size, 0, none⟩ = some (.int .i64 x.k) ∧ w'.cell? ⟨w2.heap.size, 1, none⟩ = some (.int .i64 x.n) ∧ w'.cell? ⟨w2.heap.size, 2, none⟩ = some (.int .i64 nu) ∧ w'.cell? ⟨w2.heap.size, 3, none⟩ = some (.slice none 0 0)) (by kernel_rfl) (HSS.out _ ((Below.refl w5.heap.size w5).drew)) (fun hHeld => ?_)
        refine wpAnyF_take [10] (by kernel_rfl) (i := 0) (v := ?vu1_1) rfl (by kernel_rfl) (by kernel_rfl) (by kernel_rfl) (fun _ _ _ h => h) (Or.inl ⟨by kernel_rfl, ?hyu1_1⟩) hHeld ?restu1_1
        case hyu1_1 => intro w' hSw; (try dsimp only at hSw); go_simp; try with_reducible rfl
        simp only [Act.put]
        refine wpAnyF_take [10] (by kernel_rfl) (i := 1) (v := ?vu1_2) rfl (by kernel_rfl) (by kernel_rfl) (by kernel_rfl) (fun _ _ _ h => h) (Or.inl ⟨by kernel_rfl, ?hyu1_2⟩) hHeld ?restu1_2
        case hyu1_2 => intro w' hSw; (try dsimp only at hSw); go_simp; try with_reducible rfl
        simp only [Act.put]
        refine wpAnyF_take [10] (by kernel_rfl) (i := 2) (v := ?vu1_3) rfl (by kernel_rfl) (by kernel_rfl) (by kernel_rfl) (fun _ _ _ h => h) (Or.inl ⟨by kernel_rfl, ?hyu1_3⟩) hHeld ?restu1_3
        case hyu1_3 => intro w' hSw; (try dsimp only at hSw); go_simp; try with_reducible rfl
        simp only [Act.put]
        refine wpAnyF_take [10] (by kernel_rfl) (i := 3) (v := ?vu1_4) rfl (by kernel_rfl) (by kernel_rfl) (by kernel_rfl) (fun _ _ _ h => h) (Or.inl ⟨by kernel_rfl, ?hyu1_4⟩) hHeld ?restu1_4
        case hyu1_4 => intro w' hSw; (try dsimp only at hSw); go_simp; try with_reducible rfl
        simp only [Act.put]
        refine wpAnyF_take [10] (by kernel_rfl) (i := 4) (v := ?vu1_5) rfl (by kernel_rfl) (by kernel_rfl) (by kernel_rfl) (fun _ _ _ h => h) (Or.inl ⟨by kernel_rfl, ?hyu1_5⟩) hHeld ?restu1_5
        case hyu1_5 => intro w' hSw; (try dsimp only at hSw); go_simp; try with_reducible rfl
        simp only [Act.put]
        refine wpAnyF_take [10] (by kernel_rfl) (i := 5) (v := ?vu1_6) rfl (by kernel_rfl) (by kernel_rfl) (by kernel_rfl) (fun _ _ _ h => h) (Or.inl ⟨by kernel_rfl, ?hyu1_6⟩) hHeld ?restu1_6
        case hyu1_6 => intro w' hSw; (try dsimp only at hSw); go_simp; try with_reducible rfl
        simp only [Act.put]
        refine wpAnyF_ready (rs := [6]) (by kernel_rfl) (by simp) ?_
        refine AllReadyF.cons rfl (fun K hK => ?_) AllReadyF.nil
        go_simp
        refine hK.out _ _ (HSS.out _ (below_to ((Below.refl w5.heap.size w5).drew) (below1 w5.drew _))) (fun hHeld => ?_)
        clear hK K
        refine wpAnyF_ready (rs := [7]) (by kernel_rfl) (by simp) ?_
        refine AllReadyF.cons rfl (fun K hK => ?_) AllReadyF.nil
        refine step_append_run rfl (.tmp 62) (.tmp 64) 26 26 rfl (v := .slice aV Q4.length cV) (u := .slice (some ⟨w5.heap.size, 0, none⟩) 1 1) (by kernel_rfl) (by kernel_rfl) HR7.out ?_
        simp only [Act.put]
        refine hK.out _ _ (HS7.out) (fun hHeld => ?_)
        clear hK K
        refine wpAnyF_take [10, 9] (by kernel_rfl) (i := 8) (v := ?vu1_7) rfl (by kernel_rfl) (by kernel_rfl) (by kernel_rfl) (fun _ _ _ h => h) (Or.inl ⟨by kernel_rfl, ?hyu1_7⟩) hHeld ?restu1_7
        case hyu1_7 => intro w' hSw; (try dsimp only at hSw); go_simp; try with_reducible rfl
        simp only [Act.put]
        refine wpAnyF_take [10] (by kernel_rfl) (i := 9) (v := ?vu1_8) rfl (by kernel_rfl) (by kernel_rfl) (by kernel_rfl) (fun _ _ _ h => h) (Or.inl ⟨by kernel_rfl, ?hyu1_8⟩) hHeld ?restu1_8
        case hyu1_8 => intro w' hSw; (try dsimp only at hSw); go_simp; try with_reducible rfl
        simp only [Act.put]
        refine wpAnyF_ready (rs := [10]) (by kernel_rfl) (by simp) ?_
        refine AllReadyF.last rfl (fun K hK => ?_)
        have q0 := HK7.out.cell 0; have qz := HK7.out.frozen 0
        simp at q0
        go_simp
        refine hK.out _ _ ?_
        clear hK K
        refine wpAnyF_done (by kernel_rfl) ?_ _
        rw [← hw9]
        clear hw9 HSS HS7 HR7
        go_wp2_with fail
        go_ret
        exact TnTo.mk HA.out _ _ r4 _ (by rw [if_neg h9] <;> first | exact HEq.out.2.symm | exact hne) HM9 HR4 (by rw [if_neg h9, ← HEq.out.1]; try simp) HK9
      · go_upto_region 17 with (go_at_call 29; refine HTn.out.mono ?_; rintro e w4 ⟨v4, Q4, r4, he, HM4, HR4, HQ4, HK4⟩; rw [← HA1.out] at he HQ4; obtain ⟨nu, hnu⟩ : ∃ nu, nu = (a.1.headD pt0).ty := ⟨_, rfl⟩; rw [← hnu] at he; subst he; have HNu := hide_ hnu; clear hnu; have HG4 := hide_ (HK4.out.blk HG3.out hgg hvg); have q2 := HG4.out.cell 2; have qz := HG4.out.frozen 2; simp at q2)
        clear q2 qz HTn x0 x5
        have hVg : ¬ v4.ownBlock = some w2.heap.size := fun e => by
          rcases HK4.out.2.1 _ e with h | h
          · exact hvg h
          · have := HG3.out.lt; omega
        obtain ⟨w5, hw5⟩ : ∃ wx, wx = w4.setCell ⟨w2.heap.size, 2, none⟩ (.int .i64 nu) := ⟨_, rfl⟩
        have hu5 : Upd (fun q => q = w2.heap.size) w4 w5 := by rw [hw5]; exact (Upd.refl _ w4).set _ _ (.inl rfl)
        have HM5 : Hid (BdM w0 w5 g bm nm v4 Q4 kn r4) := hide_ (HM4.out.updN hu5 HG4.out (by have := HM2.out.size; omega) hVg (by decide) hgg)
        have HG5 : Hid (Blk w5 w2.heap.size 49 [.int .i64 x.k, .int .i64 x.n, .int .i64 nu, .slice none 0 0]) := hide_ (by rw [hw5]; have := HG4.out.set 2 (.int .i64 nu); simpa using this)
        have HK5 : Hid (Bkg g v v4 Q Q4 w w5) := hide_ (by rw [hw5]; exact (HK3.out.trans HK4.out).new hwg 2 _)
        rw [← hw5]
        clear hw5 hu5
        have hQm : (Q4.map (·.1)).length = a.2.2.length := by rw [HQ4.out]
        have hQl : Q4.length ≤ 1000000000 := by simp at hQm; omega
        have HEq : Hid (Q4.map (·.1) ++ [(⟨x.k, x.n, nu, []⟩ : Ty)] = a.2.2 ++ [mdT x a.1] ∧ (a.2.2.length : Int) = (Q4.length : Int)) := hide_ ⟨by rw [HQ4.out, HMd0.out, HNu.out], by simp at hQm; omega⟩
        have HPt : Hid (PtIn w5 w0.heap.size ([] : List Ptz) (.slice none 0 0)) := hide_ ⟨none, 0, rfl, by simp, fun _ => rfl, .inl rfl, .inl rfl⟩
        have hub : ∀ q, PBlk ((⟨x.k, x.n, nu, []⟩ : Ty), .slice none 0 0) q → w.heap.size ≤ q := fun q ⟨_, _, _, e, _⟩ => by cases e
        clear hQm
        obtain ⟨aV, cV, eV⟩ := HM5.out.slice
        subst eV
        have HMd := hide_ (HM5.out.later ((Below.refl w5.heap.size w5).drew))
        have hPd : PtIn w5.drew w0.heap.size (⟨x.k, x.n, nu, []⟩ : Ty).ps (.slice none 0 0) := HPt.out.upd (Upd.of_below (S := fun _ => False) ((Below.refl w5.heap.size w5).drew)) (fun _ h => h.elim) (fun _ _ h => h.elim)
        obtain ⟨gT, cT, w7, r7, k7, m7, u7, b7⟩ := HMd.out.push (⟨x.k, x.n, nu, []⟩ : Ty) (.slice none 0 0) rfl hPd hQl
        have HSS : Hid (∀ w', Below w5.heap.size w5 w' → (fun w' => w'.cell? ⟨g, 0, none⟩ = some (.slice aV Q4.length cV) ∧ w'.cell? ⟨w2.heap.size, 0, none⟩ = some (.int .i64 x.k) ∧ w'.cell? ⟨w2.heap.size, 1, none⟩ = some (.int .i64 x.n) ∧ w'.cell? ⟨w2.heap.size, 2, none⟩ = some (.int .i64 nu) ∧ w'.cell? ⟨w2.heap.size, 3, none⟩ = some (.slice none 0 0)) w') := hide_ (fun w' hb => by
          have y0 := (HM5.out.later hb).1.cell 0
          have z0 := (HG5.out.later hb).cell 0; have z1 := (HG5.out.later hb).cell 1; have z2 := (HG5.out.later hb).cell 2; have z3 := (HG5.out.later hb).cell 3
          simp at y0 z0 z1 z2 z3
          exact ⟨y0, z0, z1, z2, z3⟩)
        have kg7 : Blk w7 w2.heap.size 49 [.int .i64 x.k, .int .i64 x.n, .int .i64 nu, .slice none 0 0] := (HG5.out.later ((Below.refl w5.heap.size w5).drew)).upd u7 hVg
        have HS7 : Hid ((fun w' => w'.cell? ⟨g, 0, none⟩ = some (.slice aV Q4.length cV) ∧ w'.cell? ⟨w2.heap.size, 0, none⟩ = some (.int .i64 x.k) ∧ w'.cell? ⟨w2.heap.size, 1, none⟩ = some (.int .i64 x.n) ∧ w'.cell? ⟨w2.heap.size, 2, none⟩ = some (.int .i64 nu) ∧ w'.cell? ⟨w2.heap.size, 3, none⟩ = some (.slice none 0 0)) w7) := hide_ (by
          have y0 := k7.cell 0
          have z0 := kg7.cell 0; have z1 := kg7.cell 1; have z2 := kg7.cell 2; have z3 := kg7.cell 3
          simp at y0 z0 z1 z2 z3
          exact ⟨y0, z0, z1, z2, z3⟩)
        obtain ⟨n1, hn1⟩ : ∃ n1, n1 = Q4.length + 1 := ⟨_, rfl⟩
        rw [← hn1] at r7 m7
        have hkf := (HK5.out.then ((Below.refl w5.heap.size w5).drew)).push (n := n1) (c := cT) (t := (⟨x.k, x.n, nu, []⟩ : Ty)) (u := .slice none 0 0) u7 b7 hub (.slice (some ⟨gT, 0, none⟩) n1 cT)
        obtain ⟨w9, hw9⟩ : ∃ wx, wx = w7.setCell ⟨g, 0, none⟩ (.slice (some ⟨gT, 0, none⟩) n1 cT) := ⟨_, rfl⟩
        rw [← hw9] at m7 hkf
        have y9 := m7.1.cell 0
        simp at y9
        have HR7 := hide_ r7
        have HK7 := hide_ k7
        have HM9 := hide_ m7
        have HK9 := hide_ hkf
        have hwr : IntKind.i64.wrap ((n1 : Int) - 1) = (n1 : Int) - 1 := i64wz _ (by omega)
        have hne : (n1 : Int) - 1 = (a.2.2.length : Int) := by rw [HEq.out.2, hn1]; omega
        clear r7 k7 m7 u7 b7 kg7 hPd hkf HMd hn1 HPt
        refine wp_region_last 10 (fun w' => w'.cell? ⟨g, 0, none⟩ = some (.slice aV Q4.length cV) ∧ w'.cell? ⟨w2.heap.size, 0, none⟩ = some (.int .i64 x.k) ∧ w'.cell? ⟨w2.heap.size, 1, none⟩ = some (.int .i64 x.n) ∧ w'.cell? ⟨w2.heap.size, 2, none⟩ = some (.int .i64 nu) ∧ w'.cell? ⟨w2.heap.size, 3, none⟩ = some (.slice none 0 0)) (by kernel_rfl) (HSS.out _ ((Below.refl w5.heap.size w5).drew)) (fun hHeld => ?_)
        refine wpAnyF_take [10] (by kernel_rfl) (i := 0) (v := ?vu2_1) rfl (by kernel_rfl) (by kernel_rfl) (by kernel_rfl) (fun _ _ _ h => h) (Or.inl ⟨by kernel_rfl, ?hyu2_1⟩) hHeld ?restu2_1
        case hyu2_1 => intro w' hSw; (try dsimp only at hSw); go_simp; try with_reducible rfl
        simp only [Act.put]
        refine wpAnyF_take [10] (by kernel_rfl) (i := 1) (v := ?vu2_2) rfl (by kernel_rfl) (by kernel_rfl) (by kernel_rfl) (fun _ _ _ h => h) (Or.inl ⟨by kernel_rfl, ?hyu2_2⟩) hHeld ?restu2_2
        case hyu2_2 => intro w' hSw; (try dsimp only at hSw); go_simp; try with_reducible rfl
        simp only [Act.put]
        refine wpAnyF_take [10] (by kernel_rfl) (i := 2) (v := ?vu2_3) rfl (by kernel_rfl) (by kernel_rfl) (by kernel_rfl) (fun _ _ _ h => h) (Or.inl ⟨by kernel_rfl, ?hyu2_3⟩) hHeld ?restu2_3
        case hyu2_3 => intro w' hSw; (try dsimp only at hSw); go_simp; try with_reducible rfl
        simp only [Act.put]
        refine wpAnyF_take [10] (by kernel_rfl) (i := 3) (v := ?vu2_4) rfl (by kernel_rfl) (by kernel_rfl) (by kernel_rfl) (fun _ _ _ h => h) (Or.inl ⟨by kernel_rfl, ?hyu2_4⟩) hHeld ?restu2_4
        case hyu2_4 => intro w' hSw; (try dsimp only at hSw); go_simp; try with_reducible rfl
        simp only [Act.put]
        refine wpAnyF_take [10] (by kernel_rfl) (i := 4) (v := ?vu2_5) rfl (by kernel_rfl) (by kernel_rfl) (by kernel_rfl) (fun _ _ _ h => h) (Or.inl ⟨by kernel_rfl, ?hyu2_5⟩) hHeld ?restu2_5
        case hyu2_5 => intro w' hSw; (try dsimp only at hSw); go_simp; try with_reducible rfl
        simp only [Act.put]
        refine wpAnyF_take [10] (by kernel_rfl) (i := 5) (v := ?vu2_6) rfl (by kernel_rfl) (by kernel_rfl) (by kernel_rfl) (fun _ _ _ h => h) (Or.inl ⟨by kernel_rfl, ?hyu2_6⟩) hHeld ?restu2_6
        case hyu2_6 => intro w' hSw; (try dsimp only at hSw); go_simp; try with_reducible rfl
        simp only [Act.put]
        refine wpAnyF_ready (rs := [6]) (by kernel_rfl) (by simp) ?_
        refine AllReadyF.cons rfl (fun K hK => ?_) AllReadyF.nil
        go_simp
        refine hK.out _ _ (HSS.out _ (below_to ((Below.refl w5.heap.size w5).drew) (below1 w5.drew _))) (fun hHeld => ?_)
        clear hK K
        refine wpAnyF_ready (rs := [7]) (by kernel_rfl) (by simp) ?_
        refine AllReadyF.cons rfl (fun K hK => ?_) AllReadyF.nil
        refine step_append_run rfl (.tmp 62) (.tmp 64) 26 26 rfl (v := .slice aV Q4.length cV) (u := .slice (some ⟨w5.heap.size, 0, none⟩) 1 1) (by kernel_rfl) (by kernel_rfl) HR7.out ?_
        simp only [Act.put]
        refine hK.out _ _ (HS7.out) (fun hHeld => ?_)
        clear hK K
        refine wpAnyF_take [10, 9] (by kernel_rfl) (i := 8) (v := ?vu2_7) rfl (by kernel_rfl) (by kernel_rfl) (by kernel_rfl) (fun _ _ _ h => h) (Or.inl ⟨by kernel_rfl, ?hyu2_7⟩) hHeld ?restu2_7
        case hyu2_7 => intro w' hSw; (try dsimp only at hSw); go_simp; try with_reducible rfl
        simp only [Act.put]
        refine wpAnyF_take [10] (by kernel_rfl) (i := 9) (v := ?vu2_8) rfl (by kernel_rfl) (by kernel_rfl) (by kernel_rfl) (fun _ _ _ h => h) (Or.inl ⟨by kernel_rfl, ?hyu2_8⟩) hHeld ?restu2_8
        case hyu2_8 => intro w' hSw; (try dsimp only at hSw); go_simp; try with_reducible rfl
        simp only [Act.put]
        refine wpAnyF_ready (rs := [10]) (by kernel_rfl) (by simp) ?_
        refine AllReadyF.last rfl (fun K hK => ?_)
        have q0 := HK7.out.cell 0; have qz := HK7.out.frozen 0
        simp at q0
        go_simp
        refine hK.out _ _ ?_
        clear hK K
        refine wpAnyF_done (by kernel_rfl) ?_ _
        rw [← hw9]
        clear hw9 HSS HS7 HR7
        go_wp2_with fail
        go_ret
        exact TnTo.mk HA.out _ _ r4 _ (by rw [if_neg h9] <;> first | exact HEq.out.2.symm | exact hne) HM9 HR4 (by rw [if_neg h9, ← HEq.out.1]; try simp) HK9
    · --<P
      obtain ⟨m, hm⟩ : ∃ m, m = x.kids.toNat := ⟨_, rfl⟩
      have hmk : x.kids = (m : Int) := by omega
      have hmd : mdT x a.1 = ⟨x.k, x.n, 0, a.1⟩ := by unfold mdT; rw [if_neg (by omega), if_pos hk]
      have HMd0 := hide_ hmd
      have HL0 : Hid (LpB w0 g bm nm kn f d x A M v Q w w2.heap.size 0 w3) := hide_ ⟨f, A, v, .slice ax nx cx, .slice none 0 0, Q, [], Nat.le_refl _, by simpa using hFA, HokA.out, by omega, rfl, HM3.out, HR1.out, HG3.out, World.ownsRow_nil _ _ _ _, hvg, hgg, hwg, (fun q e => by simp [Value.ownBlock] at e), (fun p hp q e => by simp [Value.ownBlock] at e), by simp, by simp, HK3.out⟩
      have hkb : (x.k == 4) = false ∧ (x.k == 5) = false ∧ (x.k == 6) = false ∧ ((x.k == 7) = true ∨ ((x.k == 7) = false ∧ (x.k == 8) = true)) := by
        rcases hk with hk | hk <;> simp [hk]
      obtain ⟨n4, n5, n6, hkb⟩ := hkb
      have hm64 : (m : Int) ≤ 64 := by omega
      have HFA := hide_ hFA
      rw [hmk] at x5
      have Hmk := hide_ hmk
      have Hm := hide_ hm
      have hw0s : w0.heap.size ≤ w.heap.size := hw00
      clear hk hFA hmd HokA hkp hk64 hm hmk HG3 HM3 HK3 KX3 KX HM2 HK2
      rcases hkb with n7 | ⟨n7, n8⟩
      · go_wp2_with fail
        go_loopw [48] (fun x48 wr => ∃ j : Nat, j ≤ m ∧ x48 = .int .i64 (j : Int) ∧ Hid (LpB w0 g bm nm kn f d x A M v Q w w2.heap.size j wr)) (fun x48 _ => m - (intOf x48).toNat)
        case atStart => exact ⟨0, Nat.zero_le _, rfl, HL0⟩
        case round =>
          obtain ⟨j, hj, rfl, HL⟩ := hrel
          generalize wr = wq at *
          clear HL0
          obtain ⟨fj, Aj, vq, rq, u, Qq, ps, l1, l2, l3, l4, l5, l6, l7, l8, l9, l10, l11, l12, l13, l14, l15, l16, l17⟩ := HL.out
          clear HL
          obtain ⟨au, cu, eu, hcu1, -, -⟩ := own_grow ptc_len l9
          subst l5
          subst eu
          by_cases hlt : ps.length < m
          · have hlt' : (ps.length : Int) < (m : Int) := by omega
            rw [← Hm.out] at l2 l15 l16
            obtain ⟨n', hn'⟩ : ∃ n', m - ps.length = n' + 1 := ⟨m - ps.length - 1, by omega⟩
            rw [hn'] at l2 l15 l16
            obtain ⟨f', y, A1, B1, rfl, rfl, hFy, hFB⟩ := forest_succ l2
            have D0 : Below wq.heap.size wq wq.drew := (Below.refl wq.heap.size wq).drew
            have hRy : RsN w0 rq (y :: A1 ++ (B1 ++ M)) := by rw [← List.append_assoc]; exact l7
            have hly : Qq.length + (A1.length + 1) ≤ 1000000000 := by simp at l4; omega
            have HNp := hide_ (np_any (hT (f' + 1) l1) y A1 (B1 ++ M) vq Qq rq wq.drew (hide_ hFy) (hide_ (fun z hz => l3 z (List.mem_append_left _ hz))) hly (hide_ (l6.later D0)) (hide_ hRy))
            have HS0 : Hid ((fun w' => w'.cell? ⟨w2.heap.size, 3, none⟩ = some (.slice au ps.length cu)) wq.drew) := hide_ (by have := (l8.later D0).cell 3; simpa using this)
            have HMq := hide_ l6
            have HGq := hide_ l8
            have HPq := hide_ l9
            have Hu1 := hide_ l13
            have Hu2 := hide_ l14
            have Hl3 := hide_ l3
            have Hl4 := hide_ l4
            have HFB := hide_ hFB
            have HFy := hide_ hFy
            have HKq := hide_ l17
            have HE1 := hide_ l15
            have HE2 := hide_ l16
            have Hn' := hide_ hn'
            clear l2 l3 l4 l6 l7 l8 l9 l13 l14 l15 l16 l17 hFy hFB hRy hly D0 hcu1 hn'
            go_upto_region 15 with fail
            refine wp_region_last 7 (fun w' => w'.cell? ⟨w2.heap.size, 3, none⟩ = some (.slice au ps.length cu)) (by kernel_rfl) (HS0.out) (fun hHeld => ?_)
            refine wpAnyF_take [7] (by kernel_rfl) (i := 0) (v := ?vp0_1) rfl (by kernel_rfl) (by kernel_rfl) (by kernel_rfl) (fun _ _ _ h => h) (Or.inl ⟨by kernel_rfl, ?hyp0_1⟩) hHeld ?restp0_1
            case hyp0_1 => intro w' hSw; (try dsimp only at hSw); go_simp; try with_reducible rfl
            simp only [Act.put]
            refine wpAnyF_take [7] (by kernel_rfl) (i := 1) (v := ?vp0_2) rfl (by kernel_rfl) (by kernel_rfl) (by kernel_rfl) (fun _ _ _ h => h) (Or.inl ⟨by kernel_rfl, ?hyp0_2⟩) hHeld ?restp0_2
            case hyp0_2 => intro w' hSw; (try dsimp only at hSw); go_simp; try with_reducible rfl
            simp only [Act.put]
            refine wpAnyF_take [7] (by kernel_rfl) (i := 2) (v := ?vp0_3) rfl (by kernel_rfl) (by kernel_rfl) (by kernel_rfl) (fun _ _ _ h => h) (Or.inl ⟨by kernel_rfl, ?hyp0_3⟩) hHeld ?restp0_3
            case hyp0_3 => intro w' hSw; (try dsimp only at hSw); go_simp; try with_reducible rfl
            simp only [Act.put]
            refine wpAnyF_ready (rs := [3]) (by kernel_rfl) (by simp) ?_
            refine AllReadyF.cons rfl (fun K hK => ?_) AllReadyF.nil
            go_simp
            refine HNp.out.mono ?_
            rintro e w6 ⟨v6, Q6, r6, he, HM6, HR6, HQ6, HK6⟩
            obtain ⟨nu, hnu⟩ : ∃ nu, nu = ((bF kn (f' + 1) 1 (y :: A1 ++ (B1 ++ M)) (Qq.map (·.1))).1.headD pt0).ty := ⟨_, rfl⟩
            rw [← hnu] at he
            subst he
            have HNu := hide_ hnu
            clear hnu HNp HS0
            dsimp only
            have D0 : Below wq.heap.size wq wq.drew := (Below.refl wq.heap.size wq).drew
            have hG6 := HK6.out.blk (HGq.out.later D0) l11 l10
            have hP6 := HK6.out.pown (HMq.out.later D0) (POwn.later HPq.out D0)
            have hV6 : v6.ownBlock ≠ some w2.heap.size := fun e => by
              rcases HK6.out.2.1 _ e with h | h
              · exact l10 h
              · have := HGq.out.lt; have h3 : wq.drew.heap.size = wq.heap.size := rfl; omega
            have hQu : ∀ p ∈ Q6, ∀ q, (Value.slice au ps.length cu).ownBlock = some q → ¬ PBlk p q := fun p hp q hq hb => by
              rcases HK6.out.2.2 p hp with h | h
              · exact Hu2.out p h q hq hb
              · have := h q hb; have h2 := (World.ownsRow.lt HPq.out q hq).2; have h3 : wq.drew.heap.size = wq.heap.size := rfl; omega
            obtain ⟨g7, c7, w7, r7, p7, u7, b7⟩ := hP6.push2 (⟨y.label, y.tag, nu⟩ : Ptz) (by omega) HM6.out.size
            have hgu : ¬ (Value.slice au ps.length cu).ownBlock = some w2.heap.size := fun e => by
              obtain ⟨ys, hy⟩ := ownS_type hP6 e
              exact absurd (blk_type hy hG6) (by decide)
            have hG7 := hG6.upd u7 hgu
            have HSS : Hid (∀ w', Below w6.heap.size w6 w' → (fun w' => w'.cell? ⟨w2.heap.size, 3, none⟩ = some (.slice au ps.length cu)) w') := hide_ (fun w' hb => by have := (hG6.later hb).cell 3; simpa using this)
            have HS7 : Hid ((fun w' => w'.cell? ⟨w2.heap.size, 3, none⟩ = some (.slice au ps.length cu)) w7) := hide_ (by have := hG7.cell 3; simpa using this)
            obtain ⟨w8, hw8⟩ : ∃ wx, wx = w7.setCell ⟨w2.heap.size, 3, none⟩ (.slice (some ⟨g7, 0, none⟩) (ps.length + 1) c7) := ⟨_, rfl⟩
            have u8 : Upd (fun q => q = w2.heap.size) w7 w8 := by rw [hw8]; exact (Upd.refl _ w7).set _ _ (.inl rfl)
            have M7 := HM6.out.updP hP6 (Nat.le_refl _) u7 hQu
            have M8 := M7.updN u8 hG7 (by have := HMq.out.size; have := HMq.out.2.2.2.2.1; have h4 := HM6.out.size; exact Nat.le_trans hw0s l12) hV6 (by decide) l11
            have hG8 : Blk w8 w2.heap.size 49 [.int .i64 x.k, .int .i64 x.n, .int .i64 0, .slice (some ⟨g7, 0, none⟩) (ps.length + 1) c7] := by rw [hw8]; have := hG7.set 3 (.slice (some ⟨g7, 0, none⟩) (ps.length + 1) c7); simpa using this
            have hP8 : POwn w8 w0.heap.size (.slice (some ⟨g7, 0, none⟩) (ps.length + 1) c7) (ps ++ [⟨y.label, y.tag, nu⟩]) := ownS_upd p7 u8 (fun k hk e => by
              subst e
              obtain ⟨ys, hy⟩ := ownS_type p7 hk
              exact absurd (blk_type hy hG7) (by decide))
            have hbk : Bkg g v v6 Q Q6 w w8 := ((HKq.out.trans (Bkg.pre D0 HK6.out)).newU u7 (fun k e => Hu1.out k e)).newU u8 (fun k e => by omega)
            have hone : (bF kn (f' + 1) 1 (y :: A1 ++ (B1 ++ M)) (Qq.map (·.1))).1 = [⟨y.label, y.tag, nu⟩] := by
              rw [HNu.out, show y :: A1 ++ (B1 ++ M) = y :: (A1 ++ (B1 ++ M)) from rfl, bF_one]
              rfl
            have hres := bF_rest kn (f' + 1) (d + 1) x.k 1 (y :: A1) HFy.out (B1 ++ M) (Qq.map (·.1))
            have hlen := (bF_len kn (f' + 1) (d + 1) x.k 1 (y :: A1) HFy.out (B1 ++ M) (Qq.map (·.1))).2.1
            have hcs : bF kn (f' + 1) (n' + 1) (y :: A1 ++ B1 ++ M) (Qq.map (·.1)) = ([⟨y.label, y.tag, nu⟩] ++ (bF kn f' n' (B1 ++ M) (Q6.map (·.1))).1, (bF kn f' n' (B1 ++ M) (Q6.map (·.1))).2) := by
              have e := bF_cons kn f' n' y (A1 ++ (B1 ++ M)) (Qq.map (·.1))
              rw [show y :: (A1 ++ (B1 ++ M)) = y :: A1 ++ (B1 ++ M) from rfl, hone, hres, ← HQ6.out] at e
              rw [List.append_assoc]
              exact e
            have hn9 : x.kids.toNat - (ps.length + 1) = n' := by rw [← Hm.out]; have := Hn'.out; omega
            have HL8 : Hid (LpB w0 g bm nm kn f d x A M v Q w w2.heap.size (ps.length + 1) w8) := hide_ ⟨f', B1, v6, r6, .slice (some ⟨g7, 0, none⟩) (ps.length + 1) c7, Q6, ps ++ [⟨y.label, y.tag, nu⟩], by omega, by rw [hn9]; exact HFB.out, fun z hz => Hl3.out z (List.mem_append_right _ hz), by
                have h1 : Q6.length ≤ Qq.length + (A1.length + 1) := by
                  have h2 := congrArg List.length HQ6.out
                  simp only [List.length_map, List.length_cons] at h2 hlen
                  omega
                have h3 := Hl4.out
                simp at h3
                omega, by simp, M8, HR6.out, hG8, hP8, hV6, l11, l12, (fun q e => by
                  have e2 := own_is e
                  subst e2
                  rcases b7 with b | b
                  · exact Hu1.out _ b
                  · have h1 := HKq.out.1.size; have h2 := HK6.out.1.size; have h3 : wq.drew.heap.size = wq.heap.size := rfl; omega), (fun p hp q e hb => by
                  have e2 := own_is e
                  subst e2
                  rcases b7 with b | b
                  · exact hQu p hp _ b hb
                  · have := HM6.out.pblk hp hb; omega), by
                  rw [hn9, ← Hm.out, ← HE1.out, hcs]
                  simp, by
                  rw [hn9, ← Hm.out, ← HE2.out, hcs], hbk⟩
            have HR7 := hide_ r7
            have HG7 := hide_ hG7
            clear r7 hG7 p7 u7 b7 u8 M7 M8 hG8 hP8 hbk hone hres hlen hcs hQu hV6 hG6 hP6 D0 hgu HE1 HE2 HR6 HQ6 HK6 HM6 HNu hn9
            refine hK.out _ _ (HSS.out _ (Below.refl _ _)) (fun hHeld => ?_)
            clear hK K
            refine wpAnyF_ready (rs := [4]) (by kernel_rfl) (by simp) ?_
            refine AllReadyF.cons rfl (fun K hK => ?_) AllReadyF.nil
            go_simp
            refine hK.out _ _ (HSS.out _ (below1 w6 _)) (fun hHeld => ?_)
            clear hK K
            refine wpAnyF_ready (rs := [5]) (by kernel_rfl) (by simp) ?_
            refine AllReadyF.cons rfl (fun K hK => ?_) AllReadyF.nil
            refine step_append_run rfl (.tmp 51) (.tmp 54) 47 47 rfl (v := .slice au ps.length cu) (u := .slice (some ⟨w6.heap.size, 0, none⟩) 1 1) (by kernel_rfl) (by kernel_rfl) HR7.out ?_
            simp only [Act.put]
            refine hK.out _ _ (HS7.out) (fun hHeld => ?_)
            clear hK K
            refine wpAnyF_take [7] (by kernel_rfl) (i := 6) (v := ?vp0_4) rfl (by kernel_rfl) (by kernel_rfl) (by kernel_rfl) (fun _ _ _ h => h) (Or.inl ⟨by kernel_rfl, ?hyp0_4⟩) hHeld ?restp0_4
            case hyp0_4 => intro w' hSw; (try dsimp only at hSw); go_simp; try with_reducible rfl
            simp only [Act.put]
            refine wpAnyF_ready (rs := [7]) (by kernel_rfl) (by simp) ?_
            refine AllReadyF.last rfl (fun K hK => ?_)
            have q3 := HG7.out.cell 3; have qz := HG7.out.frozen 3
            simp at q3
            go_simp
            refine hK.out _ _ ?_
            clear hK K
            refine wpAnyF_done (by kernel_rfl) ?_ _
            rw [← hw8]
            clear hw8 HSS HS7 HR7
            go_wp2_with fail
            go_roundw
            case rel => exact ⟨ps.length + 1, by omega, by go_num, HL8⟩
            case measure => simp [intOf]; omega
          · obtain rfl : ps.length = m := by omega
            have hlt' : ¬ ((ps.length : Int) < (ps.length : Int)) := by omega
            have hA0 : Aj = [] := forest_zero (fu := fj) (d := d + 1) (k := x.k) (by rw [← Hm.out, Nat.sub_self] at l2; exact l2)
            subst hA0
            rw [← Hm.out, Nat.sub_self, bF_zero] at l15 l16
            rw [Hm.out, ← HA.out, List.append_nil] at l15
            rw [Hm.out, ← HA.out] at l16
            dsimp only at l16
            have HMq := hide_ l6
            have HGq := hide_ l8
            have HRq : Hid (RsN w0 rq M) := hide_ l7
            have HKq := hide_ l17
            have hQm : (Qq.map (·.1)).length = a.2.2.length := by rw [l16]
            have hQl : Qq.length ≤ 1000000000 := by simp at hQm; omega
            have HEq : Hid (Qq.map (·.1) ++ [(⟨x.k, x.n, 0, ps⟩ : Ty)] = a.2.2 ++ [mdT x a.1] ∧ (a.2.2.length : Int) = (Qq.length : Int)) := hide_ ⟨by rw [l16, HMd0.out, l15], by simp at hQm; omega⟩
            have HPt : Hid (PtIn wq w0.heap.size ps (.slice au ps.length cu)) := hide_ (POwn.ptIn l9)
            have hub : ∀ q, PBlk ((⟨x.k, x.n, 0, ps⟩ : Ty), .slice au ps.length cu) q → w.heap.size ≤ q := fun q hq => l13 q (POwn.pblk l9 hq)
            have hVg : ¬ vq.ownBlock = some w2.heap.size := l10
            clear hQm l2 l3 l4 l6 l7 l8 l9 l10 l13 l14 l15 l16 l17 hcu1 hT HFA
            go_upto_region 17 with fail
            clear hlt'
            obtain ⟨aV, cV, eV⟩ := HMq.out.slice
            subst eV
            have HMd := hide_ (HMq.out.later ((Below.refl wq.heap.size wq).drew))
            have hPd : PtIn wq.drew w0.heap.size (⟨x.k, x.n, 0, ps⟩ : Ty).ps (.slice au ps.length cu) := HPt.out.upd (Upd.of_below (S := fun _ => False) ((Below.refl wq.heap.size wq).drew)) (fun _ h => h.elim) (fun _ _ h => h.elim)
            obtain ⟨gT, cT, w7, r7, k7, m7, u7, b7⟩ := HMd.out.push (⟨x.k, x.n, 0, ps⟩ : Ty) (.slice au ps.length cu) rfl hPd hQl
            have HSS : Hid (∀ w', Below wq.heap.size wq w' → (fun w' => w'.cell? ⟨g, 0, none⟩ = some (.slice aV Qq.length cV) ∧ w'.cell? ⟨w2.heap.size, 0, none⟩ = some (.int .i64 x.k) ∧ w'.cell? ⟨w2.heap.size, 1, none⟩ = some (.int .i64 x.n) ∧ w'.cell? ⟨w2.heap.size, 2, none⟩ = some (.int .i64 0) ∧ w'.cell? ⟨w2.heap.size, 3, none⟩ = some (.slice au ps.length cu)) w') := hide_ (fun w' hb => by
              have y0 := (HMq.out.later hb).1.cell 0
              have z0 := (HGq.out.later hb).cell 0; have z1 := (HGq.out.later hb).cell 1; have z2 := (HGq.out.later hb).cell 2; have z3 := (HGq.out.later hb).cell 3
              simp at y0 z0 z1 z2 z3
              exact ⟨y0, z0, z1, z2, z3⟩)
            have kg7 : Blk w7 w2.heap.size 49 [.int .i64 x.k, .int .i64 x.n, .int .i64 0, .slice au ps.length cu] := (HGq.out.later ((Below.refl wq.heap.size wq).drew)).upd u7 hVg
            have HS7 : Hid ((fun w' => w'.cell? ⟨g, 0, none⟩ = some (.slice aV Qq.length cV) ∧ w'.cell? ⟨w2.heap.size, 0, none⟩ = some (.int .i64 x.k) ∧ w'.cell? ⟨w2.heap.size, 1, none⟩ = some (.int .i64 x.n) ∧ w'.cell? ⟨w2.heap.size, 2, none⟩ = some (.int .i64 0) ∧ w'.cell? ⟨w2.heap.size, 3, none⟩ = some (.slice au ps.length cu)) w7) := hide_ (by
              have y0 := k7.cell 0
              have z0 := kg7.cell 0; have z1 := kg7.cell 1; have z2 := kg7.cell 2; have z3 := kg7.cell 3
              simp at y0 z0 z1 z2 z3
              exact ⟨y0, z0, z1, z2, z3⟩)
            obtain ⟨n1, hn1⟩ : ∃ n1, n1 = Qq.length + 1 := ⟨_, rfl⟩
            rw [← hn1] at r7 m7
            have hkf := (HKq.out.then ((Below.refl wq.heap.size wq).drew)).push (n := n1) (c := cT) (t := (⟨x.k, x.n, 0, ps⟩ : Ty)) (u := .slice au ps.length cu) u7 b7 hub (.slice (some ⟨gT, 0, none⟩) n1 cT)
            obtain ⟨w9, hw9⟩ : ∃ wx, wx = w7.setCell ⟨g, 0, none⟩ (.slice (some ⟨gT, 0, none⟩) n1 cT) := ⟨_, rfl⟩
            rw [← hw9] at m7 hkf
            have y9 := m7.1.cell 0
            simp at y9
            have HR7 := hide_ r7
            have HK7 := hide_ k7
            have HM9 := hide_ m7
            have HK9 := hide_ hkf
            have hwr : IntKind.i64.wrap ((n1 : Int) - 1) = (n1 : Int) - 1 := i64wz _ (by omega)
            have hne : (n1 : Int) - 1 = (a.2.2.length : Int) := by rw [HEq.out.2, hn1]; omega
            clear r7 k7 m7 u7 b7 kg7 hPd hkf HMd hn1 HPt
            refine wp_region_last 10 (fun w' => w'.cell? ⟨g, 0, none⟩ = some (.slice aV Qq.length cV) ∧ w'.cell? ⟨w2.heap.size, 0, none⟩ = some (.int .i64 x.k) ∧ w'.cell? ⟨w2.heap.size, 1, none⟩ = some (.int .i64 x.n) ∧ w'.cell? ⟨w2.heap.size, 2, none⟩ = some (.int .i64 0) ∧ w'.cell? ⟨w2.heap.size, 3, none⟩ = some (.slice au ps.length cu)) (by kernel_rfl) (HSS.out _ ((Below.refl wq.heap.size wq).drew)) (fun hHeld => ?_)
            refine wpAnyF_take [10] (by kernel_rfl) (i := 0) (v := ?vz0_1) rfl (by kernel_rfl) (by kernel_rfl) (by kernel_rfl) (fun _ _ _ h => h) (Or.inl ⟨by kernel_rfl, ?hyz0_1⟩) hHeld ?restz0_1
            case hyz0_1 => intro w' hSw; (try dsimp only at hSw); go_simp; try with_reducible rfl
            simp only [Act.put]
            refine wpAnyF_take [10] (by kernel_rfl) (i := 1) (v := ?vz0_2) rfl (by kernel_rfl) (by kernel_rfl) (by kernel_rfl) (fun _ _ _ h => h) (Or.inl ⟨by kernel_rfl, ?hyz0_2⟩) hHeld ?restz0_2
            case hyz0_2 => intro w' hSw; (try dsimp only at hSw); go_simp; try with_reducible rfl
            simp only [Act.put]
            refine wpAnyF_take [10] (by kernel_rfl) (i := 2) (v := ?vz0_3) rfl (by kernel_rfl) (by kernel_rfl) (by kernel_rfl) (fun _ _ _ h => h) (Or.inl ⟨by kernel_rfl, ?hyz0_3⟩) hHeld ?restz0_3
            case hyz0_3 => intro w' hSw; (try dsimp only at hSw); go_simp; try with_reducible rfl
            simp only [Act.put]
            refine wpAnyF_take [10] (by kernel_rfl) (i := 3) (v := ?vz0_4) rfl (by kernel_rfl) (by kernel_rfl) (by kernel_rfl) (fun _ _ _ h => h) (Or.inl ⟨by kernel_rfl, ?hyz0_4⟩) hHeld ?restz0_4
            case hyz0_4 => intro w' hSw; (try dsimp only at hSw); go_simp; try with_reducible rfl
            simp only [Act.put]
            refine wpAnyF_take [10] (by kernel_rfl) (i := 4) (v := ?vz0_5) rfl (by kernel_rfl) (by kernel_rfl) (by kernel_rfl) (fun _ _ _ h => h) (Or.inl ⟨by kernel_rfl, ?hyz0_5⟩) hHeld ?restz0_5
            case hyz0_5 => intro w' hSw; (try dsimp only at hSw); go_simp; try with_reducible rfl
            simp only [Act.put]
            refine wpAnyF_take [10] (by kernel_rfl) (i := 5) (v := ?vz0_6) rfl (by kernel_rfl) (by kernel_rfl) (by kernel_rfl) (fun _ _ _ h => h) (Or.inl ⟨by kernel_rfl, ?hyz0_6⟩) hHeld ?restz0_6
            case hyz0_6 => intro w' hSw; (try dsimp only at hSw); go_simp; try with_reducible rfl
            simp only [Act.put]
            refine wpAnyF_ready (rs := [6]) (by kernel_rfl) (by simp) ?_
            refine AllReadyF.cons rfl (fun K hK => ?_) AllReadyF.nil
            go_simp
            refine hK.out _ _ (HSS.out _ (below_to ((Below.refl wq.heap.size wq).drew) (below1 wq.drew _))) (fun hHeld => ?_)
            clear hK K
            refine wpAnyF_ready (rs := [7]) (by kernel_rfl) (by simp) ?_
            refine AllReadyF.cons rfl (fun K hK => ?_) AllReadyF.nil
            refine step_append_run rfl (.tmp 62) (.tmp 64) 26 26 rfl (v := .slice aV Qq.length cV) (u := .slice (some ⟨wq.heap.size, 0, none⟩) 1 1) (by kernel_rfl) (by kernel_rfl) HR7.out ?_
            simp only [Act.put]
            refine hK.out _ _ (HS7.out) (fun hHeld => ?_)
            clear hK K
            refine wpAnyF_take [10, 9] (by kernel_rfl) (i := 8) (v := ?vz0_7) rfl (by kernel_rfl) (by kernel_rfl) (by kernel_rfl) (fun _ _ _ h => h) (Or.inl ⟨by kernel_rfl, ?hyz0_7⟩) hHeld ?restz0_7
            case hyz0_7 => intro w' hSw; (try dsimp only at hSw); go_simp; try with_reducible rfl
            simp only [Act.put]
            refine wpAnyF_take [10] (by kernel_rfl) (i := 9) (v := ?vz0_8) rfl (by kernel_rfl) (by kernel_rfl) (by kernel_rfl) (fun _ _ _ h => h) (Or.inl ⟨by kernel_rfl, ?hyz0_8⟩) hHeld ?restz0_8
            case hyz0_8 => intro w' hSw; (try dsimp only at hSw); go_simp; try with_reducible rfl
            simp only [Act.put]
            refine wpAnyF_ready (rs := [10]) (by kernel_rfl) (by simp) ?_
            refine AllReadyF.last rfl (fun K hK => ?_)
            have q0 := HK7.out.cell 0; have qz := HK7.out.frozen 0
            simp at q0
            go_simp
            refine hK.out _ _ ?_
            clear hK K
            refine wpAnyF_done (by kernel_rfl) ?_ _
            rw [← hw9]
            clear hw9 HSS HS7 HR7
            go_wp2_with fail
            go_ret
            exact TnTo.mk HA.out _ _ rq _ (by rw [if_neg h9] <;> first | exact HEq.out.2.symm | exact hne) HM9 HRq (by rw [if_neg h9, ← HEq.out.1]; try simp) HK9
      · go_wp2_with fail
        go_loopw [48] (fun x48 wr => ∃ j : Nat, j ≤ m ∧ x48 = .int .i64 (j : Int) ∧ Hid (LpB w0 g bm nm kn f d x A M v Q w w2.heap.size j wr)) (fun x48 _ => m - (intOf x48).toNat)
        case atStart => exact ⟨0, Nat.zero_le _, rfl, HL0⟩
        case round =>
          obtain ⟨j, hj, rfl, HL⟩ := hrel
          generalize wr = wq at *
          clear HL0
          obtain ⟨fj, Aj, vq, rq, u, Qq, ps, l1, l2, l3, l4, l5, l6, l7, l8, l9, l10, l11, l12, l13, l14, l15, l16, l17⟩ := HL.out
          clear HL
          obtain ⟨au, cu, eu, hcu1, -, -⟩ := own_grow ptc_len l9
          subst l5
          subst eu
          by_cases hlt : ps.length < m
          · have hlt' : (ps.length : Int) < (m : Int) := by omega
            rw [← Hm.out] at l2 l15 l16
            obtain ⟨n', hn'⟩ : ∃ n', m - ps.length = n' + 1 := ⟨m - ps.length - 1, by omega⟩
            rw [hn'] at l2 l15 l16
            obtain ⟨f', y, A1, B1, rfl, rfl, hFy, hFB⟩ := forest_succ l2
            have D0 : Below wq.heap.size wq wq.drew := (Below.refl wq.heap.size wq).drew
            have hRy : RsN w0 rq (y :: A1 ++ (B1 ++ M)) := by rw [← List.append_assoc]; exact l7
            have hly : Qq.length + (A1.length + 1) ≤ 1000000000 := by simp at l4; omega
            have HNp := hide_ (np_any (hT (f' + 1) l1) y A1 (B1 ++ M) vq Qq rq wq.drew (hide_ hFy) (hide_ (fun z hz => l3 z (List.mem_append_left _ hz))) hly (hide_ (l6.later D0)) (hide_ hRy))
            have HS0 : Hid ((fun w' => w'.cell? ⟨w2.heap.size, 3, none⟩ = some (.slice au ps.length cu)) wq.drew) := hide_ (by have := (l8.later D0).cell 3; simpa using this)
            have HMq := hide_ l6
            have HGq := hide_ l8
            have HPq := hide_ l9
            have Hu1 := hide_ l13
            have Hu2 := hide_ l14
            have Hl3 := hide_ l3
            have Hl4 := hide_ l4
            have HFB := hide_ hFB
            have HFy := hide_ hFy
            have HKq := hide_ l17
            have HE1 := hide_ l15
            have HE2 := hide_ l16
            have Hn' := hide_ hn'
            clear l2 l3 l4 l6 l7 l8 l9 l13 l14 l15 l16 l17 hFy hFB hRy hly D0 hcu1 hn'
            go_upto_region 15 with fail
            refine wp_region_last 7 (fun w' => w'.cell? ⟨w2.heap.size, 3, none⟩ = some (.slice au ps.length cu)) (by kernel_rfl) (HS0.out) (fun hHeld => ?_)
            refine wpAnyF_take [7] (by kernel_rfl) (i := 0) (v := ?vp1_1) rfl (by kernel_rfl) (by kernel_rfl) (by kernel_rfl) (fun _ _ _ h => h) (Or.inl ⟨by kernel_rfl, ?hyp1_1⟩) hHeld ?restp1_1
            case hyp1_1 => intro w' hSw; (try dsimp only at hSw); go_simp; try with_reducible rfl
            simp only [Act.put]
            refine wpAnyF_take [7] (by kernel_rfl) (i := 1) (v := ?vp1_2) rfl (by kernel_rfl) (by kernel_rfl) (by kernel_rfl) (fun _ _ _ h => h) (Or.inl ⟨by kernel_rfl, ?hyp1_2⟩) hHeld ?restp1_2
            case hyp1_2 => intro w' hSw; (try dsimp only at hSw); go_simp; try with_reducible rfl
            simp only [Act.put]
            refine wpAnyF_take [7] (by kernel_rfl) (i := 2) (v := ?vp1_3) rfl (by kernel_rfl) (by kernel_rfl) (by kernel_rfl) (fun _ _ _ h => h) (Or.inl ⟨by kernel_rfl, ?hyp1_3⟩) hHeld ?restp1_3
            case hyp1_3 => intro w' hSw; (try dsimp only at hSw); go_simp; try with_reducible rfl
            simp only [Act.put]
            refine wpAnyF_ready (rs := [3]) (by kernel_rfl) (by simp) ?_
            refine AllReadyF.cons rfl (fun K hK => ?_) AllReadyF.nil
            go_simp
            refine HNp.out.mono ?_
            rintro e w6 ⟨v6, Q6, r6, he, HM6, HR6, HQ6, HK6⟩
            obtain ⟨nu, hnu⟩ : ∃ nu, nu = ((bF kn (f' + 1) 1 (y :: A1 ++ (B1 ++ M)) (Qq.map (·.1))).1.headD pt0).ty := ⟨_, rfl⟩
            rw [← hnu] at he
            subst he
            have HNu := hide_ hnu
            clear hnu HNp HS0
            dsimp only
            have D0 : Below wq.heap.size wq wq.drew := (Below.refl wq.heap.size wq).drew
            have hG6 := HK6.out.blk (HGq.out.later D0) l11 l10
            have hP6 := HK6.out.pown (HMq.out.later D0) (POwn.later HPq.out D0)
            have hV6 : v6.ownBlock ≠ some w2.heap.size := fun e => by
              rcases HK6.out.2.1 _ e with h | h
              · exact l10 h
              · have := HGq.out.lt; have h3 : wq.drew.heap.size = wq.heap.size := rfl; omega
            have hQu : ∀ p ∈ Q6, ∀ q, (Value.slice au ps.length cu).ownBlock = some q → ¬ PBlk p q := fun p hp q hq hb => by
              rcases HK6.out.2.2 p hp with h | h
              · exact Hu2.out p h q hq hb
              · have := h q hb; have h2 := (World.ownsRow.lt HPq.out q hq).2; have h3 : wq.drew.heap.size = wq.heap.size := rfl; omega
            obtain ⟨g7, c7, w7, r7, p7, u7, b7⟩ := hP6.push2 (⟨y.label, y.tag, nu⟩ : Ptz) (by omega) HM6.out.size
            have hgu : ¬ (Value.slice au ps.length cu).ownBlock = some w2.heap.size := fun e => by
              obtain ⟨ys, hy⟩ := ownS_type hP6 e
              exact absurd (blk_type hy hG6) (by decide)
            have hG7 := hG6.upd u7 hgu
            have HSS : Hid (∀ w', Below w6.heap.size w6 w' → (fun w' => w'.cell? ⟨w2.heap.size, 3, none⟩ = some (.slice au ps.length cu)) w') := hide_ (fun w' hb => by have := (hG6.later hb).cell 3; simpa using this)
            have HS7 : Hid ((fun w' => w'.cell? ⟨w2.heap.size, 3, none⟩ = some (.slice au ps.length cu)) w7) := hide_ (by have := hG7.cell 3; simpa using this)
            obtain ⟨w8, hw8⟩ : ∃ wx, wx = w7.setCell ⟨w2.heap.size, 3, none⟩ (.slice (some ⟨g7, 0, none⟩) (ps.length + 1) c7) := ⟨_, rfl⟩
            have u8 : Upd (fun q => q = w2.heap.size) w7 w8 := by rw [hw8]; exact (Upd.refl _ w7).set _ _ (.inl rfl)
            have M7 := HM6.out.updP hP6 (Nat.le_refl _) u7 hQu
            have M8 := M7.updN u8 hG7 (by have := HMq.out.size; have := HMq.out.2.2.2.2.1; have h4 := HM6.out.size; exact Nat.le_trans hw0s l12) hV6 (by decide) l11
            have hG8 : Blk w8 w2.heap.size 49 [.int .i64 x.k, .int .i64 x.n, .int .i64 0, .slice (some ⟨g7, 0, none⟩) (ps.length + 1) c7] := by rw [hw8]; have := hG7.set 3 (.slice (some ⟨g7, 0, none⟩) (ps.length + 1) c7); simpa using this
            have hP8 : POwn w8 w0.heap.size (.slice (some ⟨g7, 0, none⟩) (ps.length + 1) c7) (ps ++ [⟨y.label, y.tag, nu⟩]) := ownS_upd p7 u8 (fun k hk e => by
              subst e
              obtain ⟨ys, hy⟩ := ownS_type p7 hk
              exact absurd (blk_type hy hG7) (by decide))
            have hbk : Bkg g v v6 Q Q6 w w8 := ((HKq.out.trans (Bkg.pre D0 HK6.out)).newU u7 (fun k e => Hu1.out k e)).newU u8 (fun k e => by omega)
            have hone : (bF kn (f' + 1) 1 (y :: A1 ++ (B1 ++ M)) (Qq.map (·.1))).1 = [⟨y.label, y.tag, nu⟩] := by
              rw [HNu.out, show y :: A1 ++ (B1 ++ M) = y :: (A1 ++ (B1 ++ M)) from rfl, bF_one]
              rfl
            have hres := bF_rest kn (f' + 1) (d + 1) x.k 1 (y :: A1) HFy.out (B1 ++ M) (Qq.map (·.1))
            have hlen := (bF_len kn (f' + 1) (d + 1) x.k 1 (y :: A1) HFy.out (B1 ++ M) (Qq.map (·.1))).2.1
            have hcs : bF kn (f' + 1) (n' + 1) (y :: A1 ++ B1 ++ M) (Qq.map (·.1)) = ([⟨y.label, y.tag, nu⟩] ++ (bF kn f' n' (B1 ++ M) (Q6.map (·.1))).1, (bF kn f' n' (B1 ++ M) (Q6.map (·.1))).2) := by
              have e := bF_cons kn f' n' y (A1 ++ (B1 ++ M)) (Qq.map (·.1))
              rw [show y :: (A1 ++ (B1 ++ M)) = y :: A1 ++ (B1 ++ M) from rfl, hone, hres, ← HQ6.out] at e
              rw [List.append_assoc]
              exact e
            have hn9 : x.kids.toNat - (ps.length + 1) = n' := by rw [← Hm.out]; have := Hn'.out; omega
            have HL8 : Hid (LpB w0 g bm nm kn f d x A M v Q w w2.heap.size (ps.length + 1) w8) := hide_ ⟨f', B1, v6, r6, .slice (some ⟨g7, 0, none⟩) (ps.length + 1) c7, Q6, ps ++ [⟨y.label, y.tag, nu⟩], by omega, by rw [hn9]; exact HFB.out, fun z hz => Hl3.out z (List.mem_append_right _ hz), by
                have h1 : Q6.length ≤ Qq.length + (A1.length + 1) := by
                  have h2 := congrArg List.length HQ6.out
                  simp only [List.length_map, List.length_cons] at h2 hlen
                  omega
                have h3 := Hl4.out
                simp at h3
                omega, by simp, M8, HR6.out, hG8, hP8, hV6, l11, l12, (fun q e => by
                  have e2 := own_is e
                  subst e2
                  rcases b7 with b | b
                  · exact Hu1.out _ b
                  · have h1 := HKq.out.1.size; have h2 := HK6.out.1.size; have h3 : wq.drew.heap.size = wq.heap.size := rfl; omega), (fun p hp q e hb => by
                  have e2 := own_is e
                  subst e2
                  rcases b7 with b | b
                  · exact hQu p hp _ b hb
                  · have := HM6.out.pblk hp hb; omega), by
                  rw [hn9, ← Hm.out, ← HE1.out, hcs]
                  simp, by
                  rw [hn9, ← Hm.out, ← HE2.out, hcs], hbk⟩
            have HR7 := hide_ r7
            have HG7 := hide_ hG7
            clear r7 hG7 p7 u7 b7 u8 M7 M8 hG8 hP8 hbk hone hres hlen hcs hQu hV6 hG6 hP6 D0 hgu HE1 HE2 HR6 HQ6 HK6 HM6 HNu hn9
            refine hK.out _ _ (HSS.out _ (Below.refl _ _)) (fun hHeld => ?_)
            clear hK K
            refine wpAnyF_ready (rs := [4]) (by kernel_rfl) (by simp) ?_
            refine AllReadyF.cons rfl (fun K hK => ?_) AllReadyF.nil
            go_simp
            refine hK.out _ _ (HSS.out _ (below1 w6 _)) (fun hHeld => ?_)
            clear hK K
            refine wpAnyF_ready (rs := [5]) (by kernel_rfl) (by simp) ?_
            refine AllReadyF.cons rfl (fun K hK => ?_) AllReadyF.nil
            refine step_append_run rfl (.tmp 51) (.tmp 54) 47 47 rfl (v := .slice au ps.length cu) (u := .slice (some ⟨w6.heap.size, 0, none⟩) 1 1) (by kernel_rfl) (by kernel_rfl) HR7.out ?_
            simp only [Act.put]
            refine hK.out _ _ (HS7.out) (fun hHeld => ?_)
            clear hK K
            refine wpAnyF_take [7] (by kernel_rfl) (i := 6) (v := ?vp1_4) rfl (by kernel_rfl) (by kernel_rfl) (by kernel_rfl) (fun _ _ _ h => h) (Or.inl ⟨by kernel_rfl, ?hyp1_4⟩) hHeld ?restp1_4
            case hyp1_4 => intro w' hSw; (try dsimp only at hSw); go_simp; try with_reducible rfl
            simp only [Act.put]
            refine wpAnyF_ready (rs := [7]) (by kernel_rfl) (by simp) ?_
            refine AllReadyF.last rfl (fun K hK => ?_)
            have q3 := HG7.out.cell 3; have qz := HG7.out.frozen 3
            simp at q3
            go_simp
            refine hK.out _ _ ?_
            clear hK K
            refine wpAnyF_done (by kernel_rfl) ?_ _
            rw [← hw8]
            clear hw8 HSS HS7 HR7
            go_wp2_with fail
            go_roundw
            case rel => exact ⟨ps.length + 1, by omega, by go_num, HL8⟩
            case measure => simp [intOf]; omega
          · obtain rfl : ps.length = m := by omega
            have hlt' : ¬ ((ps.length : Int) < (ps.length : Int)) := by omega
            have hA0 : Aj = [] := forest_zero (fu := fj) (d := d + 1) (k := x.k) (by rw [← Hm.out, Nat.sub_self] at l2; exact l2)
            subst hA0
            rw [← Hm.out, Nat.sub_self, bF_zero] at l15 l16
            rw [Hm.out, ← HA.out, List.append_nil] at l15
            rw [Hm.out, ← HA.out] at l16
            dsimp only at l16
            have HMq := hide_ l6
            have HGq := hide_ l8
            have HRq : Hid (RsN w0 rq M) := hide_ l7
            have HKq := hide_ l17
            have hQm : (Qq.map (·.1)).length = a.2.2.length := by rw [l16]
            have hQl : Qq.length ≤ 1000000000 := by simp at hQm; omega
            have HEq : Hid (Qq.map (·.1) ++ [(⟨x.k, x.n, 0, ps⟩ : Ty)] = a.2.2 ++ [mdT x a.1] ∧ (a.2.2.length : Int) = (Qq.length : Int)) := hide_ ⟨by rw [l16, HMd0.out, l15], by simp at hQm; omega⟩
            have HPt : Hid (PtIn wq w0.heap.size ps (.slice au ps.length cu)) := hide_ (POwn.ptIn l9)
            have hub : ∀ q, PBlk ((⟨x.k, x.n, 0, ps⟩ : Ty), .slice au ps.length cu) q → w.heap.size ≤ q := fun q hq => l13 q (POwn.pblk l9 hq)
            have hVg : ¬ vq.ownBlock = some w2.heap.size := l10
            clear hQm l2 l3 l4 l6 l7 l8 l9 l10 l13 l14 l15 l16 l17 hcu1 hT HFA
            go_upto_region 17 with fail
            clear hlt'
            obtain ⟨aV, cV, eV⟩ := HMq.out.slice
            subst eV
            have HMd := hide_ (HMq.out.later ((Below.refl wq.heap.size wq).drew))
            have hPd : PtIn wq.drew w0.heap.size (⟨x.k, x.n, 0, ps⟩ : Ty).ps (.slice au ps.length cu) := HPt.out.upd (Upd.of_below (S := fun _ => False) ((Below.refl wq.heap.size wq).drew)) (fun _ h => h.elim) (fun _ _ h => h.elim)
            obtain ⟨gT, cT, w7, r7, k7, m7, u7, b7⟩ := HMd.out.push (⟨x.k, x.n, 0, ps⟩ : Ty) (.slice au ps.length cu) rfl hPd hQl
            have HSS : Hid (∀ w', Below wq.heap.size wq w' → (fun w' => w'.cell? ⟨g, 0, none⟩ = some (.slice aV Qq.length cV) ∧ w'.cell? ⟨w2.heap.size, 0, none⟩ = some (.int .i64 x.k) ∧ w'.cell? ⟨w2.heap.size, 1, none⟩ = some (.int .i64 x.n) ∧ w'.cell? ⟨w2.heap.size, 2, none⟩ = some (.int .i64 0) ∧ w'.cell? ⟨w2.heap.size, 3, none⟩ = some (.slice au ps.length cu)) w') := hide_ (fun w' hb => by
              have y0 := (HMq.out.later hb).1.cell 0
              have z0 := (HGq.out.later hb).cell 0; have z1 := (HGq.out.later hb).cell 1; have z2 := (HGq.out.later hb).cell 2; have z3 := (HGq.out.later hb).cell 3
              simp at y0 z0 z1 z2 z3
              exact ⟨y0, z0, z1, z2, z3⟩)
            have kg7 : Blk w7 w2.heap.size 49 [.int .i64 x.k, .int .i64 x.n, .int .i64 0, .slice au ps.length cu] := (HGq.out.later ((Below.refl wq.heap.size wq).drew)).upd u7 hVg
            have HS7 : Hid ((fun w' => w'.cell? ⟨g, 0, none⟩ = some (.slice aV Qq.length cV) ∧ w'.cell? ⟨w2.heap.size, 0, none⟩ = some (.int .i64 x.k) ∧ w'.cell? ⟨w2.heap.size, 1, none⟩ = some (.int .i64 x.n) ∧ w'.cell? ⟨w2.heap.size, 2, none⟩ = some (.int .i64 0) ∧ w'.cell? ⟨w2.heap.size, 3, none⟩ = some (.slice au ps.length cu)) w7) := hide_ (by
              have y0 := k7.cell 0
              have z0 := kg7.cell 0; have z1 := kg7.cell 1; have z2 := kg7.cell 2; have z3 := kg7.cell 3
              simp at y0 z0 z1 z2 z3
              exact ⟨y0, z0, z1, z2, z3⟩)
            obtain ⟨n1, hn1⟩ : ∃ n1, n1 = Qq.length + 1 := ⟨_, rfl⟩
            rw [← hn1] at r7 m7
            have hkf := (HKq.out.then ((Below.refl wq.heap.size wq).drew)).push (n := n1) (c := cT) (t := (⟨x.k, x.n, 0, ps⟩ : Ty)) (u := .slice au ps.length cu) u7 b7 hub (.slice (some ⟨gT, 0, none⟩) n1 cT)
            obtain ⟨w9, hw9⟩ : ∃ wx, wx = w7.setCell ⟨g, 0, none⟩ (.slice (some ⟨gT, 0, none⟩) n1 cT) := ⟨_, rfl⟩
            rw [← hw9] at m7 hkf
            have y9 := m7.1.cell 0
            simp at y9
            have HR7 := hide_ r7
            have HK7 := hide_ k7
            have HM9 := hide_ m7
            have HK9 := hide_ hkf
            have hwr : IntKind.i64.wrap ((n1 : Int) - 1) = (n1 : Int) - 1 := i64wz _ (by omega)
            have hne : (n1 : Int) - 1 = (a.2.2.length : Int) := by rw [HEq.out.2, hn1]; omega
            clear r7 k7 m7 u7 b7 kg7 hPd hkf HMd hn1 HPt
            refine wp_region_last 10 (fun w' => w'.cell? ⟨g, 0, none⟩ = some (.slice aV Qq.length cV) ∧ w'.cell? ⟨w2.heap.size, 0, none⟩ = some (.int .i64 x.k) ∧ w'.cell? ⟨w2.heap.size, 1, none⟩ = some (.int .i64 x.n) ∧ w'.cell? ⟨w2.heap.size, 2, none⟩ = some (.int .i64 0) ∧ w'.cell? ⟨w2.heap.size, 3, none⟩ = some (.slice au ps.length cu)) (by kernel_rfl) (HSS.out _ ((Below.refl wq.heap.size wq).drew)) (fun hHeld => ?_)
            refine wpAnyF_take [10] (by kernel_rfl) (i := 0) (v := ?vz1_1) rfl (by kernel_rfl) (by kernel_rfl) (by kernel_rfl) (fun _ _ _ h => h) (Or.inl ⟨by kernel_rfl, ?hyz1_1⟩) hHeld ?restz1_1
            case hyz1_1 => intro w' hSw; (try dsimp only at hSw); go_simp; try with_reducible rfl
            simp only [Act.put]
            refine wpAnyF_take [10] (by kernel_rfl) (i := 1) (v := ?vz1_2) rfl (by kernel_rfl) (by kernel_rfl) (by kernel_rfl) (fun _ _ _ h => h) (Or.inl ⟨by kernel_rfl, ?hyz1_2⟩) hHeld ?restz1_2
            case hyz1_2 => intro w' hSw; (try dsimp only at hSw); go_simp; try with_reducible rfl
            simp only [Act.put]
            refine wpAnyF_take [10] (by kernel_rfl) (i := 2) (v := ?vz1_3) rfl (by kernel_rfl) (by kernel_rfl) (by kernel_rfl) (fun _ _ _ h => h) (Or.inl ⟨by kernel_rfl, ?hyz1_3⟩) hHeld ?restz1_3
            case hyz1_3 => intro w' hSw; (try dsimp only at hSw); go_simp; try with_reducible rfl
            simp only [Act.put]
            refine wpAnyF_take [10] (by kernel_rfl) (i := 3) (v := ?vz1_4) rfl (by kernel_rfl) (by kernel_rfl) (by kernel_rfl) (fun _ _ _ h => h) (Or.inl ⟨by kernel_rfl, ?hyz1_4⟩) hHeld ?restz1_4
            case hyz1_4 => intro w' hSw; (try dsimp only at hSw); go_simp; try with_reducible rfl
            simp only [Act.put]
            refine wpAnyF_take [10] (by kernel_rfl) (i := 4) (v := ?vz1_5) rfl (by kernel_rfl) (by kernel_rfl) (by kernel_rfl) (fun _ _ _ h => h) (Or.inl ⟨by kernel_rfl, ?hyz1_5⟩) hHeld ?restz1_5
            case hyz1_5 => intro w' hSw; (try dsimp only at hSw); go_simp; try with_reducible rfl
            simp only [Act.put]
            refine wpAnyF_take [10] (by kernel_rfl) (i := 5) (v := ?vz1_6) rfl (by kernel_rfl) (by kernel_rfl) (by kernel_rfl) (fun _ _ _ h => h) (Or.inl ⟨by kernel_rfl, ?hyz1_6⟩) hHeld ?restz1_6
            case hyz1_6 => intro w' hSw; (try dsimp only at hSw); go_simp; try with_reducible rfl
            simp only [Act.put]
            refine wpAnyF_ready (rs := [6]) (by kernel_rfl) (by simp) ?_
            refine AllReadyF.cons rfl (fun K hK => ?_) AllReadyF.nil
            go_simp
            refine hK.out _ _ (HSS.out _ (below_to ((Below.refl wq.heap.size wq).drew) (below1 wq.drew _))) (fun hHeld => ?_)
            clear hK K
            refine wpAnyF_ready (rs := [7]) (by kernel_rfl) (by simp) ?_
            refine AllReadyF.cons rfl (fun K hK => ?_) AllReadyF.nil
            refine step_append_run rfl (.tmp 62) (.tmp 64) 26 26 rfl (v := .slice aV Qq.length cV) (u := .slice (some ⟨wq.heap.size, 0, none⟩) 1 1) (by kernel_rfl) (by kernel_rfl) HR7.out ?_
            simp only [Act.put]
            refine hK.out _ _ (HS7.out) (fun hHeld => ?_)
            clear hK K
            refine wpAnyF_take [10, 9] (by kernel_rfl) (i := 8) (v := ?vz1_7) rfl (by kernel_rfl) (by kernel_rfl) (by kernel_rfl) (fun _ _ _ h => h) (Or.inl ⟨by kernel_rfl, ?hyz1_7⟩) hHeld ?restz1_7
            case hyz1_7 => intro w' hSw; (try dsimp only at hSw); go_simp; try with_reducible rfl
            simp only [Act.put]
            refine wpAnyF_take [10] (by kernel_rfl) (i := 9) (v := ?vz1_8) rfl (by kernel_rfl) (by kernel_rfl) (by kernel_rfl) (fun _ _ _ h => h) (Or.inl ⟨by kernel_rfl, ?hyz1_8⟩) hHeld ?restz1_8
            case hyz1_8 => intro w' hSw; (try dsimp only at hSw); go_simp; try with_reducible rfl
            simp only [Act.put]
            refine wpAnyF_ready (rs := [10]) (by kernel_rfl) (by simp) ?_
            refine AllReadyF.last rfl (fun K hK => ?_)
            have q0 := HK7.out.cell 0; have qz := HK7.out.frozen 0
            simp at q0
            go_simp
            refine hK.out _ _ ?_
            clear hK K
            refine wpAnyF_done (by kernel_rfl) ?_ _
            rw [← hw9]
            clear hw9 HSS HS7 HR7
            go_wp2_with fail
            go_ret
            exact TnTo.mk HA.out _ _ rq _ (by rw [if_neg h9] <;> first | exact HEq.out.2.symm | exact hne) HM9 HRq (by rw [if_neg h9, ← HEq.out.1]; try simp) HK9
end Go.Proofs.YtbgjgbddpcofcaaGreatDoor
