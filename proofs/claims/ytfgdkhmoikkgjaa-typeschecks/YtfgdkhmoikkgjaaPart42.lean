import Derived.Test.YtfgdkhmoikkgjaaPart41
import Derived.Test.YtfgdkhmoikkgjaaPart02

/- types.Build: nextPart, typeOfNext. -/
namespace Go.Proofs.Ytfgdkhmoikkgjaa
open Go.RowKit
set_option linter.unusedVariables false

/-- What typeOfNext answers of a tree N with M behind it. -/
def TnTo (w0 : World) (g bm nm : Nat) (kn : ByteArray → Option Nat) (fu : Nat) (N M : List Nd) (v : Value) (Q : List (Ty × Value)) (w : World) (e : Ending) (w' : World) : Prop :=
  ∃ v' Q' r', e = .returned (.int .i64 ((bF kn fu 1 (N ++ M) (Q.map (·.1))).1.headD pt0).ty) ∧ Hid (BdM w0 w' g bm nm v' Q' kn r') ∧ Hid (RsN w0 r' M) ∧ Hid (Q'.map (·.1) = (bF kn fu 1 (N ++ M) (Q.map (·.1))).2.2) ∧ Hid (Bk g v v' Q Q' w w')
def TnC (w0 : World) (g bm nm : Nat) (kn : ByteArray → Option Nat) (fu : Nat) : Prop :=
  ∀ (d : Nat) (k : Int) (N M : List Nd) (v : Value) (Q : List (Ty × Value)) (r : Value) (w : World), Forest fu d k 1 N → (∀ y ∈ N, NodeOk1 y) → Q.length + N.length ≤ 1000000000 → Hid (BdM w0 w g bm nm v Q kn r) → Hid (RsN w0 r (N ++ M)) →
    Calls Try.prog 38 #[.pointer (some ⟨g, 0, none⟩)] w fun e w' => TnTo w0 g bm nm kn fu N M v Q w e w'
def NpTo (w0 : World) (g bm nm : Nat) (kn : ByteArray → Option Nat) (fu : Nat) (x : Nd) (A M : List Nd) (v : Value) (Q : List (Ty × Value)) (w : World) (e : Ending) (w' : World) : Prop :=
  ∃ v' Q' r', e = .returned (.agg #[.string x.label, .int .i64 x.tag, .int .i64 ((bF kn fu 1 (x :: A ++ M) (Q.map (·.1))).1.headD pt0).ty]) ∧ Hid (BdM w0 w' g bm nm v' Q' kn r') ∧ Hid (RsN w0 r' M) ∧ Hid (Q'.map (·.1) = (bF kn fu 1 (x :: A ++ M) (Q.map (·.1))).2.2) ∧ Hid (Bk g v v' Q Q' w w')
set_option maxRecDepth 100000 in
set_option maxHeartbeats 8000000 in
theorem np_any {w0 : World} {g bm nm fu d : Nat} {k : Int} {kn : ByteArray → Option Nat} (hT : Hid (TnC w0 g bm nm kn fu)) (x : Nd) (A M : List Nd) (v : Value) (Q : List (Ty × Value)) (r : Value) (w : World) (hF : Hid (Forest fu d k 1 (x :: A))) (hok : Hid (∀ y ∈ x :: A, NodeOk1 y)) (hl : Q.length + (A.length + 1) ≤ 1000000000) (hM : Hid (BdM w0 w g bm nm v Q kn r)) (hR : Hid (RsN w0 r (x :: A ++ M))) :
    Calls Try.prog 55 #[.pointer (some ⟨g, 0, none⟩)] w fun e w' => NpTo w0 g bm nm kn fu x A M v Q w e w' := by
  obtain ⟨b, o, c, e0, hc, hb, hcl, -⟩ := RsN.open (N := A ++ M) hR.out
  subst e0
  obtain ⟨n, hn⟩ : ∃ n, n = (A ++ M).length + 1 := ⟨_, rfl⟩
  rw [← hn] at hM hR
  have hn0 : (0 : Int) < (n : Int) := by omega
  obtain ⟨w1, hw1⟩ : ∃ wx, wx = w.alloc (.cells #[.string ⟨#[]⟩, .int .i64 0, .int .i64 0] 53) := ⟨_, rfl⟩
  have hB1 : Below w.heap.size w w1 := by rw [hw1]; exact (Below.refl _ _).alloc (Nat.le_refl _) _
  have kr : Blk w1 w.heap.size 53 [.string ⟨#[]⟩, .int .i64 0, .int .i64 0] := by rw [hw1]; exact Blk.newA w _ _
  have M1 := hM.out.later hB1
  have c2 := M1.1.cell 2
  simp at c2
  have hcl1 := hcl w1 M1.2.2.2.1
  have i0 : w1.cell? ⟨b, o, none⟩ = some (.int .i64 x.k) := by have := hcl1 0 (by decide); simpa [ndc] using this
  have i1 : w1.cell? ⟨b, o + 1, none⟩ = some (.int .i64 x.n) := by have := hcl1 1 (by decide); simpa [ndc] using this
  have i2 : w1.cell? ⟨b, o + 2, none⟩ = some (.string x.name) := by have := hcl1 2 (by decide); simpa [ndc] using this
  have i3 : w1.cell? ⟨b, o + 3, none⟩ = some (.string x.label) := by have := hcl1 3 (by decide); simpa [ndc] using this
  have i4 : w1.cell? ⟨b, o + 4, none⟩ = some (.int .i64 x.tag) := by have := hcl1 4 (by decide); simpa [ndc] using this
  have i5 : w1.cell? ⟨b, o + 5, none⟩ = some (.int .i64 x.kids) := by have := hcl1 5 (by decide); simpa [ndc] using this
  have i6 : w1.cell? ⟨b, o + 6, none⟩ = some (.int .i64 x.a) := by have := hcl1 6 (by decide); simpa [ndc] using this
  obtain ⟨w2, hw2⟩ : ∃ wx, wx = w1.alloc (.cells #[.int .i64 x.k, .int .i64 x.n, .string x.name, .string x.label, .int .i64 x.tag, .int .i64 x.kids, .int .i64 x.a] 40) := ⟨_, rfl⟩
  have hB2 : Below w1.heap.size w1 w2 := by rw [hw2]; exact (Below.refl _ _).alloc (Nat.le_refl _) _
  have kx : Blk w2 w1.heap.size 40 (ndc x) := by rw [hw2]; exact Blk.newA w1 _ _
  have KX := hide_ kx
  have KR := hide_ (kr.later hB2)
  have HM2 := hide_ (M1.later hB2)
  have HB2 := hide_ (below_to hB1 hB2)
  have HMw := hide_ hM.out
  have HBw := hide_ hM.out.2.2.2.1
  have hx := hok.out x (List.mem_cons_self ..)
  have hls : x.label.size ≤ 65536 := by have := hx.1; omega
  have HTn : Hid (∀ wx, Below w2.heap.size w2 wx → Calls Try.prog 38 #[.pointer (some ⟨g, 0, none⟩)] wx fun e w' => TnTo w0 g bm nm kn fu (x :: A) M v Q wx e w') := hide_ (fun wx hb => hT.out d k (x :: A) M v Q _ wx hF.out hok.out (by simp; omega) (hide_ (HM2.out.later hb)) (hide_ hR.out))
  have HSS : Hid (∀ w', Below w2.heap.size w2 w' → (fun w' => w'.cell? ⟨w1.heap.size, 3, none⟩ = some (.string x.label) ∧ w'.cell? ⟨w1.heap.size, 4, none⟩ = some (.int .i64 x.tag)) w') := hide_ (fun w' hb => ⟨by have := (KX.out.later hb).cell 3; simpa [ndc] using this, by have := (KX.out.later hb).cell 4; simpa [ndc] using this⟩)
  have HCl := hide_ (clone_any x.label w2.drew hls)
  clear hx hls kx kr M1 hcl hcl1 hB1 hB2 hT hF hok hM hR
  go_enter Try.func55, Try.ntmps55
  go_upto_region 1 with fail
  rw [← hw1]
  clear hw1
  go_upto_region 2 with fail
  rw [← hw2]
  clear hw2 c2 i0 i1 i2 i3 i4 i5 i6 hn0
  refine wp_region_last 8 (fun w' => w'.cell? ⟨w1.heap.size, 3, none⟩ = some (.string x.label) ∧ w'.cell? ⟨w1.heap.size, 4, none⟩ = some (.int .i64 x.tag)) (by kernel_rfl) (HSS.out _ ((Below.refl w2.heap.size w2).drew)) (fun hHeld => ?_)
  refine wpAnyF_take [8] (by kernel_rfl) (i := 0) (v := ?vn1) rfl (by kernel_rfl) (by kernel_rfl) (by kernel_rfl) (fun _ _ _ h => h) (Or.inl ⟨by kernel_rfl, ?hyn1⟩) hHeld ?restn1
  case hyn1 => intro w' hSw; (try dsimp only at hSw); go_simp; try with_reducible rfl
  simp only [Act.put]
  refine wpAnyF_take [8] (by kernel_rfl) (i := 1) (v := ?vn2) rfl (by kernel_rfl) (by kernel_rfl) (by kernel_rfl) (fun _ _ _ h => h) (Or.inl ⟨by kernel_rfl, ?hyn2⟩) hHeld ?restn2
  case hyn2 => intro w' hSw; (try dsimp only at hSw); go_simp; try with_reducible rfl
  simp only [Act.put]
  refine wpAnyF_take [8] (by kernel_rfl) (i := 3) (v := ?vn3) rfl (by kernel_rfl) (by kernel_rfl) (by kernel_rfl) (fun _ _ _ h => h) (Or.inl ⟨by kernel_rfl, ?hyn3⟩) hHeld ?restn3
  case hyn3 => intro w' hSw; (try dsimp only at hSw); go_simp; try with_reducible rfl
  simp only [Act.put]
  refine wpAnyF_take [8] (by kernel_rfl) (i := 4) (v := ?vn4) rfl (by kernel_rfl) (by kernel_rfl) (by kernel_rfl) (fun _ _ _ h => h) (Or.inl ⟨by kernel_rfl, ?hyn4⟩) hHeld ?restn4
  case hyn4 => intro w' hSw; (try dsimp only at hSw); go_simp; try with_reducible rfl
  simp only [Act.put]
  refine wpAnyF_take [8] (by kernel_rfl) (i := 5) (v := ?vn5) rfl (by kernel_rfl) (by kernel_rfl) (by kernel_rfl) (fun _ _ _ h => h) (Or.inl ⟨by kernel_rfl, ?hyn5⟩) hHeld ?restn5
  case hyn5 => intro w' hSw; (try dsimp only at hSw); go_simp; try with_reducible rfl
  simp only [Act.put]
  refine wpAnyF_ready (rs := [2]) (by kernel_rfl) (by simp) ?_
  refine AllReadyF.cons rfl (fun K hK => ?_) AllReadyF.nil
  go_simp
  refine HCl.out.mono ?_
  rintro e w5 ⟨rfl, hB5⟩
  dsimp only
  have HB5 := hide_ hB5
  clear hB5
  refine hK.out _ _ (HSS.out _ (below_to ((Below.refl w2.heap.size w2).drew) HB5.out)) (fun hHeld => ?_)
  clear hK K
  refine wpAnyF_ready (rs := [6]) (by kernel_rfl) (by simp) ?_
  refine AllReadyF.cons rfl (fun K hK => ?_) AllReadyF.nil
  go_simp
  refine (HTn.out w5 (below_to ((Below.refl w2.heap.size w2).drew) HB5.out)).mono ?_
  rintro e w6 ⟨v', Q', r', he, HM6, HR6, HQ6, HK6⟩
  obtain ⟨nu, hnu⟩ : ∃ nu, nu = ((bF kn fu 1 (x :: A ++ M) (Q.map (·.1))).1.headD pt0).ty := ⟨_, rfl⟩
  rw [← hnu] at he
  subst he
  have HNu := hide_ hnu
  clear hnu
  dsimp only
  have HX6 : Hid (Blk w6 w1.heap.size 40 (ndc x)) := hide_ (HK6.out.blkT (HM2.out.later (below_to ((Below.refl w2.heap.size w2).drew) HB5.out)) (KX.out.later (below_to ((Below.refl w2.heap.size w2).drew) HB5.out)) (by decide) (by decide))
  have HG6 : Hid (Blk w6 w.heap.size 53 [.string ⟨#[]⟩, .int .i64 0, .int .i64 0]) := hide_ (HK6.out.blkT (HM2.out.later (below_to ((Below.refl w2.heap.size w2).drew) HB5.out)) (KR.out.later (below_to ((Below.refl w2.heap.size w2).drew) HB5.out)) (by decide) (by decide))
  refine hK.out _ _ (⟨by have := HX6.out.cell 3; simpa [ndc] using this, by have := HX6.out.cell 4; simpa [ndc] using this⟩) (fun hHeld => ?_)
  clear hK K
  refine wpAnyF_take [8] (by kernel_rfl) (i := 7) (v := ?vn6) rfl (by kernel_rfl) (by kernel_rfl) (by kernel_rfl) (fun _ _ _ h => h) (Or.inl ⟨by kernel_rfl, ?hyn6⟩) hHeld ?restn6
  case hyn6 => intro w' hSw; (try dsimp only at hSw); go_simp; try with_reducible rfl
  simp only [Act.put]
  refine wpAnyF_ready (rs := [8]) (by kernel_rfl) (by simp) ?_
  refine AllReadyF.last rfl (fun K hK => ?_)
  have q0 := HG6.out.cell 0; have q1 := HG6.out.cell 1; have q2 := HG6.out.cell 2; have qz := fun i => HG6.out.frozen i
  simp at q0 q1 q2
  go_simp
  refine hK.out _ _ ?_
  clear hK K
  refine wpAnyF_done (by kernel_rfl) ?_ _
  go_wp2_with fail
  have hu : Upd (fun q => q = w.heap.size) w6 (((w6.setCell ⟨w.heap.size, 0, none⟩ (.string x.label)).setCell ⟨w.heap.size, 1, none⟩ (.int .i64 x.tag)).setCell ⟨w.heap.size, 2, none⟩ (.int .i64 nu)) := (((Upd.refl (fun q => q = w.heap.size) w6).set _ _ (.inl rfl)).set _ _ (.inl rfl)).set _ _ (.inl rfl)
  have hpre : Below w.heap.size w w5 := below_to HB2.out (below_to ((Below.refl w2.heap.size w2).drew) HB5.out)
  have hkw := Bk.pre hpre HK6.out
  have hsz : w.heap.size < w2.heap.size := KR.out.lt
  refine retPt rfl rfl (wr3 HG6.out _ _ _) ⟨v', Q', r', by rw [HNu.out], hide_ (HM6.out.updS hu (fun e => ?_) (fun e => ?_) (fun q hq e => ?_) (fun q e => by have := HM2.out.size; have h2 := HBw.out.size; omega) (fun p hp q hq e => ?_)), HR6, HQ6, hide_ (hkw.newU (S := fun q => q = w.heap.size) hu (fun q e => by omega))⟩
  · exact absurd (blk_type HM6.out.1 (e ▸ HG6.out)) (by decide)
  · exact HM6.out.2.2.1.ne HG6.out e
  · subst e
    obtain ⟨-, -, ys, hy⟩ := HM6.out.own hq
    exact absurd (blk_type hy HG6.out) (by decide)
  · subst e
    rcases HK6.out.2.2 p hp with h1 | h1
    · have := HMw.out.pblk h1 hq; omega
    · have := h1 _ hq; have h3 := hpre.size; have h4 := HB5.out.size; have h5 : w2.drew.heap.size = w2.heap.size := rfl; omega
theorem bF_one (kn : ByteArray → Option Nat) (fu : Nat) (x : Nd) (N : List Nd) (T : List Ty) :
    bF kn (fu + 1) 1 (x :: N) T = ([⟨x.label, x.tag, if x.k = 9 then (((kn x.name).getD 0 : Nat) : Int) else ((bF kn fu x.kids.toNat N T).2.2.length : Int)⟩], (bF kn fu x.kids.toNat N T).2.1, if x.k = 9 then (bF kn fu x.kids.toNat N T).2.2 else (bF kn fu x.kids.toNat N T).2.2 ++ [mdT x (bF kn fu x.kids.toNat N T).1]) := by
  simp only [bF, bF_zero]
theorem forest_one {fu d : Nat} {k : Int} {N : List Nd} (h : Forest fu d k 1 N) : ∃ f x A, fu = f + 1 ∧ N = x :: A ∧ ndE x k d = 0 ∧ Forest f (d + 1) x.k x.kids.toNat A := by
  cases fu with
  | zero => exact absurd h.1 (by decide)
  | succ f =>
    obtain ⟨x, A, B, rfl, h1, h2, h3⟩ := h
    have hB : B = [] := by cases f with
      | zero => exact h3.2
      | succ f => exact h3
    subst hB
    exact ⟨f, x, A, rfl, by simp, h1, h2⟩
theorem forest_zero {fu d : Nat} {k : Int} {N : List Nd} (h : Forest fu d k 0 N) : N = [] := by
  cases fu with
  | zero => exact h.2
  | succ f => exact h
theorem forest_succ {fu d n : Nat} {k : Int} {N : List Nd} (h : Forest fu d k (n + 1) N) : ∃ f x A B, fu = f + 1 ∧ N = (x :: A) ++ B ∧ Forest fu d k 1 (x :: A) ∧ Forest f d k n B := by
  cases fu with
  | zero => exact absurd h.1 (by simp)
  | succ f =>
    obtain ⟨x, A, B, rfl, h1, h2, h3⟩ := h
    exact ⟨f, x, A, B, rfl, by simp, ⟨x, A, [], by simp, h1, h2, Forest.none _ _ _⟩, h3⟩
theorem ndE_k {x : Nd} {of : Int} {dp : Nat} (h : ndE x of dp = 0) : ((x.k = 1 ∨ x.k = 2 ∨ x.k = 3 ∨ x.k = 9) ∧ x.kids = 0) ∨ ((x.k = 4 ∨ x.k = 5 ∨ x.k = 6) ∧ x.kids = 1) ∨ ((x.k = 7 ∨ x.k = 8) ∧ 0 < x.kids ∧ x.kids ≤ 64) := by
  have hk := ndE_kids h
  unfold ndE nodeE at h
  by_cases h1 : 16 < dp
  · rw [if_pos h1] at h; omega
  rw [if_neg h1] at h
  by_cases h2 : (x.k = 8 ∨ x.k = 7) ∧ 64 < x.kids
  · rw [if_pos h2] at h; omega
  rw [if_neg h2] at h
  cases h3 : kindOk x.k x.n x.kids with
  | false => rw [if_pos (.inl h3)] at h; omega
  | true =>
    unfold kindOk at h3
    by_cases e1 : x.k = 1
    · rw [if_pos e1] at h3; have := of_decide_eq_true h3; omega
    rw [if_neg e1] at h3
    by_cases e2 : x.k = 2 ∨ x.k = 3 ∨ x.k = 9
    · rw [if_pos e2] at h3; have := of_decide_eq_true h3; omega
    rw [if_neg e2] at h3
    by_cases e3 : x.k = 4 ∨ x.k = 5
    · rw [if_pos e3] at h3
      rw [Bool.and_eq_true] at h3
      have := of_decide_eq_true h3.2; omega
    rw [if_neg e3] at h3
    by_cases e4 : x.k = 6
    · rw [if_pos e4] at h3; have := of_decide_eq_true h3; omega
    rw [if_neg e4] at h3
    by_cases e5 : x.k = 7 ∨ x.k = 8
    · rw [if_pos e5] at h3; have := of_decide_eq_true h3; omega
    · rw [if_neg e5] at h3; cases h3
end Go.Proofs.Ytfgdkhmoikkgjaa
