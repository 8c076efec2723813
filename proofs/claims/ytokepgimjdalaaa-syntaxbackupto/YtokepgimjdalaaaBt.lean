import Derived.Test.YtokepgimjdalaaaBs
import Derived.Test.YtokepgimjdalaaaUc
import Derived.Test.YtokepgimjdalaaaWf
import Derived.Test.YtokepgimjdalaaaRows
import Derived.Test.YtokepgimjdalaaaRead
import Derived.Test.YtokepgimjdalaaaSq

/- SyntaxBack: definitions written one by one: plain, and in memory. -/
namespace Go.Proofs.Ytokepgimjdalaaa
open Go.RowKit
set_option linter.unusedVariables false

theorem ex_any (fu : Nat) : ExB fu := Nat.strongRecOn fu (fun f ih => ex_step f (hide_ ih))
/-! ### Plain -/
def DefR (TX : List UInt8) (D D1 : List Df) (i : Nat) (bb : List UInt8) (dn : List Df) : Prop :=
  dn.length = i ∧ ∃ PD E, WDQ stB (D.drop i) bb.length PD E ∧ bb ++ txtP PD = TX ∧ dn ++ E = D1
section
variable {TX : List UInt8} {D D1 : List Df} {i : Nat} {bb : List UInt8} {dn : List Df}
theorem DefR.start {P : List (Q × List UInt8)} (h : WDQ stB D 0 P D1) : DefR (txtP P) D D1 0 [] [] := ⟨rfl, P, D1, h, by simp, by simp⟩
theorem DefR.done (h : DefR TX D D1 D.length bb dn) : bb = TX ∧ dn = D1 := by
  obtain ⟨_, PD, E, hQ, h1, h2⟩ := h
  rw [List.drop_length] at hQ
  obtain ⟨rfl, rfl⟩ := hQ
  exact ⟨by simpa [txtP] using h1, by simpa using h2⟩
def headB (bb : List UInt8) (nm : ByteArray) : List UInt8 := bb ++ [116, 121, 112, 101, 32] ++ (nm.data.toList ++ [32, 61, 32])
theorem DefR.step (h : DefR TX D D1 i bb dn) {d : Df} (hd : D[i]? = some d) :
    ∃ f z A1 PA A1', d.ty = z :: A1 ∧ ndE z 0 0 = 0 ∧ WQ stB f 1 z.k z.kids.toNat A1 ((headB bb d.name).length + (txtP (opnS stB z)).length) PA A1' ∧ A1'.length = A1.length ∧
      DefR TX D D1 (i + 1) (headB bb d.name ++ txtP (opnS stB z ++ (PA ++ clsS stB z)) ++ [59, 10]) (dn ++ [⟨d.name, (((bb ++ [116, 121, 112, 101, 32]).length : Nat) : Int), { z with a := ((headB bb d.name).length : Int) } :: A1'⟩]) ∧
      (headB bb d.name ++ txtP (opnS stB z ++ (PA ++ clsS stB z)) ++ [59, 10]).length ≤ TX.length := by
  obtain ⟨hl, PD, E, hQ, h1, h2⟩ := h
  obtain ⟨hi, hdi⟩ := List.getElem?_eq_some_iff.1 hd
  rw [List.drop_eq_getElem_cons hi, hdi] at hQ
  obtain ⟨PN, N', PD2, E2, hN, hD, rfl, rfl⟩ := hQ
  have hh : bb.length + (txtP [(qw ⟨#[116, 121, 112, 101]⟩, [32]), (qw d.name, stB.eq1), (qm 61, stB.eq2)]).length = (headB bb d.name).length := by simp [headB, txtP, wb_w, wb_m, stB]
  rw [hh] at hN
  obtain ⟨f, z, A1, PA, A1', hf, hA, hz, hQ1, rfl, rfl⟩ := wq_one (by decide) (by decide) hN
  have ht : ∀ R : List (Q × List UInt8), bb ++ txtP ((qw ⟨#[116, 121, 112, 101]⟩, [32]) :: (qw d.name, stB.eq1) :: (qm 61, stB.eq2) :: ((opnS stB z ++ (PA ++ clsS stB z)) ++ ((qm 59, stB.semi) :: R))) = headB bb d.name ++ txtP (opnS stB z ++ (PA ++ clsS stB z)) ++ [59, 10] ++ txtP R := fun R => by
    have e : txtP ((opnS stB z ++ (PA ++ clsS stB z)) ++ ((qm 59, stB.semi) :: R)) = txtP (opnS stB z ++ (PA ++ clsS stB z)) ++ ([59, 10] ++ txtP R) := by rw [txtP_app]; simp [txtP, wb_m, stB]
    show bb ++ (wb _ ++ ([32] ++ (wb _ ++ (stB.eq1 ++ (wb _ ++ (stB.eq2 ++ txtP ((opnS stB z ++ (PA ++ clsS stB z)) ++ ((qm 59, stB.semi) :: R)))))))) = _
    rw [e]
    simp [headB, wb_w, wb_m, stB]
  have hn := ht []
  have hD' : WDQ stB (D.drop (i + 1)) (headB bb d.name ++ txtP (opnS stB z ++ (PA ++ clsS stB z)) ++ [59, 10]).length PD2 E2 := by
    have e : bb.length + (txtP ((qw ⟨#[116, 121, 112, 101]⟩, [32]) :: (qw d.name, stB.eq1) :: (qm 61, stB.eq2) :: ((opnS stB z ++ (PA ++ clsS stB z)) ++ [(qm 59, stB.semi)]))).length = (headB bb d.name ++ txtP (opnS stB z ++ (PA ++ clsS stB z)) ++ [59, 10]).length := by
      rw [← List.length_append, hn]; simp [txtP]
    rw [e] at hD
    exact hD
  rw [ht PD2] at h1
  refine ⟨f, z, A1, PA, A1', hA, hz, hQ1, wq_len _ _ _ _ _ _ _ _ hQ1, ⟨by simp [hl], PD2, E2, hD', h1, ?_⟩, ?_⟩
  · have e5 : bb.length + (txtP [(qw ⟨#[116, 121, 112, 101]⟩, [32])]).length = (bb ++ [116, 121, 112, 101, 32]).length := by simp [txtP, wb_w]
    rw [e5] at h2
    rw [← h2]; simp
  · rw [← h1]; simp only [List.length_append]; omega
end
/-! ### In memory -/
section
variable {w w' : World} {B g : Nat} {vd : Value} {D : List Df} {vs : List Value} {bb : List UInt8}
theorem Src.updB (h : Src w B vd D vs) {u : Value} (hg : Blk w g 59 [u]) (hU : UpdB B g w w') : Src w' B vd D vs := by
  refine h.upd hU (fun k hk e => ?_) (fun i v k hv hk e => ?_)
  · obtain ⟨zs, hz⟩ := ownS_type h.2.1 hk
    rcases e with rfl | ⟨-, ys, e⟩
    · exact absurd (blk_type hz hg) (by decide)
    · exact absurd (blk_type hz e) (by decide)
  · obtain ⟨d, hd⟩ := h.d hv
    obtain ⟨zs, hz⟩ := ownS_type (h.2.2.1 i d v hd hv) hk
    rcases e with rfl | ⟨-, ys, e⟩
    · exact absurd (blk_type hz hg) (by decide)
    · exact absurd (blk_type hz e) (by decide)
/-- The nodes of a definition are another list now. -/
theorem Src.putE (h : Src w B vd D vs) (hW : Wrt w B g bb) {i : Nat} {d : Df} (hd : D[i]? = some d) (hn : 0 < d.ty.length) :
    ∃ gd cap gn cn, vd = .slice (some ⟨gd, 0, none⟩) D.length cap ∧ D.length ≤ cap ∧ cap ≤ maxLen ∧ w.cell? ⟨gd, i * 3, none⟩ = some (.string d.name) ∧ w.cell? ⟨gd, i * 3 + 2, none⟩ = some (.slice (some ⟨gn, 0, none⟩) d.ty.length cn) ∧ NdB w B gn cn d.ty ∧
      ∀ (w' : World) (N' : List Nd), UpdE B g gn w w' → N'.length = d.ty.length → NdB w' B gn cn N' → Src w' B vd (D.set i { d with ty := N' }) vs := by
  have hi := (List.getElem?_eq_some_iff.1 hd).1
  have hv : vs[i]? = some (vs[i]'(by rw [h.1]; exact hi)) := List.getElem?_eq_getElem _
  generalize vs[i]'(by rw [h.1]; exact hi) = v at hv
  obtain ⟨gn, cn, ys, hvv, hbn, hnc, hcm, hyl, hyt, hK⟩ := ownS_blk (h.2.2.1 i d v hd hv) hn
  obtain ⟨gd, cap, zs, hvd, hb, hc, hm, hl, ht, hKd⟩ := ownS_blk h.2.1 (by omega)
  obtain ⟨_, u, hKg, _⟩ := hW
  have hvo : v.ownBlock = some gn := by rw [hvv]; rfl
  have hcell : ∀ j, j < 3 → w.cell? ⟨gd, i * 3 + j, none⟩ = (dfc d v)[j]? := fun j hj => by
    rw [← cellsD_at D vs i j d v hd hv hj, hKd.cell, ← ht, List.getElem?_take, if_pos (by omega)]
  refine ⟨gd, cap, gn, cn, hvd, hc, hm, hcell 0 (by decide), by rw [hcell 2 (by decide), ← hvv]; rfl, ⟨hbn, hnc, hcm, ys, hK, hyl, hyt⟩, fun w' N' hU hN hB => ⟨by rw [List.length_set]; exact h.1, ?_, ?_, h.2.2.2⟩⟩
  · rw [List.length_set, cellsD_ty D vs i d _ hd]
    exact ownS_upd h.2.1 hU (fun k hk e => by
      obtain ⟨zs, hz2⟩ := ownS_type h.2.1 hk
      rcases e with rfl | rfl | ⟨-, ys, e⟩
      · exact absurd (blk_type hz2 hKg) (by decide)
      · exact absurd (blk_type hz2 hK) (by decide)
      · exact absurd (blk_type hz2 e) (by decide))
  · intro j e u he hu
    by_cases hij : i = j
    · subst hij
      rw [List.getElem?_set_self (by exact hi)] at he
      injection he with he
      subst he
      rw [hv] at hu
      injection hu with hu
      subst hu
      obtain ⟨_, _, _, ys', hK', hyl', hyt'⟩ := hB
      show w'.ownsRow B _ 7 v N'.length (cellsN N')
      have h2 := ownS_of_blk (B := B) (n := d.ty.length) (c := 7) (cap := cn) hK' hbn hyl' hnc hcm
      rw [← hN, hyt', hN, ← hvv, ← hN] at h2
      exact h2
    · rw [List.getElem?_set_ne hij] at he
      exact ownS_upd (h.2.2.1 j e u he hu) hU (fun k hk e2 => by
        obtain ⟨zs, hz2⟩ := ownS_type (h.2.2.1 j e u he hu) hk
        rcases e2 with rfl | rfl | ⟨-, ys, e2⟩
        · exact absurd (blk_type hz2 hKg) (by decide)
        · exact hij (h.2.2.2 i j v u _ hv hu hvo hk)
        · exact absurd (blk_type hz2 e2) (by decide))
end
end Go.Proofs.Ytokepgimjdalaaa

/- SyntaxBack: what lies in memory at its loop. -/
namespace Go.Proofs.Ytokepgimjdalaaa
open Go.RowKit
set_option linter.unusedVariables false

theorem Wrt.new (w : World) (B : Nat) (h : B ≤ w.heap.size) : Wrt (w.alloc (.cells #[.slice none 0 0] 59)) B w.heap.size [] := ⟨h, _, by have := Blk.newA w #[.slice none 0 0] 59; simpa using this, BR.nil _ _⟩
/-- The text under way, the source, and its box. -/
def BkS (w0 w : World) (B g s3 : Nat) (vd : Value) (D : List Df) (vs : List Value) (bb : List UInt8) : Prop :=
  Wrt w B g bb ∧ Src w B vd D vs ∧ Blk w s3 25 [vd] ∧ Below w0.heap.size w0 w ∧ w0.heap.size ≤ B
section
variable {w0 w w' : World} {B g s3 : Nat} {vd : Value} {D : List Df} {vs : List Value} {bb : List UInt8}
theorem BkS.base (h : BkS w0 w B g s3 vd D vs bb) : B ≤ w.heap.size := by
  obtain ⟨hb, _, hK, _⟩ := h.1
  exact Nat.le_trans hb (Nat.le_of_lt hK.lt)
theorem BkS.later (h : BkS w0 w B g s3 vd D vs bb) (hB : Below w.heap.size w w') : BkS w0 w' B g s3 vd D vs bb :=
  ⟨h.1.later hB, h.2.1.later hB, h.2.2.1.later hB, below_to h.2.2.2.1 hB, h.2.2.2.2⟩
theorem BkS.put (h : BkS w0 w B g s3 vd D vs bb) (hU : UpdB B g w w') {b' : List UInt8} (hW : Wrt w' B g b') : BkS w0 w' B g s3 vd D vs b' := by
  obtain ⟨hb, u, hK, _⟩ := h.1
  refine ⟨hW, h.2.1.updB hK hU, h.2.2.1.upd hU (fun e => ?_), h.2.2.2.1.trans (hU.below w0.heap.size (Nat.le_trans h.2.2.2.2 h.base) (fun k hk => ?_)), h.2.2.2.2⟩
  · rcases e with rfl | ⟨-, ys, e⟩
    · exact absurd (blk_type h.2.2.1 hK) (by decide)
    · exact absurd (blk_type h.2.2.1 e) (by decide)
  · have := h.2.2.2.2
    rcases hk with rfl | ⟨hk, _⟩ <;> omega
theorem BkS.setA (h : BkS w0 w B g s3 vd D vs bb) {i : Nat} {d : Df} (hd : D[i]? = some d) (x : Int) :
    ∃ gd cap, vd = .slice (some ⟨gd, 0, none⟩) D.length cap ∧ D.length ≤ cap ∧ w.cell? ⟨gd, i * 3 + 1, none⟩ = some (.int .i64 d.a) ∧ w.frozen? ⟨gd, i * 3 + 1, none⟩ = false ∧ BkS w0 (w.setCell ⟨gd, i * 3 + 1, none⟩ (.int .i64 x)).drew B g s3 vd (D.set i { d with a := x }) vs bb := by
  obtain ⟨gd, cap, hv, hc, hb, h1, h2, h3⟩ := h.2.1.setA hd x
  obtain ⟨hbg, u, hK, hR⟩ := h.1
  have hvo : vd.ownBlock = some gd := by rw [hv]; rfl
  obtain ⟨zs, hz⟩ := ownS_type h.2.1.2.1 hvo
  have hU : Upd (fun k => k = gd) w (w.setCell ⟨gd, i * 3 + 1, none⟩ (.int .i64 x)) := (Upd.refl _ w).set _ _ (.inl rfl)
  have hne : ∀ (j : Nat) (t : TypeId) (ys : List Value), Blk w j t ys → t ≠ 38 → j ≠ gd := fun j t ys hj ht e => by subst e; exact ht (blk_type hj hz)
  have hs3 := h.2.2.1.upd hU (hne _ _ _ h.2.2.1 (by decide))
  have hKg := hK.upd hU (hne _ _ _ hK (by decide))
  refine ⟨gd, cap, hv, hc, h1, h2, ⟨hbg, u, hKg, ownS_upd hR hU.drew (fun k hk => ?_)⟩, h3, hs3, (h.2.2.2.1.trans (hU.below w0.heap.size (Nat.le_trans h.2.2.2.2 h.base) (fun k hk => by have := h.2.2.2.2; subst hk; omega))).drew, h.2.2.2.2⟩
  obtain ⟨ys, hy⟩ := ownS_type hR hk
  exact hne _ _ _ hy (by decide)
/-- put, at the loop. -/
theorem putK (s : ByteArray) (h : Hid (BkS w0 w B g s3 vd D vs bb)) (hl : bb.length ≤ 900000000) (hs : s.size ≤ 900000000) :
    Calls Try.prog 17 #[.pointer (some ⟨g, 0, none⟩), .string s] w fun e w' => e = .returned (.tuple #[]) ∧ Hid (BkS w0 w' B g s3 vd D vs (bb ++ s.data.toList)) :=
  (put_any g B bb s w (hide_ h.out.1) hl hs).mono fun e w' ⟨h1, h2, h3⟩ => ⟨h1, hide_ (h.out.put h3.out h2.out)⟩
/-- expr, at the loop. -/
theorem exprK (h : BkS w0 w B g s3 vd D vs bb) {i f : Nat} {d : Df} {z : Nd} {A1 A1' : List Nd} {PA : List (Q × List UInt8)} (hd : D[i]? = some d) (hty : d.ty = z :: A1) (hz : ndE z 0 0 = 0) (hQ : WQ stB f 1 z.k z.kids.toNat A1 (bb.length + (txtP (opnS stB z)).length) PA A1') (hl : bb.length + (txtP (opnS stB z ++ (PA ++ clsS stB z))).length ≤ 800000000) (hT : d.ty.length ≤ 100000000) :
    ∃ gd cap gn cn, vd = .slice (some ⟨gd, 0, none⟩) D.length cap ∧ D.length ≤ cap ∧ w.cell? ⟨gd, i * 3, none⟩ = some (.string d.name) ∧ w.cell? ⟨gd, i * 3 + 2, none⟩ = some (.slice (some ⟨gn, 0, none⟩) d.ty.length cn) ∧
      Calls Try.prog 18 #[.pointer (some ⟨g, 0, none⟩), .slice (some ⟨gn, 0, none⟩) d.ty.length cn, .int .i64 0, .bool false] w fun e w' => e = .returned (.int .i64 (d.ty.length : Int)) ∧ Hid (BkS w0 w' B g s3 vd (D.set i { d with ty := { z with a := (bb.length : Int) } :: A1' }) vs (bb ++ txtP (opnS stB z ++ (PA ++ clsS stB z)))) := by
  have hlen := wq_len _ _ _ _ _ _ _ _ hQ
  obtain ⟨gd, cap, gn, cn, h1, h2, h3, h4, h5, h6, h7⟩ := h.2.1.putE h.1 hd (by rw [hty]; simp)
  refine ⟨gd, cap, gn, cn, h1, h2, h4, h5, ?_⟩
  have hb6 := h6.1
  obtain ⟨ysn, hKn, _⟩ := h6.2.2.2
  rw [hty] at h6
  have hx := ex_any f w B g gn cn bb 0 0 z A1 [] [] PA A1' false d.ty.length hz hQ (hide_ ⟨h.1, by simpa using h6⟩) hl (by rw [hty]; simp) hT
  refine hx.mono fun e w' ⟨he, hW, hU⟩ => ⟨by rw [he, hty]; simp [Nat.add_comm], hide_ ⟨hW.out.1, ?_, ?_, ?_, h.2.2.2.2⟩⟩
  · have h8 := h7 w' ({ z with a := (bb.length : Int) } :: A1') hU.out (by rw [hty]; simp [hlen]) (by have := hW.out.2; simpa [atO] using this)
    exact h8
  · obtain ⟨hb, u, hK, _⟩ := h.1
    refine h.2.2.1.upd hU.out (fun e => ?_)
    rcases e with rfl | rfl | ⟨-, ys, e⟩
    · exact absurd (blk_type h.2.2.1 hK) (by decide)
    · exact absurd (blk_type h.2.2.1 hKn) (by decide)
    · exact absurd (blk_type h.2.2.1 e) (by decide)
  · obtain ⟨hb, u, hK, _⟩ := h.1
    have hb0 := h.2.2.2.2
    refine h.2.2.2.1.trans (hU.out.below w0.heap.size (Nat.le_trans hb0 h.base) (fun k hk => ?_))
    rcases hk with rfl | rfl | ⟨hk, _⟩ <;> omega
end
end Go.Proofs.Ytokepgimjdalaaa

/- SyntaxBack: the walk. -/
namespace Go.Proofs.Ytokepgimjdalaaa
open Go.RowKit
set_option linter.unusedVariables false

theorem bldW (w : World) : (Instr.build 59 #[]).run Try.prog w = .ok (.agg #[.slice none 0 0]) w := by kernel_rfl
theorem bldF4 (w : World) : (Instr.build 28 #[]).run Try.prog w = .ok (.agg #[.int .i64 0, .int .i64 0]) w := by kernel_rfl
theorem boxes2b (w : World) (v x y : Value) : Blk ((w.alloc (.cells #[v] 25)).alloc (.cells #[x, y] 28)) w.heap.size 25 [v] ∧ Blk ((w.alloc (.cells #[v] 25)).alloc (.cells #[x, y] 28)) (w.heap.size + 1) 28 [x, y] ∧ Below w.heap.size w ((w.alloc (.cells #[v] 25)).alloc (.cells #[x, y] 28)) :=
  ⟨(Blk.newA w #[v] 25).alloc _, by have h := Blk.newA (w.alloc (.cells #[v] 25)) #[x, y] 28; simpa using h, below2 w _ _⟩
section
variable {w0 w w' : World} {B g s3 gd n cap : Nat} {D : List Df} {vs : List Value} {bb : List UInt8}
theorem BkS.cellsT (h : BkS w0 w B g s3 (.slice (some ⟨gd, 0, none⟩) n cap) D vs bb) {i : Nat} {d : Df} (hd : D[i]? = some d) (hn : 0 < d.ty.length) :
    ∃ gn cn, w.cell? ⟨gd, i * 3, none⟩ = some (.string d.name) ∧ w.cell? ⟨gd, i * 3 + 2, none⟩ = some (.slice (some ⟨gn, 0, none⟩) d.ty.length cn) := by
  obtain ⟨gd2, cap2, gn, cn, h1, h2, h3, h4, h5, h6, h7⟩ := h.2.1.putE h.1 hd hn
  injection h1 with e1 e2 e3
  injection e1 with e1
  injection e1 with e1
  subst e1
  exact ⟨gn, cn, h4, h5⟩
theorem exprK2 (h : BkS w0 w B g s3 (.slice (some ⟨gd, 0, none⟩) n cap) D vs bb) {i f : Nat} {d : Df} {z : Nd} {A1 A1' : List Nd} {PA : List (Q × List UInt8)} (hd : D[i]? = some d) (hty : d.ty = z :: A1) (hz : ndE z 0 0 = 0) (hQ : WQ stB f 1 z.k z.kids.toNat A1 (bb.length + (txtP (opnS stB z)).length) PA A1') (hl : bb.length + (txtP (opnS stB z ++ (PA ++ clsS stB z))).length ≤ 800000000) (hT : d.ty.length ≤ 100000000) :
    ∃ gn cn, w.cell? ⟨gd, i * 3 + 2, none⟩ = some (.slice (some ⟨gn, 0, none⟩) d.ty.length cn) ∧
      Calls Try.prog 18 #[.pointer (some ⟨g, 0, none⟩), .slice (some ⟨gn, 0, none⟩) d.ty.length cn, .int .i64 0, .bool false] w fun e w' => e = .returned (.int .i64 (d.ty.length : Int)) ∧ Hid (BkS w0 w' B g s3 (.slice (some ⟨gd, 0, none⟩) n cap) (D.set i { d with ty := { z with a := (bb.length : Int) } :: A1' }) vs (bb ++ txtP (opnS stB z ++ (PA ++ clsS stB z)))) := by
  obtain ⟨gd2, cap2, gn, cn, h1, h2, h4, h5, h6⟩ := exprK h hd hty hz hQ hl hT
  injection h1 with e1 e2 e3
  injection e1 with e1
  injection e1 with e1
  subst e1
  exact ⟨gn, cn, h5, h6⟩
end
set_option maxRecDepth 100000 in
set_option maxHeartbeats 8000000 in
theorem back_any (a : Option Addr) (c : Nat) (D : List Df) (w : World) (hS : Hid (Small D)) (hc : D.length ≤ c) (r : Hid (DRow w a D)) (hT : Hid ((ckP D).2.2 = 0 → ∀ P D1, WDQ stB D 0 P D1 → (txtP P).length ≤ 800000000)) :
    Calls Try.prog 8 #[.agg #[.slice a D.length c]] w fun e w' => e = .returned (.bool true) ∧ Below w.heap.size w w' := by
  have hD := hS.out.1
  have HLn : Hid (Lens D) := hide_ ⟨by omega, fun d hd => by have := hS.out.2 d hd; omega⟩
  have k1 := Blk.newA w #[.slice a D.length c] 25
  have hBa : Below w.heap.size w (w.alloc (.cells #[.slice a D.length c] 25)) := (Below.refl _ w).alloc (Nat.le_refl _) _
  obtain ⟨wa, hwa⟩ : ∃ wa, wa = w.alloc (.cells #[.slice a D.length c] 25) := ⟨_, rfl⟩
  rw [← hwa] at k1 hBa
  have HK1 := hide_ k1
  have HBa := hide_ hBa
  have HR := hide_ (r.out.later hBa)
  clear k1 hBa
  go_enter Try.func8, Try.ntmps8
  go_upto_region 1 with fail
  rw [← hwa]
  clear hwa
  go_wp2_with fail
  refine (first_any wa).mono ?_; rintro e w1 ⟨rfl, hB1⟩
  have HK1 := hide_ (HK1.out.later hB1)
  have HR := hide_ (HR.out.later hB1)
  have HB1 := hide_ (below_to HBa.out hB1)
  have c0 := HK1.out.cell 0
  simp at c0
  have HSz := hide_ HB1.out.size
  clear hB1 HBa
  go_wp2_with fail
  refine (lent_any a c D w1 hS hc HR).mono ?_; rintro e w2 ⟨vd, vs, rfl, HS, HB2⟩
  obtain ⟨va, cap, rfl, hcp, hR1⟩ := HS.out.row
  have k9 := Blk.newA w2 #[.slice va D.length cap] 25
  have hB3 : Below w2.heap.size w2 (w2.alloc (.cells #[.slice va D.length cap] 25)) := (Below.refl _ w2).alloc (Nat.le_refl _) _
  obtain ⟨w3, hw3⟩ : ∃ w3, w3 = w2.alloc (.cells #[.slice va D.length cap] 25) := ⟨_, rfl⟩
  rw [← hw3] at k9 hB3
  have hB13 := below_to HB2.out hB3
  have HK9 := hide_ k9
  have HS := hide_ (HS.out.later hB3)
  have HB3 := hide_ (below_to HB1.out hB13)
  have HSz3 := hide_ hB13.size
  have HR1 := hide_ (hR1.later hB3)
  have d0 := k9.cell 0
  simp at d0
  clear k9 hB3 hB13 HB2 HB1 hR1 c0 HK1 HR
  go_upto_region 4 with fail
  rw [← hw3]
  clear hw3
  obtain ⟨R, hR⟩ : ∃ R, ckP D = R := ⟨_, rfl⟩
  obtain ⟨q1, q2, q3⟩ := R
  have HC1 := check_any va cap D w3 HLn HR1
  rw [hR] at HC1
  have HC1 := hide_ HC1
  have HRr := hide_ hR
  clear hR
  go_wp2_with fail
  refine HC1.out.mono ?_; rintro e w4 ⟨rfl, hB4⟩
  have HK9 := hide_ (HK9.out.later hB4)
  have HS := hide_ (HS.out.later hB4)
  have HB4 := hide_ (below_to HB3.out hB4)
  have HSz4 := hide_ (Nat.le_trans HSz3.out hB4.size)
  clear hB4 HB3 HC1 d0 HR1 HSz3
  by_cases hq : q3 = 0
  · subst hq
    obtain ⟨P, D1, hW⟩ := wdq_of stB D (ckP_all (show (ckP D).2.2 = 0 by rw [HRr.out])).2 0
    have hT2 := hT.out (by rw [HRr.out]) P D1 hW
    obtain ⟨TX, hTX⟩ : ∃ TX, txtP P = TX := ⟨_, rfl⟩
    have h0 := DefR.start hW
    rw [hTX] at hT2 h0
    have HPr : Hid ((⟨TX.toArray⟩ : ByteArray).size ≤ 65536 → prsT ⟨TX.toArray⟩ = (D1, 0, 0)) := hide_ (fun hz => text_back2 stB_ok (by rw [HRr.out]) hW _ (by rw [← hTX]) hz)
    have HD0 := hide_ h0
    have hwn := Wrt.new w4 w1.heap.size HSz4.out
    have hB5 : Below w4.heap.size w4 (w4.alloc (.cells #[.slice none 0 0] 59)) := (Below.refl _ w4).alloc (Nat.le_refl _) _
    obtain ⟨w5, hw5⟩ : ∃ w5, w5 = w4.alloc (.cells #[.slice none 0 0] 59) := ⟨_, rfl⟩
    rw [← hw5] at hwn hB5
    have HBk : Hid (BkS w w5 w1.heap.size w4.heap.size w2.heap.size (.slice va D.length cap) D vs []) := hide_ ⟨hwn, HS.out.later hB5, HK9.out.later hB5, below_to HB4.out hB5, HSz.out⟩
    generalize w2.heap.size = s3 at *
    generalize w1.heap.size = B at *
    clear h0 hW hTX hwn hB5 HS HK9 HB4
    go_upto_region 8 with fail
    rw [← hw5]
    clear hw5
    generalize w4.heap.size = g at *
    go_wp2_with fail
    go_loopw [8] (fun x8 wr => ∃ (i : Nat) (bb : List UInt8) (dn : List Df), x8 = .int .i64 (i : Int) ∧ i ≤ D.length ∧ Hid (DefR TX D D1 i bb dn) ∧ Hid (BkS w wr B g s3 (.slice va D.length cap) (dn ++ D.drop i) vs bb)) (fun x8 _ => D.length - (intOf x8).toNat)
    case atStart => exact ⟨0, [], [], rfl, Nat.zero_le _, HD0, by rw [List.nil_append, List.drop_zero]; exact HBk⟩
    case round =>
      clear HBk HD0
      obtain ⟨i, bb, dn, rfl, hi, HDr, HBk⟩ := hrel
      generalize wr = wz at *
      have x0 := HBk.out.2.2.1.cell 0
      simp at x0
      by_cases hlt : i < D.length
      · have hlt' : (i : Int) < D.length := by omega
        have hd : D[i]? = some (D[i]'hlt) := List.getElem?_eq_getElem hlt
        have hdl := hS.out.2 _ (List.getElem_mem hlt)
        generalize D[i]'hlt = d at hd hdl
        obtain ⟨f, z, A1, PA, A1', hty, hz, hQ, hAl, hDr2, hLb⟩ := HDr.out.step hd
        have hdn : dn.length = i := HDr.out.1
        have hdc : (dn ++ D.drop i)[i]? = some d := by rw [List.getElem?_append_right (by omega), hdn, Nat.sub_self, List.getElem?_drop]; simpa using hd
        have hcl : (dn ++ D.drop i).length = D.length := by rw [List.length_append, List.length_drop]; omega
        have HSet : Hid (∀ e : Df, (dn ++ D.drop i).set i e = (dn ++ [e]) ++ D.drop (i + 1)) := hide_ (fun e => by
          rw [List.set_append_right _ _ (by omega), hdn, Nat.sub_self]
          obtain ⟨h1, h2⟩ := List.getElem?_eq_some_iff.1 hd
          rw [List.drop_eq_getElem_cons h1, List.set_cons_zero, List.append_assoc]
          rfl)
        have hhl : (headB bb d.name).length = bb.length + 5 + (d.name.size + 3) := by unfold headB; rw [List.length_append, List.length_append, List.length_append, ← Lib.size_eq]; rfl
        simp only [List.length_append, List.length_cons, List.length_nil] at hLb
        have hlx : (headB bb d.name).length + (txtP (opnS stB z ++ (PA ++ clsS stB z))).length ≤ 800000000 := by omega
        have hbl : bb.length ≤ 800000000 := by omega
        have hnl : d.name.size ≤ 800000000 := by omega
        have htl : d.ty.length ≤ 100000000 := by omega
        have hm0 : 0 < d.ty.length := by rw [hty]; simp
        obtain ⟨bb1, hbb1⟩ : ∃ bb1, bb ++ [116, 121, 112, 101, 32] = bb1 := ⟨_, rfl⟩
        have hb1l : bb1.length ≤ 800000100 := by rw [← hbb1]; simp; omega
        rw [hbb1] at hDr2
        have HDr2 := hide_ hDr2
        have HX : Hid (∀ Y : ByteArray, Y.data.toList = d.name.data.toList ++ [32, 61, 32] → bb1 ++ Y.data.toList = headB bb d.name) := hide_ (fun Y hY => by rw [hY, ← hbb1]; rfl)
        obtain ⟨bh, hbh⟩ : ∃ bh, headB bb d.name = bh := ⟨_, rfl⟩
        rw [hbh] at hQ HDr2 HX hlx
        have Hbb1 := hide_ hbb1
        have HEx : Hid (∀ w8 : World, BkS w w8 B g s3 (.slice va D.length cap) ((dn ++ D.drop i).set i { d with a := (bb1.length : Int) }) vs bh → ∀ gd, va = some ⟨gd, 0, none⟩ → ∃ gn cn, w8.cell? ⟨gd, i * 3 + 2, none⟩ = some (.slice (some ⟨gn, 0, none⟩) d.ty.length cn) ∧
          Calls Try.prog 18 #[.pointer (some ⟨g, 0, none⟩), .slice (some ⟨gn, 0, none⟩) d.ty.length cn, .int .i64 0, .bool false] w8 fun e w' => e = .returned (.int .i64 (d.ty.length : Int)) ∧ Hid (BkS w w' B g s3 (.slice va D.length cap) ((dn ++ D.drop i).set i ⟨d.name, (bb1.length : Int), { z with a := (bh.length : Int) } :: A1'⟩) vs (bh ++ txtP (opnS stB z ++ (PA ++ clsS stB z))))) := hide_ (fun w8 h gd hgd => by
            subst hgd
            have h9 := exprK2 h (i := i) (f := f) (d := { d with a := (bb1.length : Int) }) (List.getElem?_set_self (by rw [hcl]; exact hlt)) hty hz hQ hlx htl
            obtain ⟨gn, cn, h1, h2⟩ := h9
            refine ⟨gn, cn, h1, h2.mono fun e w' ⟨h3, h4⟩ => ⟨h3, ?_⟩⟩
            rw [List.set_set] at h4
            exact h4)
        have Hhd3 : Hid (((dn ++ D.drop i).set i { d with a := (bb1.length : Int) })[i]? = some { d with a := (bb1.length : Int) }) := hide_ (List.getElem?_set_self (by rw [hcl]; exact hlt))
        have Hhd4 : Hid (((dn ++ D.drop i).set i ⟨d.name, (bb1.length : Int), { z with a := (bh.length : Int) } :: A1'⟩)[i]? = some ⟨d.name, (bb1.length : Int), { z with a := (bh.length : Int) } :: A1'⟩) := hide_ (List.getElem?_set_self (by rw [hcl]; exact hlt))
        have HNl : Hid (({ z with a := (bh.length : Int) } :: A1').length = d.ty.length) := hide_ (by rw [hty]; simp [hAl])
        clear hQ hz hty hAl hDr2 hbb1 hLb hbh hd HDr hhl
        go_wp2_with fail
        refine (putK ⟨#[116, 121, 112, 101, 32]⟩ HBk (by omega) (by decide)).mono ?_; rintro e w6 ⟨rfl, HBk2⟩
        rw [show (⟨#[116, 121, 112, 101, 32]⟩ : ByteArray).data.toList = [116, 121, 112, 101, 32] from rfl, Hbb1.out] at HBk2
        obtain ⟨gd, cap2, hv, hc2, c1, z1, hB3⟩ := HBk2.out.setA hdc (bb1.length : Int)
        rw [hcl] at hv hc2
        injection hv with e1 e2 e3
        subst e1 e3
        obtain ⟨_, vb, hKg, hR⟩ := HBk2.out.1
        obtain ⟨ab, capb, hvb⟩ := hR.form
        subst hvb
        have g0 := hKg.cell 0
        simp at g0
        have x0 := HBk2.out.2.2.1.cell 0
        simp at x0
        obtain ⟨w7, hw7⟩ : ∃ w7, w7 = (w6.setCell ⟨gd, i * 3 + 1, none⟩ (.int .i64 (bb1.length : Int))).drew := ⟨_, rfl⟩
        rw [← hw7] at hB3
        have HBk3 := hide_ hB3
        have HHw := hide_ hw7
        clear hB3 hw7 hKg hR HBk hdc
        go_upto_region 12 with fail
        go_region
        rw [← HHw.out]
        clear HHw g0 x0 c1 z1 HBk2
        obtain ⟨gn, cn, y0, -⟩ := HBk3.out.cellsT Hhd3.out hm0
        have y0 : w7.cell? ⟨gd, i * 3, none⟩ = some (.string d.name) := y0
        have x0 := HBk3.out.2.2.1.cell 0
        simp at x0
        go_wp2_with fail
        generalize hY : (d.name ++ (⟨#[32, 61, 32]⟩ : ByteArray)) = Y
        have hYs : Y.size ≤ 800000010 := by rw [← hY, ByteArray.size_append]; show d.name.size + 3 ≤ 800000010; omega
        have HY := hide_ (HX.out Y (by rw [← hY]; simp))
        clear hY
        refine (putK Y HBk3 (by omega) (by omega)).mono ?_; rintro e w8 ⟨rfl, HBk4⟩
        rw [HY.out] at HBk4
        obtain ⟨gn2, cn2, y2, hEx⟩ := HEx.out w8 HBk4.out gd rfl
        have HEx2 := hide_ hEx
        have x0 := HBk4.out.2.2.1.cell 0
        simp at x0
        have hm1 : ((d.ty.length : Int) == 0) = false := by
          have : (d.ty.length : Int) ≠ 0 := by omega
          simpa using this
        clear hEx HEx HBk3 y0 HY
        go_wp2_with fail
        refine HEx2.out.mono ?_; rintro e w9 ⟨rfl, HBk5⟩
        obtain ⟨gn3, cn3, -, y2a⟩ := HBk5.out.cellsT Hhd4.out (by rw [HNl.out]; exact hm0)
        have y2 : w9.cell? ⟨gd, i * 3 + 2, none⟩ = some (.slice (some ⟨gn3, 0, none⟩) d.ty.length cn3) := by rw [← HNl.out]; exact y2a
        clear y2a
        have x0 := HBk5.out.2.2.1.cell 0
        simp at x0
        have hb5 : (bh ++ txtP (opnS stB z ++ (PA ++ clsS stB z))).length ≤ 800000000 := by rw [List.length_append]; exact hlx
        clear HEx2 HBk4 hm1
        go_wp2_with fail
        refine (putK ⟨#[59, 10]⟩ HBk5 (by omega) (by decide)).mono ?_; rintro e w10 ⟨rfl, HBk6⟩
        rw [show (⟨#[59, 10]⟩ : ByteArray).data.toList = [59, 10] from rfl, HSet.out] at HBk6
        clear HBk5 x0 y2
        go_wp2
        go_roundw
        case rel => exact ⟨i + 1, _, _, by go_num, by omega, HDr2, HBk6⟩
        case measure => simp [intOf]; omega
      · obtain rfl : i = D.length := by omega
        obtain ⟨rfl, rfl⟩ := HDr.out.done
        have hdl : dn.length = D.length := HDr.out.1
        rw [List.drop_length, List.append_nil] at HBk
        obtain ⟨_, vb, hKg, hR⟩ := HBk.out.1
        obtain ⟨ab, capb, hvb, hcv⟩ := hR.conv
        subst hvb
        have g0 := hKg.cell 0
        simp at g0
        by_cases hz : 65536 < bb.length
        · have hz' : (65536 : Int) < bb.length := by omega
          have HBf := hide_ HBk.out.2.2.2.1
          clear hcv hKg hR HBk
          go_wp2
          go_ret
          exact ⟨rfl, HBf.out⟩
        · have hz' : ¬ (65536 : Int) < bb.length := by omega
          have hpr := HPr.out (by rw [Lib.size_eq]; simpa using hz)
          have HPa := hide_ (parse_is hpr wz)
          clear hpr hKg hR HPr
          go_wp2_with fail
          refine HPa.out.mono ?_; rintro e w6 ⟨a2, c2, vs2, rfl, hc2, -, HD2, HB6⟩
          obtain ⟨k1, k2, hB7⟩ := boxes2b w6 (.slice a2 dn.length c2) (.int .i64 0) (.int .i64 0)
          obtain ⟨w7, hw7⟩ : ∃ w7, w7 = (w6.alloc (.cells #[.slice a2 dn.length c2] 25)).alloc (.cells #[.int .i64 0, .int .i64 0] 28) := ⟨_, rfl⟩
          rw [← hw7] at k1 k2 hB7
          have hB67 := below_to HB6.out hB7
          have HBk7 := hide_ (HBk.out.later hB67)
          have HR2 := hide_ (HD2.out.1.later hB7)
          obtain ⟨va2, cp2, hv, -, hR1⟩ := HBk7.out.2.1.row
          rw [hdl] at hv
          injection hv with e1 e2 e3
          subst e1 e3
          have HR1 := hide_ hR1
          have HL1 := hide_ HBk7.out.2.1.lens
          have HSm := same_any va a2 cap c2 dn w7 HL1 HR1 HR2
          rw [hdl] at HSm
          have HSm := hide_ HSm
          have HBf := hide_ HBk7.out.2.2.2.1
          have x0 := HBk7.out.2.2.1.cell 0
          have y0 := k1.cell 0
          have y1 := k2.cell 0
          have y2 := k2.cell 1
          simp at x0 y0 y1 y2
          rw [hdl] at y0 hw7
          have hbf := bldF4
          clear k1 k2 hB7 hB67 HBk HBk7 hR1 HR1 HR2 HL1 HPa HD2 HB6 g0 hcv
          rw [hdl]
          go_upto_region 23 with fail
          rw [← hw7]
          clear hw7
          go_wp2_with fail
          refine HSm.out.mono ?_; rintro e w8 ⟨rfl, hB8⟩
          have HBf := hide_ (below_to HBf.out hB8)
          go_wp2
          go_ret
          exact ⟨by simp, HBf.out⟩
  · have hq' : (q3 == 0) = false := by simpa using hq
    go_wp2
    go_ret
    exact ⟨rfl, HB4.out⟩
end Go.Proofs.Ytokepgimjdalaaa

/- How long a source's text is at most: plain. -/
namespace Go.Proofs.Ytokepgimjdalaaa
open Go.RowKit
set_option linter.unusedVariables false

theorem dec_len20 (n : Nat) : (dec n).length ≤ 20 := by have := decF_len 20 n; simpa [dec] using this
theorem wb_len_w (s : ByteArray) : (wb (qw s)).length = s.size := by rw [wb_w, ← Lib.size_eq]
theorem word_len {x : Nd} {k : Int} {d : Nat} (h : ndE x k d = 0) : (wordT x).size ≤ 32 := by
  have hn := (nd_ok h).2.2.1
  by_cases h9 : x.k = 9
  · have e : wordT x = x.name := by unfold wordT; rw [if_neg (by omega), if_neg (by omega), if_neg (by omega), if_neg (by omega), if_neg (by omega), if_neg (by omega), if_neg (by omega), if_neg (by omega)]
    rw [e]
    rw [h9] at hn
    exact (of_decide_eq_true (show isName x.name = true from hn)).2.1
  · have hnm : x.name.size = 0 := by
      rw [decide_eq_false h9] at hn
      exact of_decide_eq_true (show decide (x.name.size = 0) = true from hn)
    unfold wordT wordN
    repeat' split
    all_goals first | decide | omega
theorem hd_len {x : Nd} {k : Int} {d : Nat} (h : ndE x k d = 0) : (txtP (hdS stB k x)).length ≤ 34 := by
  unfold hdS
  by_cases h7 : k = 7
  · rw [if_pos h7]
    have := dec_len20 x.tag.toNat
    simp [txtP, wb_n, wb_m, stB]
    omega
  · rw [if_neg h7]
    by_cases h8 : k = 8
    · rw [if_pos h8]
      have hl : x.label.size ≤ 32 := by
        have hn := (nd_ok h).2.2.2.1
        rw [h8] at hn
        exact (of_decide_eq_true (show isName x.label = true from hn)).2.1
      simp only [txtP, List.length_append, wb_len_w, wb_m, stB, List.length_cons, List.length_nil]
      omega
    · rw [if_neg h8]; simp [txtP]
theorem opn_len {x : Nd} {k : Int} {d : Nat} (h : ndE x k d = 0) : (txtP (opnS stB x)).length ≤ 34 := by
  have hw := word_len h
  unfold opnS
  repeat' split
  all_goals (simp only [txtP, List.length_append, wb_len_w, wb_m, stB, List.length_cons, List.length_nil]; omega)
theorem cls_len (x : Nd) : (txtP (clsS stB x)).length ≤ 24 := by
  have := dec_len20 x.n.toNat
  unfold clsS
  repeat' split
  all_goals (simp [txtP, wb_n, wb_m, stB]; try omega)
theorem sep_len (k : Int) (n : Nat) : (txtP (sepS k n)).length ≤ 1 := by
  unfold sepS
  split
  · simp [txtP, wb_m]
  · simp [txtP]
theorem wq_txt : ∀ (fu d : Nat) (k : Int) (n : Nat) (N : List Nd) (p : Nat) (P : List (Q × List UInt8)) (N' : List Nd), WQ stB fu d k n N p P N' → (txtP P).length ≤ 100 * N.length
  | 0, d, k, n, N, p, P, N', h => by rw [h.2.2.1]; simp [txtP]
  | fu + 1, d, k, 0, N, p, P, N', h => by rw [h.2.1]; simp [txtP]
  | fu + 1, d, k, n + 1, N, p, P, N', h => by
    obtain ⟨x, A, B, PA, PB, A', B', h1, h2, hA, hB, h5, h6⟩ := h
    have a1 := wq_txt fu _ _ _ _ _ _ _ hA
    have a2 := wq_txt fu _ _ _ _ _ _ _ hB
    have b1 := hd_len h2
    have b2 := opn_len h2
    have b3 := cls_len x
    have b4 := sep_len k n
    rw [h1, h5]
    simp only [txtP_app, List.length_append, List.length_cons]
    omega
def sumN : List Df → Nat
  | [] => 0
  | d :: D => d.ty.length + 1 + sumN D
theorem wdq_txt : ∀ (D : List Df) (p : Nat) (P : List (Q × List UInt8)) (D' : List Df), WDQ stB D p P D' → (∀ d ∈ D, isName d.name = true) → (txtP P).length ≤ 100 * sumN D
  | [], p, P, D', h, _ => by rw [h.1]; simp [txtP]
  | d :: D, p, P, D', h, hn => by
    obtain ⟨PN, N', PD, E', hN, hD, h3, _⟩ := h
    have a1 := wq_txt _ _ _ _ _ _ _ _ hN
    have a2 := wdq_txt D _ PD E' hD (fun e he => hn e (List.mem_cons_of_mem _ he))
    have hs : d.name.size ≤ 32 := (of_decide_eq_true (hn d (List.mem_cons_self))).2.1
    rw [h3]
    simp only [txtP, txtP_app, List.length_append, wb_len_w, wb_m, stB, List.length_cons, List.length_nil, sumN]
    have e4 : (⟨#[116, 121, 112, 101]⟩ : ByteArray).size = 4 := rfl
    omega
theorem sumN_mem : ∀ {D : List Df} {d : Df}, d ∈ D → d.ty.length + 1 ≤ sumN D
  | e :: D, d, h => by
    simp only [sumN]
    rcases List.mem_cons.1 h with e | e
    · subst e; omega
    · have := sumN_mem e; omega
theorem sumN_len : ∀ (D : List Df), D.length ≤ sumN D
  | [] => Nat.zero_le _
  | d :: D => by have := sumN_len D; simp only [sumN, List.length_cons]; omega
end Go.Proofs.Ytokepgimjdalaaa

/- What the bound of an '..Upto' statement says of a source. -/
namespace Go.Proofs.Ytokepgimjdalaaa
open Go.ChangeShapes Go.WideShapes Go.ChangeAt Go.RowKit
set_option linter.unusedVariables false

section
variable {H : Type} {enc : TypeId × Value → H} {w : World} {base : Nat} {held : Bool}
theorem bulk_pos (d : DataW H) : 1 ≤ Rows.uptoBulk d := by
  cases d with
  | lit l => cases l <;> simp [Rows.uptoBulk]
  | nil => simp [Rows.uptoBulk]
  | ptr d => simp [Rows.uptoBulk]
  | slice a b => simp [Rows.uptoBulk]
  | agg a => simp [Rows.uptoBulk]
  | iface a d => simp [Rows.uptoBulk]
  | map a => simp [Rows.uptoBulk]
  | held a => simp [Rows.uptoBulk]
theorem bulk_mem {d : DataW H} : ∀ {l : List (DataW H)}, d ∈ l → Rows.uptoBulk d ≤ Rows.uptoBulkAll l
  | x :: r, h => by
    simp only [Rows.uptoBulkAll]
    rcases List.mem_cons.1 h with e | e
    · subst e; omega
    · have := bulk_mem e; omega
theorem bulk_two : ∀ {l : List (DataW H)}, (∀ d ∈ l, 2 ≤ Rows.uptoBulk d) → 2 * l.length ≤ Rows.uptoBulkAll l
  | [], _ => Nat.zero_le _
  | x :: r, h => by
    have h1 := h x List.mem_cons_self
    have h2 := bulk_two (l := r) (fun d hd => h d (List.mem_cons_of_mem _ hd))
    simp only [Rows.uptoBulkAll, List.length_cons]
    omega
theorem bulk_sum : ∀ {L : List Df} {G : List (DataW H)}, G.length = L.length → (∀ (i : Nat) (d : Df) (g : DataW H), L[i]? = some d → G[i]? = some g → 2 * (d.ty.length + 1) ≤ Rows.uptoBulk g) → 2 * sumN L ≤ Rows.uptoBulkAll G
  | [], G, _, _ => Nat.zero_le _
  | d :: L, [], hl, _ => by simp at hl
  | d :: L, g :: G, hl, h => by
    have h1 := h 0 d g rfl rfl
    have h2 := bulk_sum (L := L) (G := G) (by simpa using hl) (fun i d' g' hd hg => h (i + 1) d' g' (by simpa using hd) (by simpa using hg))
    simp only [Rows.uptoBulkAll, sumN]
    omega
theorem field_bulk {P : Program} {t : TypeId} {fs : Array Field} (ht : P.underlying t = some (.struct fs)) {fuel : Nat} {cs : List Value} {y : DataW H × List MemPlace} (h : DataW.trod enc P w base (fun _ => true) held fuel t cs = some y) :
    cs.length = P.cellsOf t ∧ ∃ m, ∀ (i : Nat) (f : Field) (c : Value), fs[i]? = some f → P.cellsOf f.type = 1 → cs[f.offset]? = some c → ∃ z, DataW.trod enc P w base (fun _ => true) held m f.type [c] = some z ∧ Rows.uptoBulk z.1 + 1 ≤ Rows.uptoBulk y.1 := by
  obtain ⟨xs, m, _, hy, hl, hlen, hf⟩ := DataW.trod_struct ht h
  refine ⟨hl, m, fun i f c hfi hc1 hco => ?_⟩
  have hi : i < xs.length := by
    rw [hlen]
    exact (Array.getElem?_eq_some_iff.1 hfi).1
  have h1 := hf i f hfi
  rw [hc1, List.getElem?_eq_getElem hi] at h1
  obtain ⟨hol, hoc⟩ := List.getElem?_eq_some_iff.1 hco
  have e : (cs.drop f.offset).take 1 = [c] := by
    rw [List.drop_eq_getElem_cons hol, hoc]
    rfl
  rw [e] at h1
  refine ⟨_, h1, ?_⟩
  subst hy
  simp only [Rows.uptoBulk]
  have hm : (xs[i]).1 ∈ xs.map (·.1) := List.mem_map.2 ⟨xs[i], List.getElem_mem _, rfl⟩
  have := bulk_mem hm
  omega
theorem structs_bulk {P : Program} {t e : TypeId} (ht : P.underlying t = some (.slice e)) (hpos : 0 < P.cellsOf e) {fuel : Nat} {a0 : Option Addr} {len cap : Nat} {y : DataW H × List MemPlace} (h : DataW.trod enc P w base (fun _ => true) held fuel t [.slice a0 len cap] = some y) :
    len = 0 ∨ ∃ b off n, ∃ G : List (DataW H), a0 = some ⟨b, off, none⟩ ∧ b < w.heap.size ∧ len ≤ cap ∧ cap ≤ maxLen ∧ G.length = len ∧ Rows.uptoBulkAll G + 1 ≤ Rows.uptoBulk y.1 ∧ ∀ i, i < len → ∃ cs z, cs.length = P.cellsOf e ∧ (∀ j, j < P.cellsOf e → w.cell? ⟨b, off + i * P.cellsOf e + j, none⟩ = cs[j]?) ∧ DataW.trod enc P w base (fun _ => true) held n e cs = some z ∧ G[i]? = some z.1 := by
  rcases Go.Deep.open_slice ht h with ⟨hcs, _⟩ | ⟨x, l, c, m, n, D, Pl, hcs, _, hl, hm, hmm, hy, hel⟩
  · left
    simp at hcs
    exact hcs.2.1
  · simp at hcs
    obtain ⟨rfl, rfl, rfl⟩ := hcs
    by_cases h0 : len = 0
    · exact .inl h0
    right
    have hmc : m = cap := by simpa using hmm
    obtain ⟨b, off, spot⟩ := x
    obtain ⟨cs0, hc0, _⟩ := hel 0 (by omega)
    have q0 := (World.cells?_some hc0).2.2 0 hpos
    have hlen0 := (World.cells?_some hc0).2.1
    have hz : ((⟨b, off, spot⟩ : Addr).add (0 * P.cellsOf e)).add 0 = ⟨b, off, spot⟩ := by simp [Addr.add]
    rw [hz] at q0
    have q1 : w.cell? ⟨b, off, spot⟩ = some (cs0[0]'(by omega)) := by rw [q0]; exact List.getElem?_eq_getElem _
    have hspot : spot = none := by simpa using World.cell?_spot q1
    subst hspot
    refine ⟨b, off, n, (List.range len).map D, rfl, World.block_lt_of_cell? w _ q1, hl, hm, by simp, ?_, fun i hi => ?_⟩
    · subst hy
      simp only [Rows.uptoBulk]
      omega
    · obtain ⟨cs, hcs, ht'⟩ := hel i (by omega)
      refine ⟨cs, _, (World.cells?_some hcs).2.1, fun j hj => ?_, ht', by simp [hi]⟩
      have hcell := (World.cells?_some hcs).2.2 j hj
      rw [add_none, add_none] at hcell
      exact hcell
theorem len7b {cs : List Value} (h : cs.length = 7) : ∃ c0 c1 c2 c3 c4 c5 c6, cs = [c0, c1, c2, c3, c4, c5, c6] := by
  match cs, h with
  | [c0, c1, c2, c3, c4, c5, c6], _ => exact ⟨c0, c1, c2, c3, c4, c5, c6, rfl⟩
theorem len3b {cs : List Value} (h : cs.length = 3) : ∃ c0 c1 c2, cs = [c0, c1, c2] := by
  match cs, h with
  | [c0, c1, c2], _ => exact ⟨c0, c1, c2, rfl⟩
theorem len1b {cs : List Value} (h : cs.length = 1) : ∃ c0, cs = [c0] := by
  match cs, h with
  | [c0], _ => exact ⟨c0, rfl⟩
theorem cellsExB : Try.prog.cellsOf 40 = 7 := by kernel_rfl
theorem cellsDfB : Try.prog.cellsOf 38 = 3 := by kernel_rfl
theorem cellsSoB : Try.prog.cellsOf 25 = 1 := by kernel_rfl
theorem expr_bulk {fuel : Nat} {cs : List Value} {y : DataW H × List MemPlace} (h : DataW.trod enc Try.prog w base (fun _ => true) held fuel 40 cs = some y) : ∃ x : Nd, cs = ndc x ∧ 2 ≤ Rows.uptoBulk y.1 := by
  obtain ⟨hl, m, hf⟩ := field_bulk Try.underlying40 h
  rw [cellsExB] at hl
  obtain ⟨c0, c1, c2, c3, c4, c5, c6, rfl⟩ := len7b hl
  obtain ⟨y0, t0, b0⟩ := hf 0 _ c0 rfl (by kernel_rfl) rfl
  obtain ⟨y1, t1, _⟩ := hf 1 _ c1 rfl (by kernel_rfl) rfl
  obtain ⟨y2, t2, _⟩ := hf 2 _ c2 rfl (by kernel_rfl) rfl
  obtain ⟨y3, t3, _⟩ := hf 3 _ c3 rfl (by kernel_rfl) rfl
  obtain ⟨y4, t4, _⟩ := hf 4 _ c4 rfl (by kernel_rfl) rfl
  obtain ⟨y5, t5, _⟩ := hf 5 _ c5 rfl (by kernel_rfl) rfl
  obtain ⟨y6, t6, _⟩ := hf 6 _ c6 rfl (by kernel_rfl) rfl
  obtain ⟨a0, k0, _, _⟩ := DataW.trod_int Try.underlying3 t0
  obtain ⟨a1, k1, _, _⟩ := DataW.trod_int Try.underlying3 t1
  obtain ⟨a2, k2, _, _⟩ := DataW.trod_string Try.underlying9 t2
  obtain ⟨a3, k3, _, _⟩ := DataW.trod_string Try.underlying9 t3
  obtain ⟨a4, k4, _, _⟩ := DataW.trod_int Try.underlying3 t4
  obtain ⟨a5, k5, _, _⟩ := DataW.trod_int Try.underlying3 t5
  obtain ⟨a6, k6, _, _⟩ := DataW.trod_int Try.underlying3 t6
  simp at k0 k1 k2 k3 k4 k5 k6
  subst k0 k1 k2 k3 k4 k5 k6
  have := bulk_pos y0.1
  exact ⟨⟨a0, a1, a2, a3, a4, a5, a6⟩, rfl, by omega⟩
theorem slice_formB {P : Program} {t e : TypeId} (ht : P.underlying t = some (.slice e)) {fuel : Nat} {c : Value} {y : DataW H × List MemPlace} (h : DataW.trod enc P w base (fun _ => true) held fuel t [c] = some y) : ∃ a n cap, c = .slice a n cap ∧ n ≤ cap ∧ (a = none → cap = 0) ∧ n ≤ maxLen := by
  rcases Go.Deep.open_slice ht h with ⟨hcs, _⟩ | ⟨x, l, c', m, n, D, Pl, hcs, _, hl, hm, _⟩
  · simp at hcs
    exact ⟨none, 0, 0, hcs, Nat.le_refl _, fun _ => rfl, Nat.zero_le _⟩
  · simp at hcs
    exact ⟨some x, l, c', hcs, hl, (fun h => by cases h), Nat.le_trans hl hm⟩
theorem list_ofB {α : Type} (n : Nat) (Q : Nat → α → Prop) (h : ∀ i, i < n → ∃ x, Q i x) : ∃ l : List α, l.length = n ∧ ∀ i x, l[i]? = some x → Q i x := by
  induction n with
  | zero => exact ⟨[], rfl, fun i x h => by simp at h⟩
  | succ n ih =>
    obtain ⟨l, h1, h2⟩ := ih (fun i hi => h i (by omega))
    obtain ⟨x, hx⟩ := h n (by omega)
    refine ⟨l ++ [x], by simp [h1], fun i y hy => ?_⟩
    rcases Nat.lt_or_ge i l.length with hi | hi
    · rw [List.getElem?_append_left hi] at hy; exact h2 i y hy
    · rw [List.getElem?_append_right hi] at hy
      have h0 : i - l.length = 0 := by have := (List.getElem?_eq_some_iff.1 hy).1; simpa using this
      rw [h0] at hy
      simp at hy
      subst hy
      obtain rfl : i = n := by omega
      exact hx
theorem exprs_bulk {fuel : Nat} {c : Value} {y : DataW H × List MemPlace} (h : DataW.trod enc Try.prog w base (fun _ => true) held fuel 36 [c] = some y) :
    ∃ a cap N, c = .slice a N.length cap ∧ N.length ≤ cap ∧ (a = none → cap = 0) ∧ NRow w a N ∧ 2 * N.length + 1 ≤ Rows.uptoBulk y.1 := by
  obtain ⟨a, n, cap, rfl, hc, hz, _⟩ := slice_formB Try.underlying36 h
  rcases structs_bulk Try.underlying36 (by rw [cellsExB]; omega) h with h0 | ⟨b, off, m, G, rfl, hbl, hlc, hcm, hG, hbu, hel⟩
  · subst h0
    exact ⟨a, cap, [], rfl, hc, hz, .inl rfl, bulk_pos _⟩
  · rw [cellsExB] at hel
    have h2 := bulk_two (l := G) (fun g hg => by
      obtain ⟨i, hi, rfl⟩ := List.getElem_of_mem hg
      obtain ⟨cs, z, _, _, ht, hgi⟩ := hel i (by omega)
      rw [List.getElem?_eq_getElem hi] at hgi
      injection hgi with hgi
      rw [hgi]
      exact (expr_bulk ht).choose_spec.2)
    obtain ⟨N, hN, hQ⟩ := list_ofB n (fun i (x : Nd) => ∀ j, j < 7 → w.cell? ⟨b, off + i * 7 + j, none⟩ = (ndc x)[j]?) (fun i hi => by
      obtain ⟨cs, z, _, hcell, ht, _⟩ := hel i hi
      obtain ⟨x, rfl, _⟩ := expr_bulk ht
      exact ⟨x, hcell⟩)
    subst hN
    exact ⟨some ⟨b, off, none⟩, cap, N, rfl, hc, hz, .inr ⟨b, off, rfl, hbl, fun i x hx => hQ i x hx⟩, by omega⟩
theorem def_bulk {fuel : Nat} {cs : List Value} {y : DataW H × List MemPlace} (h : DataW.trod enc Try.prog w base (fun _ => true) held fuel 38 cs = some y) :
    ∃ (d : Df) (va : Option Addr) (vc : Nat), cs = dfc d (.slice va d.ty.length vc) ∧ d.ty.length ≤ vc ∧ (va = none → vc = 0) ∧ NRow w va d.ty ∧ 2 * (d.ty.length + 1) ≤ Rows.uptoBulk y.1 := by
  obtain ⟨hl, m, hf⟩ := field_bulk Try.underlying38 h
  rw [cellsDfB] at hl
  obtain ⟨c0, c1, c2, rfl⟩ := len3b hl
  obtain ⟨y0, t0, _⟩ := hf 0 _ c0 rfl (by kernel_rfl) rfl
  obtain ⟨y1, t1, _⟩ := hf 1 _ c1 rfl (by kernel_rfl) rfl
  obtain ⟨y2, t2, u2⟩ := hf 2 _ c2 rfl (by kernel_rfl) rfl
  obtain ⟨a0, k0, _, _⟩ := DataW.trod_string Try.underlying9 t0
  obtain ⟨a1, k1, _, _⟩ := DataW.trod_int Try.underlying3 t1
  obtain ⟨va, vc, N, rfl, e1, e2, e3, e4⟩ := exprs_bulk t2
  simp at k0 k1
  subst k0 k1
  exact ⟨⟨a0, a1, N⟩, va, vc, rfl, e1, e2, e3, by show 2 * (N.length + 1) ≤ _; omega⟩
theorem defs_bulk {fuel : Nat} {c : Value} {y : DataW H × List MemPlace} (h : DataW.trod enc Try.prog w base (fun _ => true) held fuel 23 [c] = some y) :
    ∃ a cap D, c = .slice a D.length cap ∧ D.length ≤ cap ∧ DRow w a D ∧ 2 * sumN D ≤ Rows.uptoBulk y.1 := by
  obtain ⟨a, n, cap, rfl, hc, hz, _⟩ := slice_formB Try.underlying23 h
  rcases structs_bulk Try.underlying23 (by rw [cellsDfB]; omega) h with h0 | ⟨b, off, m, G, rfl, hbl, hlc, hcm, hG, hbu, hel⟩
  · subst h0
    exact ⟨a, cap, [], rfl, hc, .inl rfl, Nat.zero_le _⟩
  · rw [cellsDfB] at hel
    obtain ⟨D, hD, hQ⟩ := list_ofB n (fun i (d : Df) => (∀ g, G[i]? = some g → 2 * (d.ty.length + 1) ≤ Rows.uptoBulk g) ∧ ∃ va vc, (∀ j, j < 3 → w.cell? ⟨b, off + i * 3 + j, none⟩ = (dfc d (.slice va d.ty.length vc))[j]?) ∧ d.ty.length ≤ vc ∧ (va = none → vc = 0) ∧ NRow w va d.ty) (fun i hi => by
      obtain ⟨cs, z, _, hcell, ht, hgi⟩ := hel i hi
      obtain ⟨d, va, vc, rfl, e1, e2, e3, e4⟩ := def_bulk ht
      exact ⟨d, fun g hg => by rw [hgi] at hg; injection hg with hg; subst hg; exact e4, va, vc, hcell, e1, e2, e3⟩)
    subst hD
    have hs := bulk_sum (L := D) (G := G) hG (fun i d g hd hg => (hQ i d hd).1 g hg)
    exact ⟨some ⟨b, off, none⟩, cap, D, rfl, hc, .inr ⟨b, off, rfl, hbl, fun i d hd => (hQ i d hd).2⟩, by omega⟩
theorem source_bulk {fuel : Nat} {cs : List Value} {y : DataW H × List MemPlace} (h : DataW.trod enc Try.prog w base (fun _ => true) held fuel 25 cs = some y) :
    ∃ a cap D, cs = [.slice a D.length cap] ∧ D.length ≤ cap ∧ DRow w a D ∧ 2 * sumN D ≤ Rows.uptoBulk y.1 := by
  obtain ⟨hl, m, hf⟩ := field_bulk Try.underlying25 h
  rw [cellsSoB] at hl
  obtain ⟨c0, rfl⟩ := len1b hl
  obtain ⟨y0, t0, u0⟩ := hf 0 _ c0 rfl (by kernel_rfl) rfl
  obtain ⟨a, cap, D, rfl, e1, e2, e3⟩ := defs_bulk t0
  exact ⟨a, cap, D, rfl, e1, e2, by omega⟩
end
end Go.Proofs.Ytokepgimjdalaaa
