/- Raise: goesOn, what lays behind the program, leaf, pastItem, anyVariable. -/
import Derived.Test.YtncndgfaalojpaaRwa
import Derived.Test.YtncndgfaalojpaaRgf
namespace Go.Proofs.Ytncndgfaalojpaa
open Go.RowKit
set_option linter.unusedVariables false

def hopB (op : Int) : Bool := decide (op = 9 ∨ op = 19 ∨ op = 40 ∨ op = 47)
def layI (x : In) (n : Nat) : In := if hopB x.op then ⟨x.op, x.a, x.b + (n : Int), x.c⟩ else x
set_option maxRecDepth 100000 in
set_option maxHeartbeats 4000000 in
theorem hop_any (op : Int) (w : World) : Calls Try.prog 24 #[.int .i64 op] w fun e w' => e = .returned (.bool (hopB op)) ∧ w = w' := by
  by_cases h9 : op = 9
  · subst h9
    go_enter Try.func24, Try.ntmps24
    go_wp2
    go_ret
    exact ⟨rfl, rfl⟩
  by_cases h19 : op = 19
  · subst h19
    go_enter Try.func24, Try.ntmps24
    go_wp2
    go_ret
    exact ⟨rfl, rfl⟩
  by_cases h40 : op = 40
  · subst h40
    go_enter Try.func24, Try.ntmps24
    go_wp2
    go_ret
    exact ⟨rfl, rfl⟩
  have HG : Hid (hopB op = (op == 47)) := hide_ (by
    unfold hopB
    by_cases h47 : op = 47
    · subst h47; rfl
    · rw [decide_eq_false (by omega)]; symm; simpa using h47)
  have e1 : (op == 9) = false := by simpa using h9
  have e2 : (op == 19) = false := by simpa using h19
  have e3 : (op == 40) = false := by simpa using h40
  clear h9 h19 h40
  go_enter Try.func24, Try.ntmps24
  go_wp2
  go_ret
  exact ⟨by rw [HG.out]; rfl, rfl⟩
set_option maxRecDepth 100000 in
set_option maxHeartbeats 4000000 in
theorem lay_any (B gr gp gb : Nat) (vT vL : Value) (C : List In) (E : List Int) (x : In) (w : World) (hl : C.length ≤ 1000000000) (hx : hopB x.op = true → -1000000 ≤ x.b ∧ x.b ≤ 1000000) (h : Hid (Rz w B gr gp gb vT vL C E)) :
    Calls Try.prog 23 #[.agg #[.int .i64 x.op, .int .i64 x.a, .int .i64 x.b, .int .i64 x.c], .pointer (some ⟨gb, 0, none⟩)] w fun e w' => e = .returned (.tuple #[]) ∧ Hid (Rz w' B gr gp gb vT vL (C ++ [layI x C.length]) E) ∧ Hid (Kp B w w') := by
  obtain ⟨w1, hw1⟩ : ∃ wx, wx = w.alloc (.cells #[.int .i64 x.op, .int .i64 x.a, .int .i64 x.b, .int .i64 x.c] 35) := ⟨_, rfl⟩
  have hB1 : Below w.heap.size w w1 := by rw [hw1]; exact below1 _ _
  have kx1 : Blk w1 w.heap.size 35 (inc x) := by rw [hw1]; exact Blk.newA w _ _
  have HGo := hide_ (hop_any x.op w1)
  have j0 := kx1.cell 0
  simp [inc] at j0
  go_enter Try.func23, Try.ntmps23
  go_upto_region 1 with fail
  rw [← hw1]
  clear hw1
  cases hg : hopB x.op with
  | true =>
    rw [hg] at HGo
    have HLI : Hid (layI x C.length = ⟨x.op, x.a, x.b + (C.length : Int), x.c⟩) := hide_ (by unfold layI; rw [if_pos hg])
    obtain ⟨hx0, hx1⟩ := hx hg
    obtain ⟨vC0, vE0, hk0, hc0, -⟩ := (h.out.later hB1).bp
    obtain ⟨a0, c0, rfl, -⟩ := hc0.row
    have HS1 : Hid ((fun w' => w'.cell? ⟨gb, 0, none⟩ = some (.pointer (some ⟨gp, 0, none⟩)) ∧ w'.cell? ⟨gp, 1, none⟩ = some (.slice a0 C.length c0) ∧ w'.cell? ⟨w.heap.size, 2, none⟩ = some (.int .i64 x.b)) w1.drew) := hide_ ⟨by have := ((h.out.later hB1).bb.drew).cell 0; simpa using this, by have := hk0.drew.cell 1; simpa using this, kx1.drew.cell 2⟩
    have K1 : Hid (Blk w1.drew w.heap.size 35 [.int .i64 x.op, .int .i64 x.a, .int .i64 x.b, .int .i64 x.c]) := hide_ kx1.drew
    obtain ⟨wq, hwq⟩ : ∃ wx, wx = (w1.setCell ⟨w.heap.size, 2, none⟩ (.int .i64 (x.b + (C.length : Int)))).drew := ⟨_, rfl⟩
    have hwr : IntKind.i64.wrap (x.b + (C.length : Int)) = x.b + (C.length : Int) := i64w _ (by omega)
    have kx : Hid (Blk wq w.heap.size 35 (inc ⟨x.op, x.a, x.b + (C.length : Int), x.c⟩)) := hide_ (by
      rw [hwq]
      have := (kx1.set 2 (.int .i64 (x.b + (C.length : Int)))).drew
      simpa [inc] using this)
    have HBq : Hid (Below w.heap.size w wq) := hide_ (by rw [hwq]; exact Below.drew (below_set hB1 _ _ _ (Nat.le_refl _)))
    have H1 := hide_ (h.out.later HBq.out)
    clear kx1 hc0 hk0 hB1 hx hg
    go_upto_region 2 with (go_at_call 24; refine HGo.out.mono ?_; rintro e w' ⟨rfl, rfl⟩)
    clear HGo j0
    refine wp_region_last 9 (fun w' => w'.cell? ⟨gb, 0, none⟩ = some (.pointer (some ⟨gp, 0, none⟩)) ∧ w'.cell? ⟨gp, 1, none⟩ = some (.slice a0 C.length c0) ∧ w'.cell? ⟨w.heap.size, 2, none⟩ = some (.int .i64 x.b)) (by kernel_rfl) (HS1.out) (fun hHeld => ?_)
    refine wpAnyF_take [9] (by kernel_rfl) (i := 0) (v := ?vu1) rfl (by kernel_rfl) (by kernel_rfl) (by kernel_rfl) (fun _ _ _ h => h) (Or.inl ⟨by kernel_rfl, ?hyu1⟩) hHeld ?restu1
    case hyu1 => intro w' hSw; (try dsimp only at hSw); go_simp; try with_reducible rfl
    simp only [Act.put]
    refine wpAnyF_take [9] (by kernel_rfl) (i := 1) (v := ?vu2) rfl (by kernel_rfl) (by kernel_rfl) (by kernel_rfl) (fun _ _ _ h => h) (Or.inl ⟨by kernel_rfl, ?hyu2⟩) hHeld ?restu2
    case hyu2 => intro w' hSw; (try dsimp only at hSw); go_simp; try with_reducible rfl
    simp only [Act.put]
    refine wpAnyF_take [9] (by kernel_rfl) (i := 2) (v := ?vu3) rfl (by kernel_rfl) (by kernel_rfl) (by kernel_rfl) (fun _ _ _ h => h) (Or.inl ⟨by kernel_rfl, ?hyu3⟩) hHeld ?restu3
    case hyu3 => intro w' hSw; (try dsimp only at hSw); go_simp; try with_reducible rfl
    simp only [Act.put]
    refine wpAnyF_take [9] (by kernel_rfl) (i := 3) (v := ?vu4) rfl (by kernel_rfl) (by kernel_rfl) (by kernel_rfl) (fun _ _ _ h => h) (Or.inl ⟨by kernel_rfl, ?hyu4⟩) hHeld ?restu4
    case hyu4 => intro w' hSw; (try dsimp only at hSw); go_simp; try with_reducible rfl
    simp only [Act.put]
    refine wpAnyF_take [9] (by kernel_rfl) (i := 4) (v := ?vu5) rfl (by kernel_rfl) (by kernel_rfl) (by kernel_rfl) (fun _ _ _ h => h) (Or.inl ⟨by kernel_rfl, ?hyu5⟩) hHeld ?restu5
    case hyu5 => intro w' hSw; (try dsimp only at hSw); go_simp; try with_reducible rfl
    simp only [Act.put]
    refine wpAnyF_take [9] (by kernel_rfl) (i := 5) (v := ?vu6) rfl (by kernel_rfl) (by kernel_rfl) (by kernel_rfl) (fun _ _ _ h => h) (Or.inl ⟨by kernel_rfl, ?hyu6⟩) hHeld ?restu6
    case hyu6 => intro w' hSw; (try dsimp only at hSw); go_simp; try with_reducible rfl
    simp only [Act.put]
    refine wpAnyF_take [9] (by kernel_rfl) (i := 6) (v := ?vu7) rfl (by kernel_rfl) (by kernel_rfl) (by kernel_rfl) (fun _ _ _ h => h) (Or.inl ⟨by kernel_rfl, ?hyu7⟩) hHeld ?restu7
    case hyu7 => intro w' hSw; (try dsimp only at hSw); go_simp; try with_reducible rfl
    simp only [Act.put]
    refine wpAnyF_take [9] (by kernel_rfl) (i := 7) (v := ?vu8) rfl (by kernel_rfl) (by kernel_rfl) (by kernel_rfl) (fun _ _ _ h => h) (Or.inl ⟨by kernel_rfl, ?hyu8⟩) hHeld ?restu8
    case hyu8 => intro w' hSw; (try dsimp only at hSw); go_simp; try with_reducible rfl
    simp only [Act.put]
    refine wpAnyF_take [9] (by kernel_rfl) (i := 8) (v := ?vu9) rfl (by kernel_rfl) (by kernel_rfl) (by kernel_rfl) (fun _ _ _ h => h) (Or.inl ⟨by kernel_rfl, ?hyu9⟩) hHeld ?restu9
    case hyu9 => intro w' hSw; (try dsimp only at hSw); go_simp; try with_reducible rfl
    simp only [Act.put]
    refine wpAnyF_ready (rs := [9]) (by kernel_rfl) (by simp) ?_
    refine AllReadyF.last rfl (fun K hK => ?_)
    have q2 := K1.out.cell 2; have qz := K1.out.frozen 2
    simp at q2
    go_simp
    refine hK.out _ _ ?_
    clear hK K
    refine wpAnyF_done (by kernel_rfl) ?_ _
    rw [← hwq]
    clear hwq HS1 K1 hwr
    go_upto_region 3 with fail
    obtain ⟨a, c, vE', g, cap, w2, k1, r1, k2, hM, hK, hU⟩ := (H1.out.later ((Below.refl _ _).drew)).push (⟨x.op, x.a, (x.b + (C.length : Int)), x.c⟩ : In) hl
    have hlt : ∀ k, (Value.slice a C.length c).ownBlock = some k → k < w.heap.size := fun k e => by
      obtain ⟨vC, vE, hk, hc, -⟩ := h.out.bp
      have e1 := blk_one (hk.later HBq.out) k1
      obtain ⟨rfl, rfl⟩ : vC = .slice a C.length c ∧ vE = vE' := by simpa using e1
      exact (hc.lies e).2
    have HSS : Hid (∀ w', Below wq.heap.size wq w' → (fun w' => w'.cell? ⟨gb, 0, none⟩ = some (.pointer (some ⟨gp, 0, none⟩)) ∧ w'.cell? ⟨gp, 1, none⟩ = some (.slice a C.length c) ∧ w'.cell? ⟨w.heap.size, 0, none⟩ = some (.int .i64 x.op) ∧ w'.cell? ⟨w.heap.size, 1, none⟩ = some (.int .i64 x.a) ∧ w'.cell? ⟨w.heap.size, 2, none⟩ = some (.int .i64 (x.b + (C.length : Int))) ∧ w'.cell? ⟨w.heap.size, 3, none⟩ = some (.int .i64 x.c)) w') := hide_ (fun w' hb => ⟨by have := (H1.out.bb.later hb).cell 0; simpa using this, by have := (Blk.later (w := wq) k1 hb).cell 1; simpa using this, (kx.out.later hb).cell 0, (kx.out.later hb).cell 1, (kx.out.later hb).cell 2, (kx.out.later hb).cell 3⟩)
    have kx2 : Blk w2 w.heap.size 35 (inc ⟨x.op, x.a, (x.b + (C.length : Int)), x.c⟩) := Blk.upd (w := wq.drew) kx.out hU (fun e => by have := hlt _ e; omega)
    have kb2 : Blk w2 gb 53 [.pointer (some ⟨gp, 0, none⟩)] := Blk.upd (w := wq.drew) H1.out.bb hU (fun e => by
      obtain ⟨vC, vE, hk, hc, -⟩ := h.out.bp
      have e1 := blk_one (hk.later HBq.out) k1
      obtain ⟨rfl, rfl⟩ : vC = .slice a C.length c ∧ vE = vE' := by simpa using e1
      exact notC hc h.out.bb (by decide) e)
    have HS2 : Hid ((fun w' => w'.cell? ⟨gb, 0, none⟩ = some (.pointer (some ⟨gp, 0, none⟩)) ∧ w'.cell? ⟨gp, 1, none⟩ = some (.slice a C.length c) ∧ w'.cell? ⟨w.heap.size, 0, none⟩ = some (.int .i64 x.op) ∧ w'.cell? ⟨w.heap.size, 1, none⟩ = some (.int .i64 x.a) ∧ w'.cell? ⟨w.heap.size, 2, none⟩ = some (.int .i64 (x.b + (C.length : Int))) ∧ w'.cell? ⟨w.heap.size, 3, none⟩ = some (.int .i64 x.c)) w2) := hide_ ⟨by have := kb2.cell 0; simpa using this, by have := k2.cell 1; simpa using this, kx2.cell 0, kx2.cell 1, kx2.cell 2, kx2.cell 3⟩
    have HR := hide_ r1
    have HK2 := hide_ k2
    have HM := hide_ hM
    have HKp : Hid (Kp B w _) := hide_ ((Kp.later HBq.out).trans ((Kp.later ((Below.refl wq.heap.size wq).drew)).trans hK))
    clear k1 r1 k2 hM hK hU kx2 kb2 hlt h H1 kx HBq
    refine wp_region_last 10 (fun w' => w'.cell? ⟨gb, 0, none⟩ = some (.pointer (some ⟨gp, 0, none⟩)) ∧ w'.cell? ⟨gp, 1, none⟩ = some (.slice a C.length c) ∧ w'.cell? ⟨w.heap.size, 0, none⟩ = some (.int .i64 x.op) ∧ w'.cell? ⟨w.heap.size, 1, none⟩ = some (.int .i64 x.a) ∧ w'.cell? ⟨w.heap.size, 2, none⟩ = some (.int .i64 (x.b + (C.length : Int))) ∧ w'.cell? ⟨w.heap.size, 3, none⟩ = some (.int .i64 x.c)) (by kernel_rfl) (HSS.out _ ((Below.refl wq.heap.size wq).drew)) (fun hHeld => ?_)
    refine wpAnyF_take [10] (by kernel_rfl) (i := 0) (v := ?vp1) rfl (by kernel_rfl) (by kernel_rfl) (by kernel_rfl) (fun _ _ _ h => h) (Or.inl ⟨by kernel_rfl, ?hyp1⟩) hHeld ?restp1
    case hyp1 => intro w' hSw; (try dsimp only at hSw); go_simp; try with_reducible rfl
    simp only [Act.put]
    refine wpAnyF_take [10] (by kernel_rfl) (i := 1) (v := ?vp2) rfl (by kernel_rfl) (by kernel_rfl) (by kernel_rfl) (fun _ _ _ h => h) (Or.inl ⟨by kernel_rfl, ?hyp2⟩) hHeld ?restp2
    case hyp2 => intro w' hSw; (try dsimp only at hSw); go_simp; try with_reducible rfl
    simp only [Act.put]
    refine wpAnyF_take [10] (by kernel_rfl) (i := 2) (v := ?vp3) rfl (by kernel_rfl) (by kernel_rfl) (by kernel_rfl) (fun _ _ _ h => h) (Or.inl ⟨by kernel_rfl, ?hyp3⟩) hHeld ?restp3
    case hyp3 => intro w' hSw; (try dsimp only at hSw); go_simp; try with_reducible rfl
    simp only [Act.put]
    refine wpAnyF_take [10] (by kernel_rfl) (i := 3) (v := ?vp4) rfl (by kernel_rfl) (by kernel_rfl) (by kernel_rfl) (fun _ _ _ h => h) (Or.inl ⟨by kernel_rfl, ?hyp4⟩) hHeld ?restp4
    case hyp4 => intro w' hSw; (try dsimp only at hSw); go_simp; try with_reducible rfl
    simp only [Act.put]
    refine wpAnyF_take [10] (by kernel_rfl) (i := 4) (v := ?vp5) rfl (by kernel_rfl) (by kernel_rfl) (by kernel_rfl) (fun _ _ _ h => h) (Or.inl ⟨by kernel_rfl, ?hyp5⟩) hHeld ?restp5
    case hyp5 => intro w' hSw; (try dsimp only at hSw); go_simp; try with_reducible rfl
    simp only [Act.put]
    refine wpAnyF_take [10] (by kernel_rfl) (i := 5) (v := ?vp6) rfl (by kernel_rfl) (by kernel_rfl) (by kernel_rfl) (fun _ _ _ h => h) (Or.inl ⟨by kernel_rfl, ?hyp6⟩) hHeld ?restp6
    case hyp6 => intro w' hSw; (try dsimp only at hSw); go_simp; try with_reducible rfl
    simp only [Act.put]
    refine wpAnyF_ready (rs := [6]) (by kernel_rfl) (by simp) ?_
    refine AllReadyF.cons rfl (fun K hK => ?_) AllReadyF.nil
    go_simp
    refine hK.out _ _ (HSS.out _ (below_to ((Below.refl wq.heap.size wq).drew) (below1 wq.drew _))) (fun hHeld => ?_)
    clear hK K
    refine wpAnyF_ready (rs := [7]) (by kernel_rfl) (by simp) ?_
    refine AllReadyF.cons rfl (fun K hK => ?_) AllReadyF.nil
    refine step_append_run rfl (.tmp 19) (.tmp 21) 27 27 rfl (v := .slice a C.length c) (u := .slice (some ⟨wq.heap.size, 0, none⟩) 1 1) (by kernel_rfl) (by kernel_rfl) HR.out ?_
    simp only [Act.put]
    refine hK.out _ _ (HS2.out) (fun hHeld => ?_)
    clear hK K
    refine wpAnyF_take [10, 9] (by kernel_rfl) (i := 8) (v := ?vp7) rfl (by kernel_rfl) (by kernel_rfl) (by kernel_rfl) (fun _ _ _ h => h) (Or.inl ⟨by kernel_rfl, ?hyp7⟩) hHeld ?restp7
    case hyp7 => intro w' hSw; (try dsimp only at hSw); go_simp; try with_reducible rfl
    simp only [Act.put]
    refine wpAnyF_take [10] (by kernel_rfl) (i := 9) (v := ?vp8) rfl (by kernel_rfl) (by kernel_rfl) (by kernel_rfl) (fun _ _ _ h => h) (Or.inl ⟨by kernel_rfl, ?hyp8⟩) hHeld ?restp8
    case hyp8 => intro w' hSw; (try dsimp only at hSw); go_simp; try with_reducible rfl
    simp only [Act.put]
    refine wpAnyF_ready (rs := [10]) (by kernel_rfl) (by simp) ?_
    refine AllReadyF.last rfl (fun K hK => ?_)
    have q2 := HK2.out.cell 1; have qz := HK2.out.frozen 1
    simp at q2
    go_simp
    refine hK.out _ _ ?_
    clear hK K
    refine wpAnyF_done (by kernel_rfl) ?_ _
    go_wp2_with fail
    go_end0
    exact ⟨rfl, hide_ (by rw [HLI.out]; exact HM.out), HKp⟩
  | false =>
    rw [hg] at HGo
    have HLI : Hid (layI x C.length = x) := hide_ (by unfold layI; rw [if_neg (by rw [hg]; decide)])
    obtain ⟨wq, hwq⟩ : ∃ wx, wx = w1 := ⟨_, rfl⟩
    rw [← hwq] at HGo kx1 hB1 ⊢
    have HBq := hide_ hB1
    have kx := hide_ kx1
    have H1 := hide_ (h.out.later HBq.out)
    rw [← hwq] at j0
    clear hwq hB1 kx1 hg hx
    go_upto_region 3 with (go_at_call 24; refine HGo.out.mono ?_; rintro e w' ⟨rfl, rfl⟩)
    clear HGo j0
    obtain ⟨a, c, vE', g, cap, w2, k1, r1, k2, hM, hK, hU⟩ := (H1.out.later ((Below.refl _ _).drew)).push (⟨x.op, x.a, x.b, x.c⟩ : In) hl
    have hlt : ∀ k, (Value.slice a C.length c).ownBlock = some k → k < w.heap.size := fun k e => by
      obtain ⟨vC, vE, hk, hc, -⟩ := h.out.bp
      have e1 := blk_one (hk.later HBq.out) k1
      obtain ⟨rfl, rfl⟩ : vC = .slice a C.length c ∧ vE = vE' := by simpa using e1
      exact (hc.lies e).2
    have HSS : Hid (∀ w', Below wq.heap.size wq w' → (fun w' => w'.cell? ⟨gb, 0, none⟩ = some (.pointer (some ⟨gp, 0, none⟩)) ∧ w'.cell? ⟨gp, 1, none⟩ = some (.slice a C.length c) ∧ w'.cell? ⟨w.heap.size, 0, none⟩ = some (.int .i64 x.op) ∧ w'.cell? ⟨w.heap.size, 1, none⟩ = some (.int .i64 x.a) ∧ w'.cell? ⟨w.heap.size, 2, none⟩ = some (.int .i64 x.b) ∧ w'.cell? ⟨w.heap.size, 3, none⟩ = some (.int .i64 x.c)) w') := hide_ (fun w' hb => ⟨by have := (H1.out.bb.later hb).cell 0; simpa using this, by have := (Blk.later (w := wq) k1 hb).cell 1; simpa using this, (kx.out.later hb).cell 0, (kx.out.later hb).cell 1, (kx.out.later hb).cell 2, (kx.out.later hb).cell 3⟩)
    have kx2 : Blk w2 w.heap.size 35 (inc ⟨x.op, x.a, x.b, x.c⟩) := Blk.upd (w := wq.drew) kx.out hU (fun e => by have := hlt _ e; omega)
    have kb2 : Blk w2 gb 53 [.pointer (some ⟨gp, 0, none⟩)] := Blk.upd (w := wq.drew) H1.out.bb hU (fun e => by
      obtain ⟨vC, vE, hk, hc, -⟩ := h.out.bp
      have e1 := blk_one (hk.later HBq.out) k1
      obtain ⟨rfl, rfl⟩ : vC = .slice a C.length c ∧ vE = vE' := by simpa using e1
      exact notC hc h.out.bb (by decide) e)
    have HS2 : Hid ((fun w' => w'.cell? ⟨gb, 0, none⟩ = some (.pointer (some ⟨gp, 0, none⟩)) ∧ w'.cell? ⟨gp, 1, none⟩ = some (.slice a C.length c) ∧ w'.cell? ⟨w.heap.size, 0, none⟩ = some (.int .i64 x.op) ∧ w'.cell? ⟨w.heap.size, 1, none⟩ = some (.int .i64 x.a) ∧ w'.cell? ⟨w.heap.size, 2, none⟩ = some (.int .i64 x.b) ∧ w'.cell? ⟨w.heap.size, 3, none⟩ = some (.int .i64 x.c)) w2) := hide_ ⟨by have := kb2.cell 0; simpa using this, by have := k2.cell 1; simpa using this, kx2.cell 0, kx2.cell 1, kx2.cell 2, kx2.cell 3⟩
    have HR := hide_ r1
    have HK2 := hide_ k2
    have HM := hide_ hM
    have HKp : Hid (Kp B w _) := hide_ ((Kp.later HBq.out).trans ((Kp.later ((Below.refl wq.heap.size wq).drew)).trans hK))
    clear k1 r1 k2 hM hK hU kx2 kb2 hlt h H1 kx HBq
    refine wp_region_last 10 (fun w' => w'.cell? ⟨gb, 0, none⟩ = some (.pointer (some ⟨gp, 0, none⟩)) ∧ w'.cell? ⟨gp, 1, none⟩ = some (.slice a C.length c) ∧ w'.cell? ⟨w.heap.size, 0, none⟩ = some (.int .i64 x.op) ∧ w'.cell? ⟨w.heap.size, 1, none⟩ = some (.int .i64 x.a) ∧ w'.cell? ⟨w.heap.size, 2, none⟩ = some (.int .i64 x.b) ∧ w'.cell? ⟨w.heap.size, 3, none⟩ = some (.int .i64 x.c)) (by kernel_rfl) (HSS.out _ ((Below.refl wq.heap.size wq).drew)) (fun hHeld => ?_)
    refine wpAnyF_take [10] (by kernel_rfl) (i := 0) (v := ?vq1) rfl (by kernel_rfl) (by kernel_rfl) (by kernel_rfl) (fun _ _ _ h => h) (Or.inl ⟨by kernel_rfl, ?hyq1⟩) hHeld ?restq1
    case hyq1 => intro w' hSw; (try dsimp only at hSw); go_simp; try with_reducible rfl
    simp only [Act.put]
    refine wpAnyF_take [10] (by kernel_rfl) (i := 1) (v := ?vq2) rfl (by kernel_rfl) (by kernel_rfl) (by kernel_rfl) (fun _ _ _ h => h) (Or.inl ⟨by kernel_rfl, ?hyq2⟩) hHeld ?restq2
    case hyq2 => intro w' hSw; (try dsimp only at hSw); go_simp; try with_reducible rfl
    simp only [Act.put]
    refine wpAnyF_take [10] (by kernel_rfl) (i := 2) (v := ?vq3) rfl (by kernel_rfl) (by kernel_rfl) (by kernel_rfl) (fun _ _ _ h => h) (Or.inl ⟨by kernel_rfl, ?hyq3⟩) hHeld ?restq3
    case hyq3 => intro w' hSw; (try dsimp only at hSw); go_simp; try with_reducible rfl
    simp only [Act.put]
    refine wpAnyF_take [10] (by kernel_rfl) (i := 3) (v := ?vq4) rfl (by kernel_rfl) (by kernel_rfl) (by kernel_rfl) (fun _ _ _ h => h) (Or.inl ⟨by kernel_rfl, ?hyq4⟩) hHeld ?restq4
    case hyq4 => intro w' hSw; (try dsimp only at hSw); go_simp; try with_reducible rfl
    simp only [Act.put]
    refine wpAnyF_take [10] (by kernel_rfl) (i := 4) (v := ?vq5) rfl (by kernel_rfl) (by kernel_rfl) (by kernel_rfl) (fun _ _ _ h => h) (Or.inl ⟨by kernel_rfl, ?hyq5⟩) hHeld ?restq5
    case hyq5 => intro w' hSw; (try dsimp only at hSw); go_simp; try with_reducible rfl
    simp only [Act.put]
    refine wpAnyF_take [10] (by kernel_rfl) (i := 5) (v := ?vq6) rfl (by kernel_rfl) (by kernel_rfl) (by kernel_rfl) (fun _ _ _ h => h) (Or.inl ⟨by kernel_rfl, ?hyq6⟩) hHeld ?restq6
    case hyq6 => intro w' hSw; (try dsimp only at hSw); go_simp; try with_reducible rfl
    simp only [Act.put]
    refine wpAnyF_ready (rs := [6]) (by kernel_rfl) (by simp) ?_
    refine AllReadyF.cons rfl (fun K hK => ?_) AllReadyF.nil
    go_simp
    refine hK.out _ _ (HSS.out _ (below_to ((Below.refl wq.heap.size wq).drew) (below1 wq.drew _))) (fun hHeld => ?_)
    clear hK K
    refine wpAnyF_ready (rs := [7]) (by kernel_rfl) (by simp) ?_
    refine AllReadyF.cons rfl (fun K hK => ?_) AllReadyF.nil
    refine step_append_run rfl (.tmp 19) (.tmp 21) 27 27 rfl (v := .slice a C.length c) (u := .slice (some ⟨wq.heap.size, 0, none⟩) 1 1) (by kernel_rfl) (by kernel_rfl) HR.out ?_
    simp only [Act.put]
    refine hK.out _ _ (HS2.out) (fun hHeld => ?_)
    clear hK K
    refine wpAnyF_take [10, 9] (by kernel_rfl) (i := 8) (v := ?vq7) rfl (by kernel_rfl) (by kernel_rfl) (by kernel_rfl) (fun _ _ _ h => h) (Or.inl ⟨by kernel_rfl, ?hyq7⟩) hHeld ?restq7
    case hyq7 => intro w' hSw; (try dsimp only at hSw); go_simp; try with_reducible rfl
    simp only [Act.put]
    refine wpAnyF_take [10] (by kernel_rfl) (i := 9) (v := ?vq8) rfl (by kernel_rfl) (by kernel_rfl) (by kernel_rfl) (fun _ _ _ h => h) (Or.inl ⟨by kernel_rfl, ?hyq8⟩) hHeld ?restq8
    case hyq8 => intro w' hSw; (try dsimp only at hSw); go_simp; try with_reducible rfl
    simp only [Act.put]
    refine wpAnyF_ready (rs := [10]) (by kernel_rfl) (by simp) ?_
    refine AllReadyF.last rfl (fun K hK => ?_)
    have q2 := HK2.out.cell 1; have qz := HK2.out.frozen 1
    simp at q2
    go_simp
    refine hK.out _ _ ?_
    clear hK K
    refine wpAnyF_done (by kernel_rfl) ?_ _
    go_wp2_with fail
    go_end0
    exact ⟨rfl, hide_ (by rw [HLI.out]; exact HM.out), HKp⟩
end Go.Proofs.Ytncndgfaalojpaa
