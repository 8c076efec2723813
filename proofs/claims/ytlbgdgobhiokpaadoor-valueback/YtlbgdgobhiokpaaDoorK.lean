/- Print. -/
import Derived.Test.YtlbgdgobhiokpaaDoorJ
namespace Go.Proofs.YtlbgdgobhiokpaaDoor
open Go.RowKit
set_option linter.unusedVariables false

theorem closeM_bd : ∀ (T : Stk) (f k : Int), 0 ≤ f → f ≤ 1048576 → (∀ e ∈ T, 0 < e.1 ∧ e.1 ≤ 1048576) → ∀ e ∈ (closeM f k T).2, 0 < e.1 ∧ e.1 ≤ 1048576
  | [], f, k, h0, h1, hT => by
    unfold closeM
    split
    · simp
    · intro e he; simp at he; subst he; simp; omega
  | (g, k2) :: T, f, k, h0, h1, hT => by
    have hg := hT (g, k2) (by simp)
    simp only at hg
    unfold closeM
    split
    · exact closeM_bd T (g - 1) k2 (by omega) (by omega) (fun e he => hT e (by simp [he]))
    · intro e he
      rcases List.mem_cons.1 he with rfl | he
      · simp; omega
      · exact hT e he
theorem Opn.push {B : Nat} {w : World} {v : Value} {K : Stk} (h : Opn B w v K) (c k : Int) (hK : K.length ≤ 1000000) (hB : B ≤ w.heap.size) :
    ∃ v' w', (Builtin.append_ #[84, 84] 84 #[v, .slice (some ⟨w.heap.size, 0, none⟩) 1 1]).run Tryd.prog (w.alloc (.cells #[.int .i64 c, .string (endS k)] 88)) = .ok v' w' ∧ Opn B w' v' ((c, k) :: K) ∧ Kept2 B w w' ∧ ∀ vt l, Txt B w vt l → Txt B w' vt l := by
  obtain ⟨g, cap, w', r1, o1, u1, l1⟩ := run_pushS (P := Tryd.prog) (t := 84) (e := 88) (z := .agg #[.int .i64 0, .string ByteArray.empty]) (bytes := 24) Tryd.underlying84 (by kernel_rfl) rfl (by decide) w 84 h [.int .i64 c, .string (endS k)] rfl (by intro u hu; simp at hu; rcases hu with rfl | rfl <;> rfl) (by unfold maxLen; omega) (by omega) hB
  refine ⟨_, w', r1, by unfold Opn; rw [opnC_cons]; exact o1, ⟨u1.below B hB (fun k hk => (h.lt k hk).1), fun q t xs _ h8 hb => hb.upd u1 fun hk => ?_⟩, fun vt l ht => ownS_upd ht u1 fun q hq hk => ?_⟩
  · obtain ⟨ys, hy⟩ := ownS_type h hk
    exact h8 (blk_type hb hy)
  · obtain ⟨ys, hy⟩ := ownS_type h hk
    obtain ⟨zs, hz⟩ := ownS_type ht hq
    exact absurd (blk_type hy hz) (by decide)
def printS (l : List Nd) : ByteArray := if (chk 1 0 l).1 = 0 then strOfNums (printM l []) else ByteArray.empty
set_option maxRecDepth 100000 in
set_option maxHeartbeats 8000000 in
theorem print_any (a : Option Addr) (len cap : Nat) (l : List Nd) (w : World) (hl : l.length = len) (hs : len ≤ 10000) (hr : Hid (NRow w a l)) (hn : Hid (∀ x ∈ l, 0 ≤ x.2.1)) (ht : Hid (Tab w.heap.size w)) :
    Calls Tryd.prog 11 #[.slice a len cap] w fun e w' => e = .returned (.tuple #[.string (printS l), .int .i64 (chk 1 0 l).1]) ∧ Below w.heap.size w w' := by
  go_enter Tryd.func11, Tryd.ntmps11
  go_wp2_with fail
  refine (check_any a len cap l w hl (by omega) hr).mono ?_; rintro e w1 ⟨rfl, hB1⟩
  rcases chk_err l 1 0 with h | h
  · obtain ⟨-, -, hright⟩ := chk_enough l 1 0 h
    have HR : Hid (∀ x ∈ l, right x = true) := hright
    have HE : Hid ((chk 1 0 l).1 = 0) := h
    have HS : Hid (printS l = strOfNums (printM l [])) := by show _ = _; rw [printS, if_pos h]
    unfold fltv
    rw [h]
    clear hright h
    obtain ⟨wA, hwA⟩ : ∃ wA, wA = w1.alloc (.cells #[.int .i64 0, .int .i64 (chk 1 0 l).2] 29) := ⟨_, rfl⟩
    have HBA : Hid (Below w.heap.size w wA) := by rw [hwA]; exact hB1.alloc hB1.size _
    go_upto_region 4 with fail
    rw [← hwA]
    clear hwA hB1
    go_wp2_with fail
    go_loopw [5, 6, 18] (fun x y i wr => ∃ (vt vo : Value) (L : List Int) (K : Stk) (k : Nat), vt = x ∧ vo = y ∧ i = .int .i64 k ∧ k ≤ len ∧ K.length ≤ k ∧ L.length + 3 * K.length ≤ 26 * k ∧ Hid (Txt w.heap.size wr vt L) ∧ Hid (Opn w.heap.size wr vo K) ∧ Hid (∀ e ∈ K, 0 < e.1 ∧ e.1 ≤ 1048576) ∧
        Hid (L ++ printM (l.drop k) K = printM l []) ∧ Hid (Below w.heap.size w wr)) (fun _ _ i _ => len - (intOf i).toNat)
    case atStart => exact ⟨_, _, [], [], 0, rfl, rfl, rfl, Nat.zero_le _, Nat.le_refl _, by simp, Txt.nil _ _, World.ownsRow_nil _ _ _ _, by intro e he; simp at he, rfl, HBA⟩
    case round =>
      clear HBA
      obtain ⟨vt, vo, L, K, k, rfl, rfl, rfl, hk, hKk, hLK, HT, HO, HF, HP, HB⟩ := hrel
      by_cases hlt : k < len
      · obtain ⟨b, off, rfl, hb, hc⟩ := hr.out.open (by omega)
        obtain ⟨c0, c1, c2⟩ := hc k (by omega)
        have hlt' : (k : Int) < len := by omega
        have d0 := (HB.out.cell (p := ⟨b, off + k * 3, none⟩) hb).trans c0
        have d1 := (HB.out.cell (p := ⟨b, off + k * 3 + 1, none⟩) hb).trans c1
        have d2 := (HB.out.cell (p := ⟨b, off + k * 3 + 2, none⟩) hb).trans c2
        have hmem : l.getD k nil0 ∈ l := by rw [List.getD, List.getElem?_eq_getElem (show k < l.length by omega)]; exact List.getElem_mem _
        have hrx := HR.out _ hmem
        have hnx := hn.out _ hmem
        have HP1 : Hid (L ++ printM (l.getD k nil0 :: l.drop (k + 1)) K = printM l []) := drop_at l k (by omega) ▸ HP.out
        clear hmem hc c0 c1 c2 HP
        generalize l.getD k nil0 = x at *
        obtain ⟨xk, xn, xc⟩ := x
        simp only at d0 d1 d2 hnx
        have hxc := right_kids hrx
        simp only at hxc
        have hbw : w.heap.size ≤ wr.heap.size := HB.out.size
        obtain ⟨wB, hwB⟩ : ∃ wB, wB = wr.alloc (.cells #[.int .i64 xk, .int .u64 xn, .int .i64 xc] 37) := ⟨_, rfl⟩
        have HBB : Hid (Below wr.heap.size wr wB) := by rw [hwB]; exact (Below.refl _ _).alloc (Nat.le_refl _) _
        have KB : Hid (Blk wB wr.heap.size 37 [.int .i64 xk, .int .u64 xn, .int .i64 xc]) := by rw [hwB]; exact Blk.newA wr _ 37
        have e0 : wB.cell? ⟨wr.heap.size, 0, none⟩ = some (.int .i64 xk) := KB.out.cell 0
        have e1 : wB.cell? ⟨wr.heap.size, 1, none⟩ = some (.int .u64 xn) := KB.out.cell 1
        have e2 : wB.cell? ⟨wr.heap.size, 2, none⟩ = some (.int .i64 xc) := KB.out.cell 2
        have HBw : Hid (Below w.heap.size w wB) := HB.out.trans (HBB.out.mono hbw)
        have hbs : w.heap.size ≤ wB.heap.size := HBw.out.size
        have HTB : Hid (Txt w.heap.size wB vt L) := HT.out.later HBB.out
        have HOB : Hid (Opn w.heap.size wB vo K) := HO.out.later HBB.out
        have HTab : Hid (Tab w.heap.size wB) := ht.out.below HBw.out
        clear HT HO HB HBB hb
        go_upto_region 9 with fail
        rw [← hwB]
        clear hwB d0 d1 d2
        go_wp2_with fail
        refine (begin_any w.heap.size (xk, xn, xc) vt L wB hrx hnx HTB (by omega) hbs HTab).mono ?_; rintro e w2 ⟨vt2, rfl, HT2, HK2⟩
        have KB2 := HK2.out.oth _ _ _ (by decide) KB.out
        have f0 : w2.cell? ⟨wr.heap.size, 0, none⟩ = some (.int .i64 xk) := KB2.cell 0
        have f2 : w2.cell? ⟨wr.heap.size, 2, none⟩ = some (.int .i64 xc) := KB2.cell 2
        have HO2 : Hid (Opn w.heap.size w2 vo K) := HOB.out.kept HK2.out
        have HBw2 : Hid (Below w.heap.size w w2) := HBw.out.trans HK2.out.bel
        obtain ⟨vo3, w3, r3, o3, k3, t3⟩ := Opn.push (w := w2.drew) HO2.out xc xk (by omega) HBw2.out.size
        have R3 : Hid _ := r3
        have HO3 : Hid (Opn w.heap.size w3 vo3 ((xc, xk) :: K)) := o3
        have HT3 : Hid (Txt w.heap.size w3 vt2 (L ++ beginT (xk, xn, xc))) := t3 _ _ HT2.out
        have HBw3 : Hid (Below w.heap.size w w3) := HBw2.out.drew.trans k3.bel
        have fa0 : ∀ o, (w2.alloc o).cell? ⟨wr.heap.size, 0, none⟩ = some (.int .i64 xk) := fun o => (KB2.alloc o).cell 0
        have fa2 : ∀ o, (w2.alloc o).cell? ⟨wr.heap.size, 2, none⟩ = some (.int .i64 xc) := fun o => (KB2.alloc o).cell 2
        have KB3 := k3.oth _ _ _ (by decide) (by decide) KB2.drew
        have g0 : w3.cell? ⟨wr.heap.size, 0, none⟩ = some (.int .i64 xk) := KB3.cell 0
        have g2 : w3.cell? ⟨wr.heap.size, 2, none⟩ = some (.int .i64 xc) := KB3.cell 2
        clear e0 e1 e2 KB KB2 KB3 HBw HTB HOB HTab HO2 r3 o3 k3 t3 HT2 HK2
        go_wp2_with fail
        go_region_held_law (fun w' => w'.cell? ⟨wr.heap.size, 0, none⟩ = some (.int .i64 xk) ∧ w'.cell? ⟨wr.heap.size, 2, none⟩ = some (.int .i64 xc)) (first | assumption | exact ⟨f0, f2⟩ | exact ⟨fa0 _, fa2 _⟩ | exact ⟨g0, g2⟩)
          (first
            | (go_at_call 35; refine (ending_any xk _).mono ?_; rintro e w' ⟨rfl, rfl⟩)
            | (refine step_append_run rfl (.tmp 25) (.tmp 32) 84 84 rfl rfl rfl R3.out ?_))
        clear fa0 fa2 f0 f2 g0 g2
        have HF2 : Hid (∀ e ∈ (closeM xc xk K).2, 0 < e.1 ∧ e.1 ≤ 1048576) := closeM_bd K xc xk hxc.1 hxc.2 HF.out
        have hbl := beginT_len (xk, xn, xc)
        have hcl := closeM_len K xc xk
        go_wp2_with fail
        refine (close_any w.heap.size xc xk K vt2 vo3 (L ++ beginT (xk, xn, xc)) w3 HT3 HO3 (by simp; omega) (by omega) HBw3.out.size HF.out).mono ?_; rintro e w4 ⟨vt4, vo4, rfl, HT4, HO4, HK4⟩
        obtain ⟨a4, c4, hv4, -, -, -, -, -⟩ := own_open HT4.out rfl
        subst hv4
        have HB4 : Hid (Below w.heap.size w w4) := HBw3.out.trans HK4.out.bel
        have HP4 : Hid (L ++ beginT (xk, xn, xc) ++ (closeM xc xk K).1 ++ printM (l.drop (k + 1)) (closeM xc xk K).2 = printM l []) := by have := HP1.out; rw [printM] at this; show _ = _; rw [← this]; simp
        have hll : (L ++ beginT (xk, xn, xc) ++ (closeM xc xk K).1).length + 3 * (closeM xc xk K).2.length ≤ 26 * (k + 1) := by simp only [List.length_append]; omega
        have hkl : (closeM xc xk K).2.length ≤ k + 1 := by omega
        have hlong : ¬ (1048576 : Int) < ((L ++ beginT (xk, xn, xc) ++ (closeM xc xk K).1).length : Int) := by omega
        clear HP1 HF HT3 HO3 hbl hcl
        generalize (L ++ beginT (xk, xn, xc) ++ (closeM xc xk K).1) = L4 at *
        generalize (closeM xc xk K).2 = K4 at *
        go_wp2
        go_roundw
        case rel => exact ⟨_, _, L4, K4, k + 1, rfl, rfl, by go_num, by omega, hkl, hll, HT4, HO4, HF2, HP4, HB4⟩
        case measure => simp [intOf]; omega
      · obtain rfl : k = len := by omega
        obtain ⟨a4, c4, hv4, hrow, -, -, -, -⟩ := own_open HT.out rfl
        subst hv4
        have HL : Hid (L = printM l []) := by have := HP.out; rw [List.drop_eq_nil_of_le (by omega), printM, List.append_nil] at this; exact this
        have hcv := conv_row E41 Tryd.underlying9 wr a4 L.length c4 L rfl hrow
        go_wp2
        go_ret2
        exact ⟨by rw [HS.out, HE.out, ← HL.out]; rfl, HB.out⟩
  · have HS : Hid (printS l = ByteArray.empty) := by show _ = _; rw [printS, if_neg (by omega)]
    unfold fltv
    rw [h]
    go_wp2_with fail
    go_region
    go_wp2
    go_ret2
    exact ⟨by first | (rw [HS.out, h]; rfl) | (rw [HS.out]; rfl), (hB1.alloc hB1.size _).drew⟩
end Go.Proofs.YtlbgdgobhiokpaaDoor
