/- Code: the document's formed. -/
import Derived.Test.YteadmiikenpjeaaDoorCma
import Derived.Test.YteadmiikenpjeaaDoorCed
import Derived.Test.YteadmiikenpjeaaDoorRgf
namespace Go.Proofs.YteadmiikenpjeaaDoor
open Go.RowKit
set_option linter.unusedVariables false

theorem ix_s0 (a b c : UInt8) (w : World) : (Instr.index 9 (.string ⟨#[a, b, c]⟩) (.int .i64 0)).run Tryd.prog w = .ok (.int .u8 (a.toNat : Int)) w := by kernel_rfl
theorem ix_s1 (a b c : UInt8) (w : World) : (Instr.index 9 (.string ⟨#[a, b, c]⟩) (.int .i64 1)).run Tryd.prog w = .ok (.int .u8 (b.toNat : Int)) w := by kernel_rfl
theorem ix_s2 (a b c : UInt8) (w : World) : (Instr.index 9 (.string ⟨#[a, b, c]⟩) (.int .i64 2)).run Tryd.prog w = .ok (.int .u8 (c.toNat : Int)) w := by kernel_rfl
theorem three {l : List UInt8} (h : l.length = 3) : ∃ a b c, l = [a, b, c] := by
  match l, h with
  | [a, b, c], _ => exact ⟨a, b, c, rfl⟩
set_option maxRecDepth 100000 in
theorem nm_fin : ∀ n : Fin 48, (n.val ≠ 2 → nmT ((n.val : Nat) : Int) ≠ [117, 105, 110, 116, 115]) ∧ (n.val ≠ 34 → nmT ((n.val : Nat) : Int) ≠ [110, 117, 109, 98, 101, 114, 115]) ∧ (n.val ≠ 17 → nmT ((n.val : Nat) : Int) ≠ [112, 97, 114, 116]) ∧ (n.val ≠ 8 → nmT ((n.val : Nat) : Int) ≠ [117, 110, 105, 111, 110]) ∧ (n.val ≠ 41 → nmT ((n.val : Nat) : Int) ≠ [99, 104, 111, 105, 99, 101]) := by decide +kernel
theorem strL_ne (s : ByteArray) (l : List UInt8) (h : ¬ s = ⟨l.toArray⟩) : (s.toList == l) = false := by
  rw [beq_eq_false_iff_ne]
  intro e
  apply h
  rw [← e, ByteArray.toList_eq]
theorem ba_ne {l : List UInt8} {a : Array UInt8} (h : l ≠ a.toList) : ¬ (⟨l.toArray⟩ : ByteArray) = ⟨a⟩ := fun e => by
  injection e with e
  exact h (by rw [← e])
theorem nm_ne {op : Int} {e : Bool} (h : isOf op e = true) : (op ≠ 2 → ¬ ofN op e = ⟨#[117, 105, 110, 116, 115]⟩) ∧ (op ≠ 34 → ¬ ofN op e = ⟨#[110, 117, 109, 98, 101, 114, 115]⟩) ∧ (op ≠ 17 → ¬ ofN op e = ⟨#[112, 97, 114, 116]⟩) ∧ (op ≠ 8 → ¬ ofN op e = ⟨#[117, 110, 105, 111, 110]⟩) ∧ (op ≠ 41 → ¬ ofN op e = ⟨#[99, 104, 111, 105, 99, 101]⟩) := by
  have := isOf_rng h
  unfold ofN
  rw [if_pos h]
  obtain ⟨n, rfl⟩ : ∃ n : Fin 48, op = ((n.val : Nat) : Int) := ⟨⟨op.toNat, by omega⟩, by simp only; omega⟩
  obtain ⟨a, b, c, d, f⟩ := nm_fin n
  exact ⟨fun h => ba_ne (a (by omega)), fun h => ba_ne (b (by omega)), fun h => ba_ne (c (by omega)), fun h => ba_ne (d (by omega)), fun h => ba_ne (f (by omega))⟩
set_option maxRecDepth 100000 in
set_option maxHeartbeats 16000000 in
theorem formed_any (enc : Bool) (ac ae : Option Addr) (cc ne ce : Nat) (C : List In) (i : Nat) (w : World) (hi : i < C.length) (hCl : C.length ≤ 140737488355328) (hne : ne ≤ 140737488355328) (hr : Hid (IRow w ac C)) :
    Calls Tryd.prog 42 #[.agg #[.bool enc, .slice ac C.length cc, .slice ae ne ce], .int .i64 (i : Int)] w fun e w' => e = .returned (.bool (frm enc C ne i)) ∧ Below w.heap.size w w' := by
  obtain ⟨b, off, rfl, hb, -⟩ := hr.out.open (by omega)
  have hx : C[i]? = some (C[i]'hi) := List.getElem?_eq_getElem hi
  obtain ⟨i0, i1, i2, i3⟩ := hr.out.at hx
  have HFr := hide_ (frm_at (enc := enc) (ne := ne) hx)
  have HX := hide_ hx
  generalize C[i]'hi = x at *
  have hii : (i : Int) < C.length := by omega
  obtain ⟨w1, hw1⟩ : ∃ wx, wx = (w.alloc (.cells #[.bool enc, .slice (some ⟨b, off, none⟩) C.length cc, .slice ae ne ce] 25)).alloc (.cells #[.int .i64 x.op, .int .i64 x.a, .int .i64 x.b, .int .i64 x.c] 41) := ⟨_, rfl⟩
  have hB1 : Below w.heap.size w w1 := by rw [hw1]; exact below2 _ _ _
  obtain ⟨kp, ki⟩ := blk2 w #[.bool enc, .slice (some ⟨b, off, none⟩) C.length cc, .slice ae ne ce] #[.int .i64 x.op, .int .i64 x.a, .int .i64 x.b, .int .i64 x.c] 25 41
  rw [← hw1] at kp ki
  have KP := hide_ kp
  have KI := hide_ ki
  have HB1 := hide_ hB1
  have p0 := kp.cell 0
  have q0 := ki.cell 0
  simp at p0 q0
  have c0 : (w.alloc (.cells #[.bool enc, .slice (some ⟨b, off, none⟩) C.length cc, .slice ae ne ce] 25)).cell? ⟨b, off + i * 4, none⟩ = some (.int .i64 x.op) := by rw [cell_al _ _ _ _ hb]; exact i0
  have c1 : (w.alloc (.cells #[.bool enc, .slice (some ⟨b, off, none⟩) C.length cc, .slice ae ne ce] 25)).cell? ⟨b, off + i * 4 + 1, none⟩ = some (.int .i64 x.a) := by rw [cell_al _ _ _ _ hb]; exact i1
  have c2 : (w.alloc (.cells #[.bool enc, .slice (some ⟨b, off, none⟩) C.length cc, .slice ae ne ce] 25)).cell? ⟨b, off + i * 4 + 2, none⟩ = some (.int .i64 x.b) := by rw [cell_al _ _ _ _ hb]; exact i2
  have c3 : (w.alloc (.cells #[.bool enc, .slice (some ⟨b, off, none⟩) C.length cc, .slice ae ne ce] 25)).cell? ⟨b, off + i * 4 + 3, none⟩ = some (.int .i64 x.c) := by rw [cell_al _ _ _ _ hb]; exact i3
  have HOf := hide_ (of_any x.op enc w1)
  obtain ⟨o, ho⟩ : ∃ o, isOf x.op enc = o := ⟨_, rfl⟩
  obtain ⟨sN, hsN⟩ : ∃ s, ofN x.op enc = s := ⟨_, rfl⟩
  obtain ⟨sL, hsL⟩ : ∃ s, ofL x.op enc = s := ⟨_, rfl⟩
  rw [ho, hsN, hsL] at HOf
  have HO := hide_ ho
  have HN := hide_ hsN
  have HL := hide_ hsL
  clear i0 i1 i2 i3 kp ki hB1 ho hsN hsL
  go_enter Tryd.func42, Tryd.ntmps42
  go_upto_region 2 with fail
  rw [← hw1]
  clear hw1 c0 c1 c2 c3
  go_wp2_with fail
  refine HOf.out.mono ?_
  rintro e w2 ⟨rfl, hB2⟩
  obtain ⟨w3, hw3⟩ : ∃ wx, wx = w2.alloc (.cells #[.string sN, .string sL] 52) := ⟨_, rfl⟩
  have hB3 : Below w2.heap.size w2 w3 := by rw [hw3]; exact below1 _ _
  have K6 : Hid (Blk w3 w2.heap.size 52 [.string sN, .string sL]) := hide_ (by rw [hw3]; exact Blk.newA w2 _ _)
  have hB13 := below_to hB2 hB3
  have KP3 := hide_ (KP.out.later hB13)
  have KI3 := hide_ (KI.out.later hB13)
  have HB3 := hide_ (below_to HB1.out hB13)
  have HR3 := hide_ (hr.out.later HB3.out)
  clear hB2 hB3 hB13 HOf p0 q0 KP KI HB1
  go_upto_region 3 with fail
  rw [← hw3]
  clear hw3
  generalize hg6 : w2.heap.size = g6 at *
  clear hg6
  have HSA : Hid (∀ w', Below w3.heap.size w3 w' → w'.cell? ⟨w.heap.size, 0, none⟩ = some (.bool enc) ∧ w'.cell? ⟨w.heap.size, 1, none⟩ = some (.slice (some ⟨b, off, none⟩) C.length cc) ∧ w'.cell? ⟨w.heap.size, 2, none⟩ = some (.slice ae ne ce) ∧ w'.cell? ⟨w.heap.size + 1, 1, none⟩ = some (.int .i64 x.a) ∧ w'.cell? ⟨w.heap.size + 1, 2, none⟩ = some (.int .i64 x.b) ∧ w'.cell? ⟨w.heap.size + 1, 3, none⟩ = some (.int .i64 x.c) ∧ w'.cell? ⟨g6, 1, none⟩ = some (.string sL)) := hide_ (fun w' hB => ⟨(KP3.out.later hB).cell 0, (KP3.out.later hB).cell 1, (KP3.out.later hB).cell 2, (KI3.out.later hB).cell 1, (KI3.out.later hB).cell 2, (KI3.out.later hB).cell 3, (K6.out.later hB).cell 1⟩)
  go_cut [52] from 21 to 52 (fun c wc => ∃ (d : Bool) (wf : World), wf = wc ∧ c = .bool d ∧ Hid (d = !frmX enc C.length ne x) ∧ Hid (Below w3.heap.size w3 wf))
  case first =>
    cases o with
    | false =>
      have HD : Hid (true = !frmX enc C.length ne x) := hide_ (by unfold frmX; rw [HO.out]; rfl)
      have HSS := HSA
      clear HFr HN HL HO HSA
      --RA
      refine wp_region_last 31 (fun w' => w'.cell? ⟨w.heap.size, 0, none⟩ = some (.bool enc) ∧ w'.cell? ⟨w.heap.size, 1, none⟩ = some (.slice (some ⟨b, off, none⟩) C.length cc) ∧ w'.cell? ⟨w.heap.size, 2, none⟩ = some (.slice ae ne ce) ∧ w'.cell? ⟨w.heap.size + 1, 1, none⟩ = some (.int .i64 x.a) ∧ w'.cell? ⟨w.heap.size + 1, 2, none⟩ = some (.int .i64 x.b) ∧ w'.cell? ⟨w.heap.size + 1, 3, none⟩ = some (.int .i64 x.c) ∧ w'.cell? ⟨g6, 1, none⟩ = some (.string sL)) (by kernel_rfl) (HSS.out _ ((Below.refl w3.heap.size w3).drew)) (fun hHeld => ?_)
      refine wpAnyF_take [31, 22, 19, 12, 9, 2, 1] (by kernel_rfl) (i := 0) (v := ?vfa1) rfl (by kernel_rfl) (by kernel_rfl) (by kernel_rfl) (fun _ _ _ h => h) (Or.inl ⟨by kernel_rfl, ?hyfa1⟩) hHeld ?restfa1
      case hyfa1 => intro w' hSw; (try dsimp only at hSw); go_simp; try with_reducible rfl
      simp only [Act.put]
      refine wpAnyF_take [31, 22, 19, 12, 9, 2] (by kernel_rfl) (i := 1) (v := ?vfa2) rfl (by kernel_rfl) (by kernel_rfl) (by kernel_rfl) (fun _ _ _ h => h) (Or.inl ⟨by kernel_rfl, ?hyfa2⟩) hHeld ?restfa2
      case hyfa2 => intro w' hSw; (try dsimp only at hSw); go_simp; try with_reducible rfl
      simp only [Act.put]
      refine wpAnyF_take [31, 22, 19, 12, 9] (by kernel_rfl) (i := 2) (v := ?vfa3) rfl (by kernel_rfl) (by kernel_rfl) (by kernel_rfl) (fun _ _ _ h => h) (Or.inl ⟨by kernel_rfl, ?hyfa3⟩) hHeld ?restfa3
      case hyfa3 => intro w' hSw; (try dsimp only at hSw); go_simp; try with_reducible rfl
      simp only [Act.put]
      refine wpAnyF_take [31, 22, 19, 12, 9] (by kernel_rfl) (i := 3) (v := undef) rfl (by kernel_rfl) (by kernel_rfl) (by kernel_rfl) (fun _ _ _ h => h) (Or.inr ⟨by kernel_rfl, rfl⟩) hHeld ?_
      simp only [Act.put]
      refine wpAnyF_take [31, 22, 19, 12, 9, 6, 5] (by kernel_rfl) (i := 4) (v := undef) rfl (by kernel_rfl) (by kernel_rfl) (by kernel_rfl) (fun _ _ _ h => h) (Or.inr ⟨by kernel_rfl, rfl⟩) hHeld ?_
      simp only [Act.put]
      refine wpAnyF_take [31, 22, 19, 12, 9, 6] (by kernel_rfl) (i := 5) (v := undef) rfl (by kernel_rfl) (by kernel_rfl) (by kernel_rfl) (fun _ _ _ h => h) (Or.inr ⟨by kernel_rfl, rfl⟩) hHeld ?_
      simp only [Act.put]
      refine wpAnyF_take [31, 22, 19, 12, 9] (by kernel_rfl) (i := 6) (v := undef) rfl (by kernel_rfl) (by kernel_rfl) (by kernel_rfl) (fun _ _ _ h => h) (Or.inr ⟨by kernel_rfl, rfl⟩) hHeld ?_
      simp only [Act.put]
      refine wpAnyF_take [31, 22, 19, 12, 9, 8] (by kernel_rfl) (i := 7) (v := undef) rfl (by kernel_rfl) (by kernel_rfl) (by kernel_rfl) (fun _ _ _ h => h) (Or.inr ⟨by kernel_rfl, rfl⟩) hHeld ?_
      simp only [Act.put]
      refine wpAnyF_take [31, 22, 19, 12, 9] (by kernel_rfl) (i := 8) (v := undef) rfl (by kernel_rfl) (by kernel_rfl) (by kernel_rfl) (fun _ _ _ h => h) (Or.inr ⟨by kernel_rfl, rfl⟩) hHeld ?_
      simp only [Act.put]
      refine wpAnyF_take [31, 22, 19, 12] (by kernel_rfl) (i := 9) (v := undef) rfl (by kernel_rfl) (by kernel_rfl) (by kernel_rfl) (fun _ _ _ h => h) (Or.inr ⟨by kernel_rfl, rfl⟩) hHeld ?_
      simp only [Act.put]
      refine wpAnyF_take [31, 22, 19, 12, 11] (by kernel_rfl) (i := 10) (v := undef) rfl (by kernel_rfl) (by kernel_rfl) (by kernel_rfl) (fun _ _ _ h => h) (Or.inr ⟨by kernel_rfl, rfl⟩) hHeld ?_
      simp only [Act.put]
      refine wpAnyF_take [31, 22, 19, 12] (by kernel_rfl) (i := 11) (v := ?vfa4) rfl (by kernel_rfl) (by kernel_rfl) (by kernel_rfl) (fun _ _ _ h => h) (Or.inl ⟨by kernel_rfl, ?hyfa4⟩) hHeld ?restfa4
      case hyfa4 => intro w' hSw; (try dsimp only at hSw); go_simp; try with_reducible rfl
      simp only [Act.put]
      refine wpAnyF_take [31, 22, 19] (by kernel_rfl) (i := 12) (v := ?vfa5) rfl (by kernel_rfl) (by kernel_rfl) (by kernel_rfl) (fun _ _ _ h => h) (Or.inl ⟨by kernel_rfl, ?hyfa5⟩) hHeld ?restfa5
      case hyfa5 => intro w' hSw; (try dsimp only at hSw); go_simp; try with_reducible rfl
      simp only [Act.put]
      refine wpAnyF_take [31, 22, 19] (by kernel_rfl) (i := 13) (v := undef) rfl (by kernel_rfl) (by kernel_rfl) (by kernel_rfl) (fun _ _ _ h => h) (Or.inr ⟨by kernel_rfl, rfl⟩) hHeld ?_
      simp only [Act.put]
      refine wpAnyF_take [31, 22, 19, 16, 15] (by kernel_rfl) (i := 14) (v := undef) rfl (by kernel_rfl) (by kernel_rfl) (by kernel_rfl) (fun _ _ _ h => h) (Or.inr ⟨by kernel_rfl, rfl⟩) hHeld ?_
      simp only [Act.put]
      refine wpAnyF_take [31, 22, 19, 16] (by kernel_rfl) (i := 15) (v := undef) rfl (by kernel_rfl) (by kernel_rfl) (by kernel_rfl) (fun _ _ _ h => h) (Or.inr ⟨by kernel_rfl, rfl⟩) hHeld ?_
      simp only [Act.put]
      refine wpAnyF_take [31, 22, 19] (by kernel_rfl) (i := 16) (v := undef) rfl (by kernel_rfl) (by kernel_rfl) (by kernel_rfl) (fun _ _ _ h => h) (Or.inr ⟨by kernel_rfl, rfl⟩) hHeld ?_
      simp only [Act.put]
      refine wpAnyF_take [31, 22, 19, 18] (by kernel_rfl) (i := 17) (v := undef) rfl (by kernel_rfl) (by kernel_rfl) (by kernel_rfl) (fun _ _ _ h => h) (Or.inr ⟨by kernel_rfl, rfl⟩) hHeld ?_
      simp only [Act.put]
      refine wpAnyF_take [31, 22, 19] (by kernel_rfl) (i := 18) (v := undef) rfl (by kernel_rfl) (by kernel_rfl) (by kernel_rfl) (fun _ _ _ h => h) (Or.inr ⟨by kernel_rfl, rfl⟩) hHeld ?_
      simp only [Act.put]
      refine wpAnyF_take [31, 22] (by kernel_rfl) (i := 19) (v := undef) rfl (by kernel_rfl) (by kernel_rfl) (by kernel_rfl) (fun _ _ _ h => h) (Or.inr ⟨by kernel_rfl, rfl⟩) hHeld ?_
      simp only [Act.put]
      refine wpAnyF_take [31, 22, 21] (by kernel_rfl) (i := 20) (v := undef) rfl (by kernel_rfl) (by kernel_rfl) (by kernel_rfl) (fun _ _ _ h => h) (Or.inr ⟨by kernel_rfl, rfl⟩) hHeld ?_
      simp only [Act.put]
      refine wpAnyF_take [31, 22] (by kernel_rfl) (i := 21) (v := ?vfa6) rfl (by kernel_rfl) (by kernel_rfl) (by kernel_rfl) (fun _ _ _ h => h) (Or.inl ⟨by kernel_rfl, ?hyfa6⟩) hHeld ?restfa6
      case hyfa6 => intro w' hSw; (try dsimp only at hSw); go_simp; try with_reducible rfl
      simp only [Act.put]
      refine wpAnyF_take [31] (by kernel_rfl) (i := 22) (v := ?vfa7) rfl (by kernel_rfl) (by kernel_rfl) (by kernel_rfl) (fun _ _ _ h => h) (Or.inl ⟨by kernel_rfl, ?hyfa7⟩) hHeld ?restfa7
      case hyfa7 => intro w' hSw; (try dsimp only at hSw); go_simp; try with_reducible rfl
      simp only [Act.put]
      refine wpAnyF_take [31, 30, 29] (by kernel_rfl) (i := 23) (v := undef) rfl (by kernel_rfl) (by kernel_rfl) (by kernel_rfl) (fun _ _ _ h => h) (Or.inr ⟨by kernel_rfl, rfl⟩) hHeld ?_
      simp only [Act.put]
      refine wpAnyF_take [31, 30, 29, 26, 25] (by kernel_rfl) (i := 24) (v := undef) rfl (by kernel_rfl) (by kernel_rfl) (by kernel_rfl) (fun _ _ _ h => h) (Or.inr ⟨by kernel_rfl, rfl⟩) hHeld ?_
      simp only [Act.put]
      refine wpAnyF_take [31, 30, 29, 26] (by kernel_rfl) (i := 25) (v := undef) rfl (by kernel_rfl) (by kernel_rfl) (by kernel_rfl) (fun _ _ _ h => h) (Or.inr ⟨by kernel_rfl, rfl⟩) hHeld ?_
      simp only [Act.put]
      refine wpAnyF_take [31, 30, 29] (by kernel_rfl) (i := 26) (v := undef) rfl (by kernel_rfl) (by kernel_rfl) (by kernel_rfl) (fun _ _ _ h => h) (Or.inr ⟨by kernel_rfl, rfl⟩) hHeld ?_
      simp only [Act.put]
      refine wpAnyF_take [31, 30, 29, 28] (by kernel_rfl) (i := 27) (v := undef) rfl (by kernel_rfl) (by kernel_rfl) (by kernel_rfl) (fun _ _ _ h => h) (Or.inr ⟨by kernel_rfl, rfl⟩) hHeld ?_
      simp only [Act.put]
      refine wpAnyF_take [31, 30, 29] (by kernel_rfl) (i := 28) (v := undef) rfl (by kernel_rfl) (by kernel_rfl) (by kernel_rfl) (fun _ _ _ h => h) (Or.inr ⟨by kernel_rfl, rfl⟩) hHeld ?_
      simp only [Act.put]
      refine wpAnyF_take [31, 30] (by kernel_rfl) (i := 29) (v := undef) rfl (by kernel_rfl) (by kernel_rfl) (by kernel_rfl) (fun _ _ _ h => h) (Or.inr ⟨by kernel_rfl, rfl⟩) hHeld ?_
      simp only [Act.put]
      refine wpAnyF_take [31] (by kernel_rfl) (i := 30) (v := undef) rfl (by kernel_rfl) (by kernel_rfl) (by kernel_rfl) (fun _ _ _ h => h) (Or.inr ⟨by kernel_rfl, rfl⟩) hHeld ?_
      simp only [Act.put]
      refine wpAnyF_ready (rs := [31]) (by kernel_rfl) (by simp) ?_
      refine AllReadyF.last rfl (fun K hK => ?_)
      go_simp
      refine hK.out _ _ ?_
      clear hK K
      refine wpAnyF_done (by kernel_rfl) ?_ _
      go_wp2_with fail
      go_meet
      case rel => exact ⟨true, _, rfl, rfl, hide_ (HD.out), hide_ ((Below.refl w3.heap.size w3).drew)⟩
      --/RA
    | true =>
      have h3 := ofI_kat HO.out (j := 0) (by omega)
      obtain ⟨l0, l1, l2, hl⟩ := three h3.1
      have hsl : sL = ⟨#[l0, l1, l2]⟩ := by rw [← HL.out]; unfold ofL; rw [if_pos HO.out, hl]
      subst hsl
      have k0 := ofI_kat HO.out (j := 0) (by omega)
      have k1 := ofI_kat HO.out (j := 1) (by omega)
      have k2 := ofI_kat HO.out (j := 2) (by omega)
      rw [hl] at k0 k1 k2
      simp only [List.getD_cons_zero, List.getD_cons_succ, kat] at k0 k1 k2
      have HF := hide_ (fun (c : UInt8) (n : Int) (hc : lts.contains c = true) w' => fits_any enc (some ⟨b, off, none⟩) ae C.length cc ne ce c n w' hCl hne hc)
      have HF0' := fun w' => HF.out l0 x.a k0.2.1 w'
      have HF1' := fun w' => HF.out l1 x.b k1.2.1 w'
      have HF2' := fun w' => HF.out l2 x.c k2.2.1 w'
      rw [k0.2.2] at HF0'
      rw [k1.2.2] at HF1'
      rw [k2.2.2] at HF2'
      have hfx : frmX enc C.length ne x = (alw C.length ne (kin x.op).1 x.a && (alw C.length ne (kin x.op).2.1 x.b && alw C.length ne (kin x.op).2.2 x.c)) := by unfold frmX; rw [HO.out, Bool.true_and]
      generalize alw C.length ne (kin x.op).1 x.a = r0 at *
      generalize alw C.length ne (kin x.op).2.1 x.b = r1 at *
      generalize alw C.length ne (kin x.op).2.2 x.c = r2 at *
      have HF0 := hide_ HF0'
      have HF1 := hide_ HF1'
      have HF2 := hide_ HF2'
      have HFX := hide_ hfx
      have ix0 := ix_s0 l0 l1 l2
      have ix1 := ix_s1 l0 l1 l2
      have ix2 := ix_s2 l0 l1 l2
      have HSS := HSA
      clear HF0' HF1' HF2' hfx k0 k1 k2 h3 hl HF HFr HN HL HO HSA
      cases r0 with
      | false =>
        have HD : Hid (true = !frmX enc C.length ne x) := hide_ (by rw [HFX.out]; rfl)
        clear HFX
        --RB
        refine wp_region_last 31 (fun w' => w'.cell? ⟨w.heap.size, 0, none⟩ = some (.bool enc) ∧ w'.cell? ⟨w.heap.size, 1, none⟩ = some (.slice (some ⟨b, off, none⟩) C.length cc) ∧ w'.cell? ⟨w.heap.size, 2, none⟩ = some (.slice ae ne ce) ∧ w'.cell? ⟨w.heap.size + 1, 1, none⟩ = some (.int .i64 x.a) ∧ w'.cell? ⟨w.heap.size + 1, 2, none⟩ = some (.int .i64 x.b) ∧ w'.cell? ⟨w.heap.size + 1, 3, none⟩ = some (.int .i64 x.c) ∧ w'.cell? ⟨g6, 1, none⟩ = some (.string ⟨#[l0, l1, l2]⟩)) (by kernel_rfl) (HSS.out _ ((Below.refl w3.heap.size w3).drew)) (fun hHeld => ?_)
        refine wpAnyF_take [31, 22, 19, 12, 9, 2, 1] (by kernel_rfl) (i := 0) (v := ?vfb1) rfl (by kernel_rfl) (by kernel_rfl) (by kernel_rfl) (fun _ _ _ h => h) (Or.inl ⟨by kernel_rfl, ?hyfb1⟩) hHeld ?restfb1
        case hyfb1 => intro w' hSw; (try dsimp only at hSw); go_simp; try with_reducible rfl
        simp only [Act.put]
        refine wpAnyF_take [31, 22, 19, 12, 9, 2] (by kernel_rfl) (i := 1) (v := ?vfb2) rfl (by kernel_rfl) (by kernel_rfl) (by kernel_rfl) (fun _ _ _ h => h) (Or.inl ⟨by kernel_rfl, ?hyfb2⟩) hHeld ?restfb2
        case hyfb2 => intro w' hSw; (try dsimp only at hSw); go_simp; try with_reducible rfl
        simp only [Act.put]
        refine wpAnyF_take [31, 22, 19, 12, 9] (by kernel_rfl) (i := 2) (v := ?vfb3) rfl (by kernel_rfl) (by kernel_rfl) (by kernel_rfl) (fun _ _ _ h => h) (Or.inl ⟨by kernel_rfl, ?hyfb3⟩) hHeld ?restfb3
        case hyfb3 => intro w' hSw; (try dsimp only at hSw); go_simp; try with_reducible rfl
        simp only [Act.put]
        refine wpAnyF_take [31, 22, 19, 12, 9] (by kernel_rfl) (i := 3) (v := ?vfb4) rfl (by kernel_rfl) (by kernel_rfl) (by kernel_rfl) (fun _ _ _ h => h) (Or.inl ⟨by kernel_rfl, ?hyfb4⟩) hHeld ?restfb4
        case hyfb4 => intro w' hSw; (try dsimp only at hSw); go_simp; try with_reducible rfl
        simp only [Act.put]
        refine wpAnyF_take [31, 22, 19, 12, 9, 6, 5] (by kernel_rfl) (i := 4) (v := ?vfb5) rfl (by kernel_rfl) (by kernel_rfl) (by kernel_rfl) (fun _ _ _ h => h) (Or.inl ⟨by kernel_rfl, ?hyfb5⟩) hHeld ?restfb5
        case hyfb5 => intro w' hSw; (try dsimp only at hSw); go_simp; try with_reducible rfl
        simp only [Act.put]
        refine wpAnyF_take [31, 22, 19, 12, 9, 6] (by kernel_rfl) (i := 5) (v := ?vfb6) rfl (by kernel_rfl) (by kernel_rfl) (by kernel_rfl) (fun _ _ _ h => h) (Or.inl ⟨by kernel_rfl, ?hyfb6⟩) hHeld ?restfb6
        case hyfb6 => intro w' hSw; (try dsimp only at hSw); go_simp; try with_reducible rfl
        simp only [Act.put]
        refine wpAnyF_take [31, 22, 19, 12, 9] (by kernel_rfl) (i := 6) (v := ?vfb7) rfl (by kernel_rfl) (by kernel_rfl) (by kernel_rfl) (fun _ _ _ h => h) (Or.inl ⟨by kernel_rfl, ?hyfb7⟩) hHeld ?restfb7
        case hyfb7 => intro w' hSw; (try dsimp only at hSw); go_simp; try with_reducible rfl
        simp only [Act.put]
        refine wpAnyF_take [31, 22, 19, 12, 9, 8] (by kernel_rfl) (i := 7) (v := ?vfb8) rfl (by kernel_rfl) (by kernel_rfl) (by kernel_rfl) (fun _ _ _ h => h) (Or.inl ⟨by kernel_rfl, ?hyfb8⟩) hHeld ?restfb8
        case hyfb8 => intro w' hSw; (try dsimp only at hSw); go_simp; try with_reducible rfl
        simp only [Act.put]
        refine wpAnyF_take [31, 22, 19, 12, 9] (by kernel_rfl) (i := 8) (v := ?vfb9) rfl (by kernel_rfl) (by kernel_rfl) (by kernel_rfl) (fun _ _ _ h => h) (Or.inl ⟨by kernel_rfl, ?hyfb9⟩) hHeld ?restfb9
        case hyfb9 => intro w' hSw; (try dsimp only at hSw); go_simp; try with_reducible rfl
        simp only [Act.put]
        refine wpAnyF_ready (rs := [9]) (by kernel_rfl) (by simp) ?_
        refine AllReadyF.cons rfl (fun K hK => ?_) AllReadyF.nil
        go_simp
        refine (HF0.out _).mono ?_
        rintro e wC0 ⟨rfl, hbC⟩
        dsimp only
        have HBC0 := hide_ (below_to ((Below.refl w3.heap.size w3).drew) hbC)
        clear hbC
        refine hK.out _ _ (HSS.out _ HBC0.out) (fun hHeld => ?_)
        clear hK K
        refine wpAnyF_take [31, 22, 19, 12, 11] (by kernel_rfl) (i := 10) (v := ?vfb10) rfl (by kernel_rfl) (by kernel_rfl) (by kernel_rfl) (fun _ _ _ h => h) (Or.inl ⟨by kernel_rfl, ?hyfb10⟩) hHeld ?restfb10
        case hyfb10 => intro w' hSw; (try dsimp only at hSw); go_simp; try with_reducible rfl
        simp only [Act.put]
        refine wpAnyF_take [31, 22, 19, 12] (by kernel_rfl) (i := 11) (v := ?vfb11) rfl (by kernel_rfl) (by kernel_rfl) (by kernel_rfl) (fun _ _ _ h => h) (Or.inl ⟨by kernel_rfl, ?hyfb11⟩) hHeld ?restfb11
        case hyfb11 => intro w' hSw; (try dsimp only at hSw); go_simp; try with_reducible rfl
        simp only [Act.put]
        refine wpAnyF_take [31, 22, 19] (by kernel_rfl) (i := 12) (v := ?vfb12) rfl (by kernel_rfl) (by kernel_rfl) (by kernel_rfl) (fun _ _ _ h => h) (Or.inl ⟨by kernel_rfl, ?hyfb12⟩) hHeld ?restfb12
        case hyfb12 => intro w' hSw; (try dsimp only at hSw); go_simp; try with_reducible rfl
        simp only [Act.put]
        refine wpAnyF_take [31, 22, 19] (by kernel_rfl) (i := 13) (v := undef) rfl (by kernel_rfl) (by kernel_rfl) (by kernel_rfl) (fun _ _ _ h => h) (Or.inr ⟨by kernel_rfl, rfl⟩) hHeld ?_
        simp only [Act.put]
        refine wpAnyF_take [31, 22, 19, 16, 15] (by kernel_rfl) (i := 14) (v := undef) rfl (by kernel_rfl) (by kernel_rfl) (by kernel_rfl) (fun _ _ _ h => h) (Or.inr ⟨by kernel_rfl, rfl⟩) hHeld ?_
        simp only [Act.put]
        refine wpAnyF_take [31, 22, 19, 16] (by kernel_rfl) (i := 15) (v := undef) rfl (by kernel_rfl) (by kernel_rfl) (by kernel_rfl) (fun _ _ _ h => h) (Or.inr ⟨by kernel_rfl, rfl⟩) hHeld ?_
        simp only [Act.put]
        refine wpAnyF_take [31, 22, 19] (by kernel_rfl) (i := 16) (v := undef) rfl (by kernel_rfl) (by kernel_rfl) (by kernel_rfl) (fun _ _ _ h => h) (Or.inr ⟨by kernel_rfl, rfl⟩) hHeld ?_
        simp only [Act.put]
        refine wpAnyF_take [31, 22, 19, 18] (by kernel_rfl) (i := 17) (v := undef) rfl (by kernel_rfl) (by kernel_rfl) (by kernel_rfl) (fun _ _ _ h => h) (Or.inr ⟨by kernel_rfl, rfl⟩) hHeld ?_
        simp only [Act.put]
        refine wpAnyF_take [31, 22, 19] (by kernel_rfl) (i := 18) (v := undef) rfl (by kernel_rfl) (by kernel_rfl) (by kernel_rfl) (fun _ _ _ h => h) (Or.inr ⟨by kernel_rfl, rfl⟩) hHeld ?_
        simp only [Act.put]
        refine wpAnyF_take [31, 22] (by kernel_rfl) (i := 19) (v := undef) rfl (by kernel_rfl) (by kernel_rfl) (by kernel_rfl) (fun _ _ _ h => h) (Or.inr ⟨by kernel_rfl, rfl⟩) hHeld ?_
        simp only [Act.put]
        refine wpAnyF_take [31, 22, 21] (by kernel_rfl) (i := 20) (v := undef) rfl (by kernel_rfl) (by kernel_rfl) (by kernel_rfl) (fun _ _ _ h => h) (Or.inr ⟨by kernel_rfl, rfl⟩) hHeld ?_
        simp only [Act.put]
        refine wpAnyF_take [31, 22] (by kernel_rfl) (i := 21) (v := ?vfb13) rfl (by kernel_rfl) (by kernel_rfl) (by kernel_rfl) (fun _ _ _ h => h) (Or.inl ⟨by kernel_rfl, ?hyfb13⟩) hHeld ?restfb13
        case hyfb13 => intro w' hSw; (try dsimp only at hSw); go_simp; try with_reducible rfl
        simp only [Act.put]
        refine wpAnyF_take [31] (by kernel_rfl) (i := 22) (v := ?vfb14) rfl (by kernel_rfl) (by kernel_rfl) (by kernel_rfl) (fun _ _ _ h => h) (Or.inl ⟨by kernel_rfl, ?hyfb14⟩) hHeld ?restfb14
        case hyfb14 => intro w' hSw; (try dsimp only at hSw); go_simp; try with_reducible rfl
        simp only [Act.put]
        refine wpAnyF_take [31, 30, 29] (by kernel_rfl) (i := 23) (v := undef) rfl (by kernel_rfl) (by kernel_rfl) (by kernel_rfl) (fun _ _ _ h => h) (Or.inr ⟨by kernel_rfl, rfl⟩) hHeld ?_
        simp only [Act.put]
        refine wpAnyF_take [31, 30, 29, 26, 25] (by kernel_rfl) (i := 24) (v := undef) rfl (by kernel_rfl) (by kernel_rfl) (by kernel_rfl) (fun _ _ _ h => h) (Or.inr ⟨by kernel_rfl, rfl⟩) hHeld ?_
        simp only [Act.put]
        refine wpAnyF_take [31, 30, 29, 26] (by kernel_rfl) (i := 25) (v := undef) rfl (by kernel_rfl) (by kernel_rfl) (by kernel_rfl) (fun _ _ _ h => h) (Or.inr ⟨by kernel_rfl, rfl⟩) hHeld ?_
        simp only [Act.put]
        refine wpAnyF_take [31, 30, 29] (by kernel_rfl) (i := 26) (v := undef) rfl (by kernel_rfl) (by kernel_rfl) (by kernel_rfl) (fun _ _ _ h => h) (Or.inr ⟨by kernel_rfl, rfl⟩) hHeld ?_
        simp only [Act.put]
        refine wpAnyF_take [31, 30, 29, 28] (by kernel_rfl) (i := 27) (v := undef) rfl (by kernel_rfl) (by kernel_rfl) (by kernel_rfl) (fun _ _ _ h => h) (Or.inr ⟨by kernel_rfl, rfl⟩) hHeld ?_
        simp only [Act.put]
        refine wpAnyF_take [31, 30, 29] (by kernel_rfl) (i := 28) (v := undef) rfl (by kernel_rfl) (by kernel_rfl) (by kernel_rfl) (fun _ _ _ h => h) (Or.inr ⟨by kernel_rfl, rfl⟩) hHeld ?_
        simp only [Act.put]
        refine wpAnyF_take [31, 30] (by kernel_rfl) (i := 29) (v := undef) rfl (by kernel_rfl) (by kernel_rfl) (by kernel_rfl) (fun _ _ _ h => h) (Or.inr ⟨by kernel_rfl, rfl⟩) hHeld ?_
        simp only [Act.put]
        refine wpAnyF_take [31] (by kernel_rfl) (i := 30) (v := undef) rfl (by kernel_rfl) (by kernel_rfl) (by kernel_rfl) (fun _ _ _ h => h) (Or.inr ⟨by kernel_rfl, rfl⟩) hHeld ?_
        simp only [Act.put]
        refine wpAnyF_ready (rs := [31]) (by kernel_rfl) (by simp) ?_
        refine AllReadyF.last rfl (fun K hK => ?_)
        go_simp
        refine hK.out _ _ ?_
        clear hK K
        refine wpAnyF_done (by kernel_rfl) ?_ _
        go_wp2_with fail
        go_meet
        case rel => exact ⟨true, _, rfl, rfl, hide_ (HD.out), hide_ (HBC0.out)⟩
        --/RB
      | true =>
      cases r1 with
      | false =>
        have HD : Hid (true = !frmX enc C.length ne x) := hide_ (by rw [HFX.out]; rfl)
        clear HFX
        --RC
        refine wp_region_last 31 (fun w' => w'.cell? ⟨w.heap.size, 0, none⟩ = some (.bool enc) ∧ w'.cell? ⟨w.heap.size, 1, none⟩ = some (.slice (some ⟨b, off, none⟩) C.length cc) ∧ w'.cell? ⟨w.heap.size, 2, none⟩ = some (.slice ae ne ce) ∧ w'.cell? ⟨w.heap.size + 1, 1, none⟩ = some (.int .i64 x.a) ∧ w'.cell? ⟨w.heap.size + 1, 2, none⟩ = some (.int .i64 x.b) ∧ w'.cell? ⟨w.heap.size + 1, 3, none⟩ = some (.int .i64 x.c) ∧ w'.cell? ⟨g6, 1, none⟩ = some (.string ⟨#[l0, l1, l2]⟩)) (by kernel_rfl) (HSS.out _ ((Below.refl w3.heap.size w3).drew)) (fun hHeld => ?_)
        refine wpAnyF_take [31, 22, 19, 12, 9, 2, 1] (by kernel_rfl) (i := 0) (v := ?vfc1) rfl (by kernel_rfl) (by kernel_rfl) (by kernel_rfl) (fun _ _ _ h => h) (Or.inl ⟨by kernel_rfl, ?hyfc1⟩) hHeld ?restfc1
        case hyfc1 => intro w' hSw; (try dsimp only at hSw); go_simp; try with_reducible rfl
        simp only [Act.put]
        refine wpAnyF_take [31, 22, 19, 12, 9, 2] (by kernel_rfl) (i := 1) (v := ?vfc2) rfl (by kernel_rfl) (by kernel_rfl) (by kernel_rfl) (fun _ _ _ h => h) (Or.inl ⟨by kernel_rfl, ?hyfc2⟩) hHeld ?restfc2
        case hyfc2 => intro w' hSw; (try dsimp only at hSw); go_simp; try with_reducible rfl
        simp only [Act.put]
        refine wpAnyF_take [31, 22, 19, 12, 9] (by kernel_rfl) (i := 2) (v := ?vfc3) rfl (by kernel_rfl) (by kernel_rfl) (by kernel_rfl) (fun _ _ _ h => h) (Or.inl ⟨by kernel_rfl, ?hyfc3⟩) hHeld ?restfc3
        case hyfc3 => intro w' hSw; (try dsimp only at hSw); go_simp; try with_reducible rfl
        simp only [Act.put]
        refine wpAnyF_take [31, 22, 19, 12, 9] (by kernel_rfl) (i := 3) (v := ?vfc4) rfl (by kernel_rfl) (by kernel_rfl) (by kernel_rfl) (fun _ _ _ h => h) (Or.inl ⟨by kernel_rfl, ?hyfc4⟩) hHeld ?restfc4
        case hyfc4 => intro w' hSw; (try dsimp only at hSw); go_simp; try with_reducible rfl
        simp only [Act.put]
        refine wpAnyF_take [31, 22, 19, 12, 9, 6, 5] (by kernel_rfl) (i := 4) (v := ?vfc5) rfl (by kernel_rfl) (by kernel_rfl) (by kernel_rfl) (fun _ _ _ h => h) (Or.inl ⟨by kernel_rfl, ?hyfc5⟩) hHeld ?restfc5
        case hyfc5 => intro w' hSw; (try dsimp only at hSw); go_simp; try with_reducible rfl
        simp only [Act.put]
        refine wpAnyF_take [31, 22, 19, 12, 9, 6] (by kernel_rfl) (i := 5) (v := ?vfc6) rfl (by kernel_rfl) (by kernel_rfl) (by kernel_rfl) (fun _ _ _ h => h) (Or.inl ⟨by kernel_rfl, ?hyfc6⟩) hHeld ?restfc6
        case hyfc6 => intro w' hSw; (try dsimp only at hSw); go_simp; try with_reducible rfl
        simp only [Act.put]
        refine wpAnyF_take [31, 22, 19, 12, 9] (by kernel_rfl) (i := 6) (v := ?vfc7) rfl (by kernel_rfl) (by kernel_rfl) (by kernel_rfl) (fun _ _ _ h => h) (Or.inl ⟨by kernel_rfl, ?hyfc7⟩) hHeld ?restfc7
        case hyfc7 => intro w' hSw; (try dsimp only at hSw); go_simp; try with_reducible rfl
        simp only [Act.put]
        refine wpAnyF_take [31, 22, 19, 12, 9, 8] (by kernel_rfl) (i := 7) (v := ?vfc8) rfl (by kernel_rfl) (by kernel_rfl) (by kernel_rfl) (fun _ _ _ h => h) (Or.inl ⟨by kernel_rfl, ?hyfc8⟩) hHeld ?restfc8
        case hyfc8 => intro w' hSw; (try dsimp only at hSw); go_simp; try with_reducible rfl
        simp only [Act.put]
        refine wpAnyF_take [31, 22, 19, 12, 9] (by kernel_rfl) (i := 8) (v := ?vfc9) rfl (by kernel_rfl) (by kernel_rfl) (by kernel_rfl) (fun _ _ _ h => h) (Or.inl ⟨by kernel_rfl, ?hyfc9⟩) hHeld ?restfc9
        case hyfc9 => intro w' hSw; (try dsimp only at hSw); go_simp; try with_reducible rfl
        simp only [Act.put]
        refine wpAnyF_ready (rs := [9]) (by kernel_rfl) (by simp) ?_
        refine AllReadyF.cons rfl (fun K hK => ?_) AllReadyF.nil
        go_simp
        refine (HF0.out _).mono ?_
        rintro e wC0 ⟨rfl, hbC⟩
        dsimp only
        have HBC0 := hide_ (below_to ((Below.refl w3.heap.size w3).drew) hbC)
        clear hbC
        refine hK.out _ _ (HSS.out _ HBC0.out) (fun hHeld => ?_)
        clear hK K
        refine wpAnyF_take [31, 22, 19, 12, 11] (by kernel_rfl) (i := 10) (v := ?vfc10) rfl (by kernel_rfl) (by kernel_rfl) (by kernel_rfl) (fun _ _ _ h => h) (Or.inl ⟨by kernel_rfl, ?hyfc10⟩) hHeld ?restfc10
        case hyfc10 => intro w' hSw; (try dsimp only at hSw); go_simp; try with_reducible rfl
        simp only [Act.put]
        refine wpAnyF_take [31, 22, 19, 12] (by kernel_rfl) (i := 11) (v := ?vfc11) rfl (by kernel_rfl) (by kernel_rfl) (by kernel_rfl) (fun _ _ _ h => h) (Or.inl ⟨by kernel_rfl, ?hyfc11⟩) hHeld ?restfc11
        case hyfc11 => intro w' hSw; (try dsimp only at hSw); go_simp; try with_reducible rfl
        simp only [Act.put]
        refine wpAnyF_take [31, 22, 19] (by kernel_rfl) (i := 12) (v := ?vfc12) rfl (by kernel_rfl) (by kernel_rfl) (by kernel_rfl) (fun _ _ _ h => h) (Or.inl ⟨by kernel_rfl, ?hyfc12⟩) hHeld ?restfc12
        case hyfc12 => intro w' hSw; (try dsimp only at hSw); go_simp; try with_reducible rfl
        simp only [Act.put]
        refine wpAnyF_take [31, 22, 19] (by kernel_rfl) (i := 13) (v := ?vfc13) rfl (by kernel_rfl) (by kernel_rfl) (by kernel_rfl) (fun _ _ _ h => h) (Or.inl ⟨by kernel_rfl, ?hyfc13⟩) hHeld ?restfc13
        case hyfc13 => intro w' hSw; (try dsimp only at hSw); go_simp; try with_reducible rfl
        simp only [Act.put]
        refine wpAnyF_take [31, 22, 19, 16, 15] (by kernel_rfl) (i := 14) (v := ?vfc14) rfl (by kernel_rfl) (by kernel_rfl) (by kernel_rfl) (fun _ _ _ h => h) (Or.inl ⟨by kernel_rfl, ?hyfc14⟩) hHeld ?restfc14
        case hyfc14 => intro w' hSw; (try dsimp only at hSw); go_simp; try with_reducible rfl
        simp only [Act.put]
        refine wpAnyF_take [31, 22, 19, 16] (by kernel_rfl) (i := 15) (v := ?vfc15) rfl (by kernel_rfl) (by kernel_rfl) (by kernel_rfl) (fun _ _ _ h => h) (Or.inl ⟨by kernel_rfl, ?hyfc15⟩) hHeld ?restfc15
        case hyfc15 => intro w' hSw; (try dsimp only at hSw); go_simp; try with_reducible rfl
        simp only [Act.put]
        refine wpAnyF_take [31, 22, 19] (by kernel_rfl) (i := 16) (v := ?vfc16) rfl (by kernel_rfl) (by kernel_rfl) (by kernel_rfl) (fun _ _ _ h => h) (Or.inl ⟨by kernel_rfl, ?hyfc16⟩) hHeld ?restfc16
        case hyfc16 => intro w' hSw; (try dsimp only at hSw); go_simp; try with_reducible rfl
        simp only [Act.put]
        refine wpAnyF_take [31, 22, 19, 18] (by kernel_rfl) (i := 17) (v := ?vfc17) rfl (by kernel_rfl) (by kernel_rfl) (by kernel_rfl) (fun _ _ _ h => h) (Or.inl ⟨by kernel_rfl, ?hyfc17⟩) hHeld ?restfc17
        case hyfc17 => intro w' hSw; (try dsimp only at hSw); go_simp; try with_reducible rfl
        simp only [Act.put]
        refine wpAnyF_take [31, 22, 19] (by kernel_rfl) (i := 18) (v := ?vfc18) rfl (by kernel_rfl) (by kernel_rfl) (by kernel_rfl) (fun _ _ _ h => h) (Or.inl ⟨by kernel_rfl, ?hyfc18⟩) hHeld ?restfc18
        case hyfc18 => intro w' hSw; (try dsimp only at hSw); go_simp; try with_reducible rfl
        simp only [Act.put]
        refine wpAnyF_ready (rs := [19]) (by kernel_rfl) (by simp) ?_
        refine AllReadyF.cons rfl (fun K hK => ?_) AllReadyF.nil
        go_simp
        refine (HF1.out _).mono ?_
        rintro e wC1 ⟨rfl, hbC⟩
        dsimp only
        have HBC1 := hide_ (below_to (HBC0.out) hbC)
        clear hbC
        refine hK.out _ _ (HSS.out _ HBC1.out) (fun hHeld => ?_)
        clear hK K
        refine wpAnyF_take [31, 22, 21] (by kernel_rfl) (i := 20) (v := ?vfc19) rfl (by kernel_rfl) (by kernel_rfl) (by kernel_rfl) (fun _ _ _ h => h) (Or.inl ⟨by kernel_rfl, ?hyfc19⟩) hHeld ?restfc19
        case hyfc19 => intro w' hSw; (try dsimp only at hSw); go_simp; try with_reducible rfl
        simp only [Act.put]
        refine wpAnyF_take [31, 22] (by kernel_rfl) (i := 21) (v := ?vfc20) rfl (by kernel_rfl) (by kernel_rfl) (by kernel_rfl) (fun _ _ _ h => h) (Or.inl ⟨by kernel_rfl, ?hyfc20⟩) hHeld ?restfc20
        case hyfc20 => intro w' hSw; (try dsimp only at hSw); go_simp; try with_reducible rfl
        simp only [Act.put]
        refine wpAnyF_take [31] (by kernel_rfl) (i := 22) (v := ?vfc21) rfl (by kernel_rfl) (by kernel_rfl) (by kernel_rfl) (fun _ _ _ h => h) (Or.inl ⟨by kernel_rfl, ?hyfc21⟩) hHeld ?restfc21
        case hyfc21 => intro w' hSw; (try dsimp only at hSw); go_simp; try with_reducible rfl
        simp only [Act.put]
        refine wpAnyF_take [31, 30, 29] (by kernel_rfl) (i := 23) (v := undef) rfl (by kernel_rfl) (by kernel_rfl) (by kernel_rfl) (fun _ _ _ h => h) (Or.inr ⟨by kernel_rfl, rfl⟩) hHeld ?_
        simp only [Act.put]
        refine wpAnyF_take [31, 30, 29, 26, 25] (by kernel_rfl) (i := 24) (v := undef) rfl (by kernel_rfl) (by kernel_rfl) (by kernel_rfl) (fun _ _ _ h => h) (Or.inr ⟨by kernel_rfl, rfl⟩) hHeld ?_
        simp only [Act.put]
        refine wpAnyF_take [31, 30, 29, 26] (by kernel_rfl) (i := 25) (v := undef) rfl (by kernel_rfl) (by kernel_rfl) (by kernel_rfl) (fun _ _ _ h => h) (Or.inr ⟨by kernel_rfl, rfl⟩) hHeld ?_
        simp only [Act.put]
        refine wpAnyF_take [31, 30, 29] (by kernel_rfl) (i := 26) (v := undef) rfl (by kernel_rfl) (by kernel_rfl) (by kernel_rfl) (fun _ _ _ h => h) (Or.inr ⟨by kernel_rfl, rfl⟩) hHeld ?_
        simp only [Act.put]
        refine wpAnyF_take [31, 30, 29, 28] (by kernel_rfl) (i := 27) (v := undef) rfl (by kernel_rfl) (by kernel_rfl) (by kernel_rfl) (fun _ _ _ h => h) (Or.inr ⟨by kernel_rfl, rfl⟩) hHeld ?_
        simp only [Act.put]
        refine wpAnyF_take [31, 30, 29] (by kernel_rfl) (i := 28) (v := undef) rfl (by kernel_rfl) (by kernel_rfl) (by kernel_rfl) (fun _ _ _ h => h) (Or.inr ⟨by kernel_rfl, rfl⟩) hHeld ?_
        simp only [Act.put]
        refine wpAnyF_take [31, 30] (by kernel_rfl) (i := 29) (v := undef) rfl (by kernel_rfl) (by kernel_rfl) (by kernel_rfl) (fun _ _ _ h => h) (Or.inr ⟨by kernel_rfl, rfl⟩) hHeld ?_
        simp only [Act.put]
        refine wpAnyF_take [31] (by kernel_rfl) (i := 30) (v := undef) rfl (by kernel_rfl) (by kernel_rfl) (by kernel_rfl) (fun _ _ _ h => h) (Or.inr ⟨by kernel_rfl, rfl⟩) hHeld ?_
        simp only [Act.put]
        refine wpAnyF_ready (rs := [31]) (by kernel_rfl) (by simp) ?_
        refine AllReadyF.last rfl (fun K hK => ?_)
        go_simp
        refine hK.out _ _ ?_
        clear hK K
        refine wpAnyF_done (by kernel_rfl) ?_ _
        go_wp2_with fail
        go_meet
        case rel => exact ⟨true, _, rfl, rfl, hide_ (HD.out), hide_ (HBC1.out)⟩
        --/RC
      | true =>
      cases r2 with
      | false =>
        have HD : Hid (true = !frmX enc C.length ne x) := hide_ (by rw [HFX.out]; rfl)
        clear HFX
        --RD
        refine wp_region_last 31 (fun w' => w'.cell? ⟨w.heap.size, 0, none⟩ = some (.bool enc) ∧ w'.cell? ⟨w.heap.size, 1, none⟩ = some (.slice (some ⟨b, off, none⟩) C.length cc) ∧ w'.cell? ⟨w.heap.size, 2, none⟩ = some (.slice ae ne ce) ∧ w'.cell? ⟨w.heap.size + 1, 1, none⟩ = some (.int .i64 x.a) ∧ w'.cell? ⟨w.heap.size + 1, 2, none⟩ = some (.int .i64 x.b) ∧ w'.cell? ⟨w.heap.size + 1, 3, none⟩ = some (.int .i64 x.c) ∧ w'.cell? ⟨g6, 1, none⟩ = some (.string ⟨#[l0, l1, l2]⟩)) (by kernel_rfl) (HSS.out _ ((Below.refl w3.heap.size w3).drew)) (fun hHeld => ?_)
        refine wpAnyF_take [31, 22, 19, 12, 9, 2, 1] (by kernel_rfl) (i := 0) (v := ?vfd1) rfl (by kernel_rfl) (by kernel_rfl) (by kernel_rfl) (fun _ _ _ h => h) (Or.inl ⟨by kernel_rfl, ?hyfd1⟩) hHeld ?restfd1
        case hyfd1 => intro w' hSw; (try dsimp only at hSw); go_simp; try with_reducible rfl
        simp only [Act.put]
        refine wpAnyF_take [31, 22, 19, 12, 9, 2] (by kernel_rfl) (i := 1) (v := ?vfd2) rfl (by kernel_rfl) (by kernel_rfl) (by kernel_rfl) (fun _ _ _ h => h) (Or.inl ⟨by kernel_rfl, ?hyfd2⟩) hHeld ?restfd2
        case hyfd2 => intro w' hSw; (try dsimp only at hSw); go_simp; try with_reducible rfl
        simp only [Act.put]
        refine wpAnyF_take [31, 22, 19, 12, 9] (by kernel_rfl) (i := 2) (v := ?vfd3) rfl (by kernel_rfl) (by kernel_rfl) (by kernel_rfl) (fun _ _ _ h => h) (Or.inl ⟨by kernel_rfl, ?hyfd3⟩) hHeld ?restfd3
        case hyfd3 => intro w' hSw; (try dsimp only at hSw); go_simp; try with_reducible rfl
        simp only [Act.put]
        refine wpAnyF_take [31, 22, 19, 12, 9] (by kernel_rfl) (i := 3) (v := ?vfd4) rfl (by kernel_rfl) (by kernel_rfl) (by kernel_rfl) (fun _ _ _ h => h) (Or.inl ⟨by kernel_rfl, ?hyfd4⟩) hHeld ?restfd4
        case hyfd4 => intro w' hSw; (try dsimp only at hSw); go_simp; try with_reducible rfl
        simp only [Act.put]
        refine wpAnyF_take [31, 22, 19, 12, 9, 6, 5] (by kernel_rfl) (i := 4) (v := ?vfd5) rfl (by kernel_rfl) (by kernel_rfl) (by kernel_rfl) (fun _ _ _ h => h) (Or.inl ⟨by kernel_rfl, ?hyfd5⟩) hHeld ?restfd5
        case hyfd5 => intro w' hSw; (try dsimp only at hSw); go_simp; try with_reducible rfl
        simp only [Act.put]
        refine wpAnyF_take [31, 22, 19, 12, 9, 6] (by kernel_rfl) (i := 5) (v := ?vfd6) rfl (by kernel_rfl) (by kernel_rfl) (by kernel_rfl) (fun _ _ _ h => h) (Or.inl ⟨by kernel_rfl, ?hyfd6⟩) hHeld ?restfd6
        case hyfd6 => intro w' hSw; (try dsimp only at hSw); go_simp; try with_reducible rfl
        simp only [Act.put]
        refine wpAnyF_take [31, 22, 19, 12, 9] (by kernel_rfl) (i := 6) (v := ?vfd7) rfl (by kernel_rfl) (by kernel_rfl) (by kernel_rfl) (fun _ _ _ h => h) (Or.inl ⟨by kernel_rfl, ?hyfd7⟩) hHeld ?restfd7
        case hyfd7 => intro w' hSw; (try dsimp only at hSw); go_simp; try with_reducible rfl
        simp only [Act.put]
        refine wpAnyF_take [31, 22, 19, 12, 9, 8] (by kernel_rfl) (i := 7) (v := ?vfd8) rfl (by kernel_rfl) (by kernel_rfl) (by kernel_rfl) (fun _ _ _ h => h) (Or.inl ⟨by kernel_rfl, ?hyfd8⟩) hHeld ?restfd8
        case hyfd8 => intro w' hSw; (try dsimp only at hSw); go_simp; try with_reducible rfl
        simp only [Act.put]
        refine wpAnyF_take [31, 22, 19, 12, 9] (by kernel_rfl) (i := 8) (v := ?vfd9) rfl (by kernel_rfl) (by kernel_rfl) (by kernel_rfl) (fun _ _ _ h => h) (Or.inl ⟨by kernel_rfl, ?hyfd9⟩) hHeld ?restfd9
        case hyfd9 => intro w' hSw; (try dsimp only at hSw); go_simp; try with_reducible rfl
        simp only [Act.put]
        refine wpAnyF_ready (rs := [9]) (by kernel_rfl) (by simp) ?_
        refine AllReadyF.cons rfl (fun K hK => ?_) AllReadyF.nil
        go_simp
        refine (HF0.out _).mono ?_
        rintro e wC0 ⟨rfl, hbC⟩
        dsimp only
        have HBC0 := hide_ (below_to ((Below.refl w3.heap.size w3).drew) hbC)
        clear hbC
        refine hK.out _ _ (HSS.out _ HBC0.out) (fun hHeld => ?_)
        clear hK K
        refine wpAnyF_take [31, 22, 19, 12, 11] (by kernel_rfl) (i := 10) (v := ?vfd10) rfl (by kernel_rfl) (by kernel_rfl) (by kernel_rfl) (fun _ _ _ h => h) (Or.inl ⟨by kernel_rfl, ?hyfd10⟩) hHeld ?restfd10
        case hyfd10 => intro w' hSw; (try dsimp only at hSw); go_simp; try with_reducible rfl
        simp only [Act.put]
        refine wpAnyF_take [31, 22, 19, 12] (by kernel_rfl) (i := 11) (v := ?vfd11) rfl (by kernel_rfl) (by kernel_rfl) (by kernel_rfl) (fun _ _ _ h => h) (Or.inl ⟨by kernel_rfl, ?hyfd11⟩) hHeld ?restfd11
        case hyfd11 => intro w' hSw; (try dsimp only at hSw); go_simp; try with_reducible rfl
        simp only [Act.put]
        refine wpAnyF_take [31, 22, 19] (by kernel_rfl) (i := 12) (v := ?vfd12) rfl (by kernel_rfl) (by kernel_rfl) (by kernel_rfl) (fun _ _ _ h => h) (Or.inl ⟨by kernel_rfl, ?hyfd12⟩) hHeld ?restfd12
        case hyfd12 => intro w' hSw; (try dsimp only at hSw); go_simp; try with_reducible rfl
        simp only [Act.put]
        refine wpAnyF_take [31, 22, 19] (by kernel_rfl) (i := 13) (v := ?vfd13) rfl (by kernel_rfl) (by kernel_rfl) (by kernel_rfl) (fun _ _ _ h => h) (Or.inl ⟨by kernel_rfl, ?hyfd13⟩) hHeld ?restfd13
        case hyfd13 => intro w' hSw; (try dsimp only at hSw); go_simp; try with_reducible rfl
        simp only [Act.put]
        refine wpAnyF_take [31, 22, 19, 16, 15] (by kernel_rfl) (i := 14) (v := ?vfd14) rfl (by kernel_rfl) (by kernel_rfl) (by kernel_rfl) (fun _ _ _ h => h) (Or.inl ⟨by kernel_rfl, ?hyfd14⟩) hHeld ?restfd14
        case hyfd14 => intro w' hSw; (try dsimp only at hSw); go_simp; try with_reducible rfl
        simp only [Act.put]
        refine wpAnyF_take [31, 22, 19, 16] (by kernel_rfl) (i := 15) (v := ?vfd15) rfl (by kernel_rfl) (by kernel_rfl) (by kernel_rfl) (fun _ _ _ h => h) (Or.inl ⟨by kernel_rfl, ?hyfd15⟩) hHeld ?restfd15
        case hyfd15 => intro w' hSw; (try dsimp only at hSw); go_simp; try with_reducible rfl
        simp only [Act.put]
        refine wpAnyF_take [31, 22, 19] (by kernel_rfl) (i := 16) (v := ?vfd16) rfl (by kernel_rfl) (by kernel_rfl) (by kernel_rfl) (fun _ _ _ h => h) (Or.inl ⟨by kernel_rfl, ?hyfd16⟩) hHeld ?restfd16
        case hyfd16 => intro w' hSw; (try dsimp only at hSw); go_simp; try with_reducible rfl
        simp only [Act.put]
        refine wpAnyF_take [31, 22, 19, 18] (by kernel_rfl) (i := 17) (v := ?vfd17) rfl (by kernel_rfl) (by kernel_rfl) (by kernel_rfl) (fun _ _ _ h => h) (Or.inl ⟨by kernel_rfl, ?hyfd17⟩) hHeld ?restfd17
        case hyfd17 => intro w' hSw; (try dsimp only at hSw); go_simp; try with_reducible rfl
        simp only [Act.put]
        refine wpAnyF_take [31, 22, 19] (by kernel_rfl) (i := 18) (v := ?vfd18) rfl (by kernel_rfl) (by kernel_rfl) (by kernel_rfl) (fun _ _ _ h => h) (Or.inl ⟨by kernel_rfl, ?hyfd18⟩) hHeld ?restfd18
        case hyfd18 => intro w' hSw; (try dsimp only at hSw); go_simp; try with_reducible rfl
        simp only [Act.put]
        refine wpAnyF_ready (rs := [19]) (by kernel_rfl) (by simp) ?_
        refine AllReadyF.cons rfl (fun K hK => ?_) AllReadyF.nil
        go_simp
        refine (HF1.out _).mono ?_
        rintro e wC1 ⟨rfl, hbC⟩
        dsimp only
        have HBC1 := hide_ (below_to (HBC0.out) hbC)
        clear hbC
        refine hK.out _ _ (HSS.out _ HBC1.out) (fun hHeld => ?_)
        clear hK K
        refine wpAnyF_take [31, 22, 21] (by kernel_rfl) (i := 20) (v := ?vfd19) rfl (by kernel_rfl) (by kernel_rfl) (by kernel_rfl) (fun _ _ _ h => h) (Or.inl ⟨by kernel_rfl, ?hyfd19⟩) hHeld ?restfd19
        case hyfd19 => intro w' hSw; (try dsimp only at hSw); go_simp; try with_reducible rfl
        simp only [Act.put]
        refine wpAnyF_take [31, 22] (by kernel_rfl) (i := 21) (v := ?vfd20) rfl (by kernel_rfl) (by kernel_rfl) (by kernel_rfl) (fun _ _ _ h => h) (Or.inl ⟨by kernel_rfl, ?hyfd20⟩) hHeld ?restfd20
        case hyfd20 => intro w' hSw; (try dsimp only at hSw); go_simp; try with_reducible rfl
        simp only [Act.put]
        refine wpAnyF_take [31] (by kernel_rfl) (i := 22) (v := ?vfd21) rfl (by kernel_rfl) (by kernel_rfl) (by kernel_rfl) (fun _ _ _ h => h) (Or.inl ⟨by kernel_rfl, ?hyfd21⟩) hHeld ?restfd21
        case hyfd21 => intro w' hSw; (try dsimp only at hSw); go_simp; try with_reducible rfl
        simp only [Act.put]
        refine wpAnyF_take [31, 30, 29] (by kernel_rfl) (i := 23) (v := ?vfd22) rfl (by kernel_rfl) (by kernel_rfl) (by kernel_rfl) (fun _ _ _ h => h) (Or.inl ⟨by kernel_rfl, ?hyfd22⟩) hHeld ?restfd22
        case hyfd22 => intro w' hSw; (try dsimp only at hSw); go_simp; try with_reducible rfl
        simp only [Act.put]
        refine wpAnyF_take [31, 30, 29, 26, 25] (by kernel_rfl) (i := 24) (v := ?vfd23) rfl (by kernel_rfl) (by kernel_rfl) (by kernel_rfl) (fun _ _ _ h => h) (Or.inl ⟨by kernel_rfl, ?hyfd23⟩) hHeld ?restfd23
        case hyfd23 => intro w' hSw; (try dsimp only at hSw); go_simp; try with_reducible rfl
        simp only [Act.put]
        refine wpAnyF_take [31, 30, 29, 26] (by kernel_rfl) (i := 25) (v := ?vfd24) rfl (by kernel_rfl) (by kernel_rfl) (by kernel_rfl) (fun _ _ _ h => h) (Or.inl ⟨by kernel_rfl, ?hyfd24⟩) hHeld ?restfd24
        case hyfd24 => intro w' hSw; (try dsimp only at hSw); go_simp; try with_reducible rfl
        simp only [Act.put]
        refine wpAnyF_take [31, 30, 29] (by kernel_rfl) (i := 26) (v := ?vfd25) rfl (by kernel_rfl) (by kernel_rfl) (by kernel_rfl) (fun _ _ _ h => h) (Or.inl ⟨by kernel_rfl, ?hyfd25⟩) hHeld ?restfd25
        case hyfd25 => intro w' hSw; (try dsimp only at hSw); go_simp; try with_reducible rfl
        simp only [Act.put]
        refine wpAnyF_take [31, 30, 29, 28] (by kernel_rfl) (i := 27) (v := ?vfd26) rfl (by kernel_rfl) (by kernel_rfl) (by kernel_rfl) (fun _ _ _ h => h) (Or.inl ⟨by kernel_rfl, ?hyfd26⟩) hHeld ?restfd26
        case hyfd26 => intro w' hSw; (try dsimp only at hSw); go_simp; try with_reducible rfl
        simp only [Act.put]
        refine wpAnyF_take [31, 30, 29] (by kernel_rfl) (i := 28) (v := ?vfd27) rfl (by kernel_rfl) (by kernel_rfl) (by kernel_rfl) (fun _ _ _ h => h) (Or.inl ⟨by kernel_rfl, ?hyfd27⟩) hHeld ?restfd27
        case hyfd27 => intro w' hSw; (try dsimp only at hSw); go_simp; try with_reducible rfl
        simp only [Act.put]
        refine wpAnyF_ready (rs := [29]) (by kernel_rfl) (by simp) ?_
        refine AllReadyF.cons rfl (fun K hK => ?_) AllReadyF.nil
        go_simp
        refine (HF2.out _).mono ?_
        rintro e wC2 ⟨rfl, hbC⟩
        dsimp only
        have HBC2 := hide_ (below_to (HBC1.out) hbC)
        clear hbC
        refine hK.out _ _ (HSS.out _ HBC2.out) (fun hHeld => ?_)
        clear hK K
        refine wpAnyF_take [31] (by kernel_rfl) (i := 30) (v := ?vfd28) rfl (by kernel_rfl) (by kernel_rfl) (by kernel_rfl) (fun _ _ _ h => h) (Or.inl ⟨by kernel_rfl, ?hyfd28⟩) hHeld ?restfd28
        case hyfd28 => intro w' hSw; (try dsimp only at hSw); go_simp; try with_reducible rfl
        simp only [Act.put]
        refine wpAnyF_ready (rs := [31]) (by kernel_rfl) (by simp) ?_
        refine AllReadyF.last rfl (fun K hK => ?_)
        go_simp
        refine hK.out _ _ ?_
        clear hK K
        refine wpAnyF_done (by kernel_rfl) ?_ _
        go_wp2_with fail
        go_meet
        case rel => exact ⟨true, _, rfl, rfl, hide_ (HD.out), hide_ (HBC2.out)⟩
        --/RD
      | true =>
        have HD : Hid (false = !frmX enc C.length ne x) := hide_ (by rw [HFX.out]; rfl)
        clear HFX
        --RE
        refine wp_region_last 31 (fun w' => w'.cell? ⟨w.heap.size, 0, none⟩ = some (.bool enc) ∧ w'.cell? ⟨w.heap.size, 1, none⟩ = some (.slice (some ⟨b, off, none⟩) C.length cc) ∧ w'.cell? ⟨w.heap.size, 2, none⟩ = some (.slice ae ne ce) ∧ w'.cell? ⟨w.heap.size + 1, 1, none⟩ = some (.int .i64 x.a) ∧ w'.cell? ⟨w.heap.size + 1, 2, none⟩ = some (.int .i64 x.b) ∧ w'.cell? ⟨w.heap.size + 1, 3, none⟩ = some (.int .i64 x.c) ∧ w'.cell? ⟨g6, 1, none⟩ = some (.string ⟨#[l0, l1, l2]⟩)) (by kernel_rfl) (HSS.out _ ((Below.refl w3.heap.size w3).drew)) (fun hHeld => ?_)
        refine wpAnyF_take [31, 22, 19, 12, 9, 2, 1] (by kernel_rfl) (i := 0) (v := ?vfe1) rfl (by kernel_rfl) (by kernel_rfl) (by kernel_rfl) (fun _ _ _ h => h) (Or.inl ⟨by kernel_rfl, ?hyfe1⟩) hHeld ?restfe1
        case hyfe1 => intro w' hSw; (try dsimp only at hSw); go_simp; try with_reducible rfl
        simp only [Act.put]
        refine wpAnyF_take [31, 22, 19, 12, 9, 2] (by kernel_rfl) (i := 1) (v := ?vfe2) rfl (by kernel_rfl) (by kernel_rfl) (by kernel_rfl) (fun _ _ _ h => h) (Or.inl ⟨by kernel_rfl, ?hyfe2⟩) hHeld ?restfe2
        case hyfe2 => intro w' hSw; (try dsimp only at hSw); go_simp; try with_reducible rfl
        simp only [Act.put]
        refine wpAnyF_take [31, 22, 19, 12, 9] (by kernel_rfl) (i := 2) (v := ?vfe3) rfl (by kernel_rfl) (by kernel_rfl) (by kernel_rfl) (fun _ _ _ h => h) (Or.inl ⟨by kernel_rfl, ?hyfe3⟩) hHeld ?restfe3
        case hyfe3 => intro w' hSw; (try dsimp only at hSw); go_simp; try with_reducible rfl
        simp only [Act.put]
        refine wpAnyF_take [31, 22, 19, 12, 9] (by kernel_rfl) (i := 3) (v := ?vfe4) rfl (by kernel_rfl) (by kernel_rfl) (by kernel_rfl) (fun _ _ _ h => h) (Or.inl ⟨by kernel_rfl, ?hyfe4⟩) hHeld ?restfe4
        case hyfe4 => intro w' hSw; (try dsimp only at hSw); go_simp; try with_reducible rfl
        simp only [Act.put]
        refine wpAnyF_take [31, 22, 19, 12, 9, 6, 5] (by kernel_rfl) (i := 4) (v := ?vfe5) rfl (by kernel_rfl) (by kernel_rfl) (by kernel_rfl) (fun _ _ _ h => h) (Or.inl ⟨by kernel_rfl, ?hyfe5⟩) hHeld ?restfe5
        case hyfe5 => intro w' hSw; (try dsimp only at hSw); go_simp; try with_reducible rfl
        simp only [Act.put]
        refine wpAnyF_take [31, 22, 19, 12, 9, 6] (by kernel_rfl) (i := 5) (v := ?vfe6) rfl (by kernel_rfl) (by kernel_rfl) (by kernel_rfl) (fun _ _ _ h => h) (Or.inl ⟨by kernel_rfl, ?hyfe6⟩) hHeld ?restfe6
        case hyfe6 => intro w' hSw; (try dsimp only at hSw); go_simp; try with_reducible rfl
        simp only [Act.put]
        refine wpAnyF_take [31, 22, 19, 12, 9] (by kernel_rfl) (i := 6) (v := ?vfe7) rfl (by kernel_rfl) (by kernel_rfl) (by kernel_rfl) (fun _ _ _ h => h) (Or.inl ⟨by kernel_rfl, ?hyfe7⟩) hHeld ?restfe7
        case hyfe7 => intro w' hSw; (try dsimp only at hSw); go_simp; try with_reducible rfl
        simp only [Act.put]
        refine wpAnyF_take [31, 22, 19, 12, 9, 8] (by kernel_rfl) (i := 7) (v := ?vfe8) rfl (by kernel_rfl) (by kernel_rfl) (by kernel_rfl) (fun _ _ _ h => h) (Or.inl ⟨by kernel_rfl, ?hyfe8⟩) hHeld ?restfe8
        case hyfe8 => intro w' hSw; (try dsimp only at hSw); go_simp; try with_reducible rfl
        simp only [Act.put]
        refine wpAnyF_take [31, 22, 19, 12, 9] (by kernel_rfl) (i := 8) (v := ?vfe9) rfl (by kernel_rfl) (by kernel_rfl) (by kernel_rfl) (fun _ _ _ h => h) (Or.inl ⟨by kernel_rfl, ?hyfe9⟩) hHeld ?restfe9
        case hyfe9 => intro w' hSw; (try dsimp only at hSw); go_simp; try with_reducible rfl
        simp only [Act.put]
        refine wpAnyF_ready (rs := [9]) (by kernel_rfl) (by simp) ?_
        refine AllReadyF.cons rfl (fun K hK => ?_) AllReadyF.nil
        go_simp
        refine (HF0.out _).mono ?_
        rintro e wC0 ⟨rfl, hbC⟩
        dsimp only
        have HBC0 := hide_ (below_to ((Below.refl w3.heap.size w3).drew) hbC)
        clear hbC
        refine hK.out _ _ (HSS.out _ HBC0.out) (fun hHeld => ?_)
        clear hK K
        refine wpAnyF_take [31, 22, 19, 12, 11] (by kernel_rfl) (i := 10) (v := ?vfe10) rfl (by kernel_rfl) (by kernel_rfl) (by kernel_rfl) (fun _ _ _ h => h) (Or.inl ⟨by kernel_rfl, ?hyfe10⟩) hHeld ?restfe10
        case hyfe10 => intro w' hSw; (try dsimp only at hSw); go_simp; try with_reducible rfl
        simp only [Act.put]
        refine wpAnyF_take [31, 22, 19, 12] (by kernel_rfl) (i := 11) (v := ?vfe11) rfl (by kernel_rfl) (by kernel_rfl) (by kernel_rfl) (fun _ _ _ h => h) (Or.inl ⟨by kernel_rfl, ?hyfe11⟩) hHeld ?restfe11
        case hyfe11 => intro w' hSw; (try dsimp only at hSw); go_simp; try with_reducible rfl
        simp only [Act.put]
        refine wpAnyF_take [31, 22, 19] (by kernel_rfl) (i := 12) (v := ?vfe12) rfl (by kernel_rfl) (by kernel_rfl) (by kernel_rfl) (fun _ _ _ h => h) (Or.inl ⟨by kernel_rfl, ?hyfe12⟩) hHeld ?restfe12
        case hyfe12 => intro w' hSw; (try dsimp only at hSw); go_simp; try with_reducible rfl
        simp only [Act.put]
        refine wpAnyF_take [31, 22, 19] (by kernel_rfl) (i := 13) (v := ?vfe13) rfl (by kernel_rfl) (by kernel_rfl) (by kernel_rfl) (fun _ _ _ h => h) (Or.inl ⟨by kernel_rfl, ?hyfe13⟩) hHeld ?restfe13
        case hyfe13 => intro w' hSw; (try dsimp only at hSw); go_simp; try with_reducible rfl
        simp only [Act.put]
        refine wpAnyF_take [31, 22, 19, 16, 15] (by kernel_rfl) (i := 14) (v := ?vfe14) rfl (by kernel_rfl) (by kernel_rfl) (by kernel_rfl) (fun _ _ _ h => h) (Or.inl ⟨by kernel_rfl, ?hyfe14⟩) hHeld ?restfe14
        case hyfe14 => intro w' hSw; (try dsimp only at hSw); go_simp; try with_reducible rfl
        simp only [Act.put]
        refine wpAnyF_take [31, 22, 19, 16] (by kernel_rfl) (i := 15) (v := ?vfe15) rfl (by kernel_rfl) (by kernel_rfl) (by kernel_rfl) (fun _ _ _ h => h) (Or.inl ⟨by kernel_rfl, ?hyfe15⟩) hHeld ?restfe15
        case hyfe15 => intro w' hSw; (try dsimp only at hSw); go_simp; try with_reducible rfl
        simp only [Act.put]
        refine wpAnyF_take [31, 22, 19] (by kernel_rfl) (i := 16) (v := ?vfe16) rfl (by kernel_rfl) (by kernel_rfl) (by kernel_rfl) (fun _ _ _ h => h) (Or.inl ⟨by kernel_rfl, ?hyfe16⟩) hHeld ?restfe16
        case hyfe16 => intro w' hSw; (try dsimp only at hSw); go_simp; try with_reducible rfl
        simp only [Act.put]
        refine wpAnyF_take [31, 22, 19, 18] (by kernel_rfl) (i := 17) (v := ?vfe17) rfl (by kernel_rfl) (by kernel_rfl) (by kernel_rfl) (fun _ _ _ h => h) (Or.inl ⟨by kernel_rfl, ?hyfe17⟩) hHeld ?restfe17
        case hyfe17 => intro w' hSw; (try dsimp only at hSw); go_simp; try with_reducible rfl
        simp only [Act.put]
        refine wpAnyF_take [31, 22, 19] (by kernel_rfl) (i := 18) (v := ?vfe18) rfl (by kernel_rfl) (by kernel_rfl) (by kernel_rfl) (fun _ _ _ h => h) (Or.inl ⟨by kernel_rfl, ?hyfe18⟩) hHeld ?restfe18
        case hyfe18 => intro w' hSw; (try dsimp only at hSw); go_simp; try with_reducible rfl
        simp only [Act.put]
        refine wpAnyF_ready (rs := [19]) (by kernel_rfl) (by simp) ?_
        refine AllReadyF.cons rfl (fun K hK => ?_) AllReadyF.nil
        go_simp
        refine (HF1.out _).mono ?_
        rintro e wC1 ⟨rfl, hbC⟩
        dsimp only
        have HBC1 := hide_ (below_to (HBC0.out) hbC)
        clear hbC
        refine hK.out _ _ (HSS.out _ HBC1.out) (fun hHeld => ?_)
        clear hK K
        refine wpAnyF_take [31, 22, 21] (by kernel_rfl) (i := 20) (v := ?vfe19) rfl (by kernel_rfl) (by kernel_rfl) (by kernel_rfl) (fun _ _ _ h => h) (Or.inl ⟨by kernel_rfl, ?hyfe19⟩) hHeld ?restfe19
        case hyfe19 => intro w' hSw; (try dsimp only at hSw); go_simp; try with_reducible rfl
        simp only [Act.put]
        refine wpAnyF_take [31, 22] (by kernel_rfl) (i := 21) (v := ?vfe20) rfl (by kernel_rfl) (by kernel_rfl) (by kernel_rfl) (fun _ _ _ h => h) (Or.inl ⟨by kernel_rfl, ?hyfe20⟩) hHeld ?restfe20
        case hyfe20 => intro w' hSw; (try dsimp only at hSw); go_simp; try with_reducible rfl
        simp only [Act.put]
        refine wpAnyF_take [31] (by kernel_rfl) (i := 22) (v := ?vfe21) rfl (by kernel_rfl) (by kernel_rfl) (by kernel_rfl) (fun _ _ _ h => h) (Or.inl ⟨by kernel_rfl, ?hyfe21⟩) hHeld ?restfe21
        case hyfe21 => intro w' hSw; (try dsimp only at hSw); go_simp; try with_reducible rfl
        simp only [Act.put]
        refine wpAnyF_take [31, 30, 29] (by kernel_rfl) (i := 23) (v := ?vfe22) rfl (by kernel_rfl) (by kernel_rfl) (by kernel_rfl) (fun _ _ _ h => h) (Or.inl ⟨by kernel_rfl, ?hyfe22⟩) hHeld ?restfe22
        case hyfe22 => intro w' hSw; (try dsimp only at hSw); go_simp; try with_reducible rfl
        simp only [Act.put]
        refine wpAnyF_take [31, 30, 29, 26, 25] (by kernel_rfl) (i := 24) (v := ?vfe23) rfl (by kernel_rfl) (by kernel_rfl) (by kernel_rfl) (fun _ _ _ h => h) (Or.inl ⟨by kernel_rfl, ?hyfe23⟩) hHeld ?restfe23
        case hyfe23 => intro w' hSw; (try dsimp only at hSw); go_simp; try with_reducible rfl
        simp only [Act.put]
        refine wpAnyF_take [31, 30, 29, 26] (by kernel_rfl) (i := 25) (v := ?vfe24) rfl (by kernel_rfl) (by kernel_rfl) (by kernel_rfl) (fun _ _ _ h => h) (Or.inl ⟨by kernel_rfl, ?hyfe24⟩) hHeld ?restfe24
        case hyfe24 => intro w' hSw; (try dsimp only at hSw); go_simp; try with_reducible rfl
        simp only [Act.put]
        refine wpAnyF_take [31, 30, 29] (by kernel_rfl) (i := 26) (v := ?vfe25) rfl (by kernel_rfl) (by kernel_rfl) (by kernel_rfl) (fun _ _ _ h => h) (Or.inl ⟨by kernel_rfl, ?hyfe25⟩) hHeld ?restfe25
        case hyfe25 => intro w' hSw; (try dsimp only at hSw); go_simp; try with_reducible rfl
        simp only [Act.put]
        refine wpAnyF_take [31, 30, 29, 28] (by kernel_rfl) (i := 27) (v := ?vfe26) rfl (by kernel_rfl) (by kernel_rfl) (by kernel_rfl) (fun _ _ _ h => h) (Or.inl ⟨by kernel_rfl, ?hyfe26⟩) hHeld ?restfe26
        case hyfe26 => intro w' hSw; (try dsimp only at hSw); go_simp; try with_reducible rfl
        simp only [Act.put]
        refine wpAnyF_take [31, 30, 29] (by kernel_rfl) (i := 28) (v := ?vfe27) rfl (by kernel_rfl) (by kernel_rfl) (by kernel_rfl) (fun _ _ _ h => h) (Or.inl ⟨by kernel_rfl, ?hyfe27⟩) hHeld ?restfe27
        case hyfe27 => intro w' hSw; (try dsimp only at hSw); go_simp; try with_reducible rfl
        simp only [Act.put]
        refine wpAnyF_ready (rs := [29]) (by kernel_rfl) (by simp) ?_
        refine AllReadyF.cons rfl (fun K hK => ?_) AllReadyF.nil
        go_simp
        refine (HF2.out _).mono ?_
        rintro e wC2 ⟨rfl, hbC⟩
        dsimp only
        have HBC2 := hide_ (below_to (HBC1.out) hbC)
        clear hbC
        refine hK.out _ _ (HSS.out _ HBC2.out) (fun hHeld => ?_)
        clear hK K
        refine wpAnyF_take [31] (by kernel_rfl) (i := 30) (v := ?vfe28) rfl (by kernel_rfl) (by kernel_rfl) (by kernel_rfl) (fun _ _ _ h => h) (Or.inl ⟨by kernel_rfl, ?hyfe28⟩) hHeld ?restfe28
        case hyfe28 => intro w' hSw; (try dsimp only at hSw); go_simp; try with_reducible rfl
        simp only [Act.put]
        refine wpAnyF_ready (rs := [31]) (by kernel_rfl) (by simp) ?_
        refine AllReadyF.last rfl (fun K hK => ?_)
        go_simp
        refine hK.out _ _ ?_
        clear hK K
        refine wpAnyF_done (by kernel_rfl) ?_ _
        go_wp2_with fail
        go_meet
        case rel => exact ⟨false, _, rfl, rfl, hide_ (HD.out), hide_ (HBC2.out)⟩
        --/RE
  case rest =>
  obtain ⟨d, w4, rfl, rfl, HD, HB4⟩ := hcut
  have HBr := hide_ (below_to HB3.out HB4.out)
  cases d with
  | true =>
    have HR : Hid (frm enc C ne i = false) := hide_ (by
      rw [HFr.out]
      have := HD.out
      cases h : frmX enc C.length ne x with
      | false => rfl
      | true => rw [h] at this; cases this)
    go_wp2
    go_ret
    exact ⟨by rw [HR.out]; rfl, HBr.out⟩
  | false =>
    have hfx : frmX enc C.length ne x = true := by
      have := HD.out
      cases h : frmX enc C.length ne x with
      | false => rw [h] at this; cases this
      | true => rfl
    have hof : isOf x.op enc = true := (frmX_parts hfx).1
    have HR : Hid (frm enc C ne i = agr x (C.drop (i + 1))) := hide_ (by rw [HFr.out, hfx]; rfl)
    have hag := frmX_agB hfx
    have hnn := nm_ne hof
    have hon : ofN x.op enc = ⟨(nmT x.op).toArray⟩ := by unfold ofN; rw [if_pos hof]
    rw [HN.out] at hnn hon
    have a1 := (KI3.out.later HB4.out).cell 1; have a2 := (KI3.out.later HB4.out).cell 2; have a3 := (KI3.out.later HB4.out).cell 3
    have s0 := (K6.out.later HB4.out).cell 0
    have p0 := (KP3.out.later HB4.out).cell 0; have p1 := (KP3.out.later HB4.out).cell 1; have p2 := (KP3.out.later HB4.out).cell 2
    simp at a1 a2 a3 s0 p0 p1 p2
    clear HN HL HO HFr HSA
    obtain ⟨n2, n34, n17, n8, n41⟩ := hnn
    by_cases h2 : x.op = 2
    · have hsn : sN = ⟨#[117, 105, 110, 116, 115]⟩ := by rw [hon, h2]; rfl
      subst hsn
      have HA : Hid (agr x (C.drop (i + 1)) = decide (x.a + x.b ≤ 64)) := hide_ (by unfold agr; rw [if_pos h2])
      have hb2 := hag.u h2
      clear n2 n34 n17 n8 n41 hon hof hfx h2 hag
      go_wp2
      go_ret
      exact ⟨by rw [HR.out, HA.out]; rfl, HBr.out⟩
    have hn2 := n2 h2
    by_cases h34 : x.op = 34
    · have hsn : sN = ⟨#[110, 117, 109, 98, 101, 114, 115]⟩ := by rw [hon, h34]; rfl
      subst hsn
      have HA : Hid (agr x (C.drop (i + 1)) = decide (x.a + x.b * x.c ≤ 16777216)) := hide_ (by unfold agr; rw [if_neg h2, if_pos h34])
      obtain ⟨b1, b2, b3, b4, b5, b6⟩ := hag.n h34
      have hm : x.b * x.c ≤ 64 * 8 := Int.mul_le_mul b4 b6 (by omega) (by omega)
      have hm0 : 0 ≤ x.b * x.c := Int.mul_nonneg (by omega) (by omega)
      generalize hmq : x.b * x.c = mq at *
      clear n2 n34 n17 n8 n41 hon hof hfx h2 h34 hag hn2
      go_wp2
      go_ret
      exact ⟨by rw [HR.out, HA.out]; rfl, HBr.out⟩
    have hn34 := n34 h34
    by_cases h17 : x.op = 17
    · have hsn : sN = ⟨#[112, 97, 114, 116]⟩ := by rw [hon, h17]; rfl
      subst hsn
      have HA : Hid (agr x (C.drop (i + 1)) = ((x.a == -1) == (x.b == -1))) := hide_ (by unfold agr; rw [if_neg h2, if_neg h34, if_pos h17])
      clear n2 n34 n17 n8 n41 hon hof hfx h2 h34 h17 hag hn2 hn34
      go_wp2
      go_ret
      exact ⟨by rw [HR.out, HA.out]; rfl, HBr.out⟩
    have hn17 := n17 h17
    have hdc : x.op = 8 ∨ x.op = 41 ∨ (x.op ≠ 8 ∧ x.op ≠ 41) := by omega
    have HRa : x.op = 8 ∨ x.op = 41 → Calls Tryd.prog 22 #[.agg #[.bool enc, .slice (some ⟨b, off, none⟩) C.length cc, .slice ae ne ce], .int .i64 (i : Int)] w4 fun e w' => e = .returned (.bool (agr x (C.drop (i + 1)))) ∧ Below w4.heap.size w4 w' := fun hu => by
      have hal := (frmX_parts hfx).2.1
      rw [kin_un hu] at hal
      have hrg := alw_rng hal
      have hb8 : bnd C.length ne 8 = (1, 64) := rfl
      rw [hb8] at hrg
      have := rarms_any enc (some ⟨b, off, none⟩) ae cc ne ce i C x w4 HX.out (by simp only at hrg; omega) hCl (hide_ (HR3.out.later HB4.out))
      have e : agr x (C.drop (i + 1)) = arms (C.drop (i + 1)) x.a := by unfold agr; rw [if_neg h2, if_neg h34, if_neg h17, if_pos hu]
      rw [e]
      exact this
    rcases hdc with h8 | h41 | ⟨h8, h41⟩
    · have hsn : sN = ⟨#[117, 110, 105, 111, 110]⟩ := by rw [hon, h8]; rfl
      subst hsn
      have HA := hide_ (HRa (.inl h8))
      clear n2 n34 n17 n8 n41 hon hof hfx h2 h34 h17 h8 hag hn2 hn34 hn17 HRa
      go_wp2_with (go_at_call 22; refine HA.out.mono ?_; rintro e w5 ⟨rfl, hB5⟩)
      go_ret
      exact ⟨by rw [HR.out]; rfl, below_to HBr.out hB5⟩
    · have hsn : sN = ⟨#[99, 104, 111, 105, 99, 101]⟩ := by rw [hon, h41]; rfl
      subst hsn
      have HA := hide_ (HRa (.inr h41))
      clear n2 n34 n17 n8 n41 hon hof hfx h2 h34 h17 h41 hag hn2 hn34 hn17 HRa
      go_wp2_with (go_at_call 22; refine HA.out.mono ?_; rintro e w5 ⟨rfl, hB5⟩)
      go_ret
      exact ⟨by rw [HR.out]; rfl, below_to HBr.out hB5⟩
    · have hn8 := n8 h8
      have hn41 := n41 h41
      have HA : Hid (agr x (C.drop (i + 1)) = true) := hide_ (by unfold agr; rw [if_neg h2, if_neg h34, if_neg h17, if_neg (by omega)])
      have d2 := strL_ne _ [117, 105, 110, 116, 115] hn2; have d34 := strL_ne _ [110, 117, 109, 98, 101, 114, 115] hn34; have d17 := strL_ne _ [112, 97, 114, 116] hn17; have d8 := strL_ne _ [117, 110, 105, 111, 110] hn8; have d41 := strL_ne _ [99, 104, 111, 105, 99, 101] hn41
      clear n2 n34 n17 n8 n41 hn2 hn34 hn17 hn8 hn41 hon hof hfx h2 h34 h17 h8 h41 hag HRa
      go_wp2
      go_ret
      exact ⟨by rw [HR.out, HA.out]; rfl, HBr.out⟩
end Go.Proofs.YteadmiikenpjeaaDoor
