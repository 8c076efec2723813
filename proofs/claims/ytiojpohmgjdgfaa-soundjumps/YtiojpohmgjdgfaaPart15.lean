import Derived.Test.YtiojpohmgjdgfaaPart14
import Derived.Test.YtiojpohmgjdgfaaPart01
import Derived.BigQuiet
namespace Go.Proofs.Ytiojpohmgjdgfaa
open Go.RowKit
set_option linter.unusedVariables false
set_option linter.unusedSimpArgs false
theorem ix_s0 (a b c : UInt8) (w : World) : (Instr.index 9 (.string ⟨#[a, b, c]⟩) (.int .i64 0)).run Try.prog w = .ok (.int .u8 (a.toNat : Int)) w := by kernel_rfl
theorem ix_s1 (a b c : UInt8) (w : World) : (Instr.index 9 (.string ⟨#[a, b, c]⟩) (.int .i64 1)).run Try.prog w = .ok (.int .u8 (b.toNat : Int)) w := by kernel_rfl
theorem ix_s2 (a b c : UInt8) (w : World) : (Instr.index 9 (.string ⟨#[a, b, c]⟩) (.int .i64 2)).run Try.prog w = .ok (.int .u8 (c.toNat : Int)) w := by kernel_rfl
theorem three {l : List UInt8} (h : l.length = 3) : ∃ a b c, l = [a, b, c] := by
  match l, h with
  | [a, b, c], _ => exact ⟨a, b, c, rfl⟩
set_option maxRecDepth 100000 in
theorem nm_fin : ∀ n : Fin 48, (n.val ≠ 2 → nmT ((n.val : Nat) : Int) ≠ [117, 105, 110, 116, 115]) ∧ (n.val ≠ 34 → nmT ((n.val : Nat) : Int) ≠ [110, 117, 109, 98, 101, 114, 115]) ∧ (n.val ≠ 17 → nmT ((n.val : Nat) : Int) ≠ [112, 97, 114, 116]) ∧ (n.val ≠ 8 → nmT ((n.val : Nat) : Int) ≠ [117, 110, 105, 111, 110]) ∧ (n.val ≠ 41 → nmT ((n.val : Nat) : Int) ≠ [99, 104, 111, 105, 99, 101]) := by decide +kernel
theorem strL_ne (s : ByteArray) (l : List UInt8) (h : ¬ s = ⟨l.toArray⟩) : (s.toList == l) = false := by
  rw [beq_eq_false_iff_ne]
  intro e
  apply h
  rw [← e, ByteArray.toList_eq]
theorem ba_ne {l : List UInt8} {a : Array UInt8} (h : l ≠ a.toList) : ¬ (⟨l.toArray⟩ : ByteArray) = ⟨a⟩ := fun e => by
  injection e with e
  exact h (by rw [← e])
theorem nm_ne {op : Int} {e : Bool} (h : isOf op e = true) : (op ≠ 2 → ¬ ofN op e = ⟨#[117, 105, 110, 116, 115]⟩) ∧ (op ≠ 34 → ¬ ofN op e = ⟨#[110, 117, 109, 98, 101, 114, 115]⟩) ∧ (op ≠ 17 → ¬ ofN op e = ⟨#[112, 97, 114, 116]⟩) ∧ (op ≠ 8 → ¬ ofN op e = ⟨#[117, 110, 105, 111, 110]⟩) ∧ (op ≠ 41 → ¬ ofN op e = ⟨#[99, 104, 111, 105, 99, 101]⟩) := by
  have := isOf_rng h
  unfold ofN
  rw [if_pos h]
  obtain ⟨n, rfl⟩ : ∃ n : Fin 48, op = ((n.val : Nat) : Int) := ⟨⟨op.toNat, by omega⟩, by simp only; omega⟩
  obtain ⟨a, b, c, d, f⟩ := nm_fin n
  exact ⟨fun h => ba_ne (a (by omega)), fun h => ba_ne (b (by omega)), fun h => ba_ne (c (by omega)), fun h => ba_ne (d (by omega)), fun h => ba_ne (f (by omega))⟩
set_option maxRecDepth 100000 in
set_option maxHeartbeats 16000000 in
theorem formed_any (enc : Bool) (ac ae : Option Addr) (cc ne ce : Nat) (C : List In) (i : Nat) (w : World) (hi : i < C.length) (hCl : C.length ≤ 140737488355328) (hne : ne ≤ 140737488355328) (hr : Hid (IRow w ac C)) :
    Calls Try.prog 19 #[.agg #[.bool enc, .slice ac C.length cc, .slice ae ne ce], .int .i64 (i : Int)] w fun e w' => e = .returned (.bool (frm enc C ne i)) ∧ Below w.heap.size w w' := by
  obtain ⟨b, off, rfl, hb, -⟩ := hr.out.open (by omega)
  have hx : C[i]? = some (C[i]'hi) := List.getElem?_eq_getElem hi
  obtain ⟨i0, i1, i2, i3⟩ := hr.out.at hx
  have HFr := hide_ (frm_at (enc := enc) (ne := ne) hx)
  have HX := hide_ hx
  generalize C[i]'hi = x at *
  have hii : (i : Int) < C.length := by omega
  obtain ⟨w1, hw1⟩ : ∃ wx, wx = (w.alloc (.cells #[.bool enc, .slice (some ⟨b, off, none⟩) C.length cc, .slice ae ne ce] 25)).alloc (.cells #[.int .i64 x.op, .int .i64 x.a, .int .i64 x.b, .int .i64 x.c] 37) := ⟨_, rfl⟩
  have hB1 : Below w.heap.size w w1 := by rw [hw1]; exact below2 _ _ _
  obtain ⟨kp, ki⟩ := blk2 w #[.bool enc, .slice (some ⟨b, off, none⟩) C.length cc, .slice ae ne ce] #[.int .i64 x.op, .int .i64 x.a, .int .i64 x.b, .int .i64 x.c] 25 37
  rw [← hw1] at kp ki
  have KP := hide_ kp
  have KI := hide_ ki
  have HB1 := hide_ hB1
  have p0 := kp.cell 0
  have q0 := ki.cell 0
  simp at p0 q0
  have c0 : (w.alloc (.cells #[.bool enc, .slice (some ⟨b, off, none⟩) C.length cc, .slice ae ne ce] 25)).cell? ⟨b, off + i * 4, none⟩ = some (.int .i64 x.op) := by rw [cell_al _ _ _ _ hb]; exact i0
  have c1 : (w.alloc (.cells #[.bool enc, .slice (some ⟨b, off, none⟩) C.length cc, .slice ae ne ce] 25)).cell? ⟨b, off + i * 4 + 1, none⟩ = some (.int .i64 x.a) := by rw [cell_al _ _ _ _ hb]; exact i1
  have c2 : (w.alloc (.cells #[.bool enc, .slice (some ⟨b, off, none⟩) C.length cc, .slice ae ne ce] 25)).cell? ⟨b, off + i * 4 + 2, none⟩ = some (.int .i64 x.b) := by rw [cell_al _ _ _ _ hb]; exact i2
  have c3 : (w.alloc (.cells #[.bool enc, .slice (some ⟨b, off, none⟩) C.length cc, .slice ae ne ce] 25)).cell? ⟨b, off + i * 4 + 3, none⟩ = some (.int .i64 x.c) := by rw [cell_al _ _ _ _ hb]; exact i3
  have HOf := hide_ (of_any x.op enc w1)
  obtain ⟨o, ho⟩ : ∃ o, isOf x.op enc = o := ⟨_, rfl⟩
  obtain ⟨sN, hsN⟩ : ∃ s, ofN x.op enc = s := ⟨_, rfl⟩
  obtain ⟨sL, hsL⟩ : ∃ s, ofL x.op enc = s := ⟨_, rfl⟩
  rw [ho, hsN, hsL] at HOf
  have HO := hide_ ho
  have HN := hide_ hsN
  have HL := hide_ hsL
  clear i0 i1 i2 i3 kp ki hB1 ho hsN hsL
  go_enter Try.func19, Try.ntmps19
  go_upto_region 2 with fail
  rw [← hw1]
  clear hw1 c0 c1 c2 c3
  go_wp2_with fail
  refine HOf.out.mono ?_
  rintro e w2 ⟨rfl, hB2⟩
  obtain ⟨w3, hw3⟩ : ∃ wx, wx = w2.alloc (.cells #[.string sN, .string sL] 56) := ⟨_, rfl⟩
  have hB3 : Below w2.heap.size w2 w3 := by rw [hw3]; exact below1 _ _
  have K6 : Hid (Blk w3 w2.heap.size 56 [.string sN, .string sL]) := hide_ (by rw [hw3]; exact Blk.newA w2 _ _)
  have hB13 := below_to hB2 hB3
  have KP3 := hide_ (KP.out.later hB13)
  have KI3 := hide_ (KI.out.later hB13)
  have HB3 := hide_ (below_to HB1.out hB13)
  have HR3 := hide_ (hr.out.later HB3.out)
  clear hB2 hB3 hB13 HOf p0 q0 KP KI HB1
  go_upto_region 3 with fail
  rw [← hw3]
  clear hw3
  generalize hg6 : w2.heap.size = g6 at *
  clear hg6
  have HSA : Hid (∀ w', Below w3.heap.size w3 w' → w'.cell? ⟨w.heap.size, 0, none⟩ = some (.bool enc) ∧ w'.cell? ⟨w.heap.size, 1, none⟩ = some (.slice (some ⟨b, off, none⟩) C.length cc) ∧ w'.cell? ⟨w.heap.size, 2, none⟩ = some (.slice ae ne ce) ∧ w'.cell? ⟨w.heap.size + 1, 1, none⟩ = some (.int .i64 x.a) ∧ w'.cell? ⟨w.heap.size + 1, 2, none⟩ = some (.int .i64 x.b) ∧ w'.cell? ⟨w.heap.size + 1, 3, none⟩ = some (.int .i64 x.c) ∧ w'.cell? ⟨g6, 1, none⟩ = some (.string sL)) := hide_ (fun w' hB => ⟨(KP3.out.later hB).cell 0, (KP3.out.later hB).cell 1, (KP3.out.later hB).cell 2, (KI3.out.later hB).cell 1, (KI3.out.later hB).cell 2, (KI3.out.later hB).cell 3, (K6.out.later hB).cell 1⟩)
  go_cut [52] from 21 to 52 (fun c wc => ∃ (d : Bool) (wf : World), wf = wc ∧ c = .bool d ∧ Hid (d = !frmX enc C.length ne x) ∧ Hid (Below w3.heap.size w3 wf))
  case first =>
    cases o with
    | false =>
      have HD : Hid (true = !frmX enc C.length ne x) := hide_ (by unfold frmX; rw [HO.out]; rfl)
      have HSS := HSA
      clear HFr HN HL HO HSA
      --RA
      refine wp_region_last 31 (fun w' => w'.cell? ⟨w.heap.size, 0, none⟩ = some (.bool enc) ∧ w'.cell? ⟨w.heap.size, 1, none⟩ = some (.slice (some ⟨b, off, none⟩) C.length cc) ∧ w'.cell? ⟨w.heap.size, 2, none⟩ = some (.slice ae ne ce) ∧ w'.cell? ⟨w.heap.size + 1, 1, none⟩ = some (.int .i64 x.a) ∧ w'.cell? ⟨w.heap.size + 1, 2, none⟩ = some (.int .i64 x.b) ∧ w'.cell? ⟨w.heap.size + 1, 3, none⟩ = some (.int .i64 x.c) ∧ w'.cell? ⟨g6, 1, none⟩ = some (.string sL)) (by kernel_rfl) (HSS.out _ ((Below.refl w3.heap.size w3).drew)) (fun hHeld => ?_)
      refine wpAnyF_take [31, 22, 19, 12, 9, 2, 1] (by kernel_rfl) (i := 0) (v := ?vfa1) rfl (by kernel_rfl) (by kernel_rfl) (by kernel_rfl) (fun _ _ _ h => h) (Or.inl ⟨by kernel_rfl, ?hyfa1⟩) hHeld ?restfa1
      case hyfa1 => intro w' hSw; (try dsimp only at hSw); go_simp; try with_reducible rfl
      simp only [Act.put]
      refine wpAnyF_take [31, 22, 19, 12, 9, 2] (by kernel_rfl) (i := 1) (v := ?vfa2) rfl (by kernel_rfl) (by kernel_rfl) (by kernel_rfl) (fun _ _ _ h => h) (Or.inl ⟨by kernel_rfl, ?hyfa2⟩) hHeld ?restfa2
      case hyfa2 => intro w' hSw; (try dsimp only at hSw); go_simp; try with_reducible rfl
      simp only [Act.put]
      refine wpAnyF_take [31, 22, 19, 12, 9] (by kernel_rfl) (i := 2) (v := ?vfa3) rfl (by kernel_rfl) (by kernel_rfl) (by kernel_rfl) (fun _ _ _ h => h) (Or.inl ⟨by kernel_rfl, ?hyfa3⟩) hHeld ?restfa3
      case hyfa3 => intro w' hSw; (try dsimp only at hSw); go_simp; try with_reducible rfl
      simp only [Act.put]
      refine wpAnyF_take [31, 22, 19, 12, 9] (by kernel_rfl) (i := 3) (v := undef) rfl (by kernel_rfl) (by kernel_rfl) (by kernel_rfl) (fun _ _ _ h => h) (Or.inr ⟨by kernel_rfl, rfl⟩) hHeld ?_
      simp only [Act.put]
      refine wpAnyF_take [31, 22, 19, 12, 9, 6, 5] (by kernel_rfl) (i := 4) (v := undef) rfl (by kernel_rfl) (by kernel_rfl) (by kernel_rfl) (fun _ _ _ h => h) (Or.inr ⟨by kernel_rfl, rfl⟩) hHeld ?_
      simp only [Act.put]
      refine wpAnyF_take [31, 22, 19, 12, 9, 6] (by kernel_rfl) (i := 5) (v := undef) rfl (by kernel_rfl) (by kernel_rfl) (by kernel_rfl) (fun _ _ _ h => h) (Or.inr ⟨by kernel_rfl, rfl⟩) hHeld ?_
      simp only [Act.put]
      refine wpAnyF_take [31, 22, 19, 12, 9] (by kernel_rfl) (i := 6) (v := undef) rfl (by kernel_rfl) (by kernel_rfl) (by kernel_rfl) (fun _ _ _ h => h) (Or.inr ⟨by kernel_rfl, rfl⟩) hHeld ?_
      simp only [Act.put]
      refine wpAnyF_take [31, 22, 19, 12, 9, 8] (by kernel_rfl) (i := 7) (v := undef) rfl (by kernel_rfl) (by kernel_rfl) (by kernel_rfl) (fun _ _ _ h => h) (Or.inr ⟨by kernel_rfl, rfl⟩) hHeld ?_
      simp only [Act.put]
      refine wpAnyF_take [31, 22, 19, 12, 9] (by kernel_rfl) (i := 8) (v := undef) rfl (by kernel_rfl) (by kernel_rfl) (by kernel_rfl) (fun _ _ _ h => h) (Or.inr ⟨by kernel_rfl, rfl⟩) hHeld ?_
      simp only [Act.put]
      refine wpAnyF_take [31, 22, 19, 12] (by kernel_rfl) (i := 9) (v := undef) rfl (by kernel_rfl) (by kernel_rfl) (by kernel_rfl) (fun _ _ _ h => h) (Or.inr ⟨by kernel_rfl, rfl⟩) hHeld ?_
      simp only [Act.put]
      refine wpAnyF_take [31, 22, 19, 12, 11] (by kernel_rfl) (i := 10) (v := undef) rfl (by kernel_rfl) (by kernel_rfl) (by kernel_rfl) (fun _ _ _ h => h) (Or.inr ⟨by kernel_rfl, rfl⟩) hHeld ?_
      simp only [Act.put]
      refine wpAnyF_take [31, 22, 19, 12] (by kernel_rfl) (i := 11) (v := ?vfa4) rfl (by kernel_rfl) (by kernel_rfl) (by kernel_rfl) (fun _ _ _ h => h) (Or.inl ⟨by kernel_rfl, ?hyfa4⟩) hHeld ?restfa4
      case hyfa4 => intro w' hSw; (try dsimp only at hSw); go_simp; try with_reducible rfl
      simp only [Act.put]
      refine wpAnyF_take [31, 22, 19] (by kernel_rfl) (i := 12) (v := ?vfa5) rfl (by kernel_rfl) (by kernel_rfl) (by kernel_rfl) (fun _ _ _ h => h) (Or.inl ⟨by kernel_rfl, ?hyfa5⟩) hHeld ?restfa5
      case hyfa5 => intro w' hSw; (try dsimp only at hSw); go_simp; try with_reducible rfl
      simp only [Act.put]
      refine wpAnyF_take [31, 22, 19] (by kernel_rfl) (i := 13) (v := undef) rfl (by kernel_rfl) (by kernel_rfl) (by kernel_rfl) (fun _ _ _ h => h) (Or.inr ⟨by kernel_rfl, rfl⟩) hHeld ?_
      simp only [Act.put]
      refine wpAnyF_take [31, 22, 19, 16, 15] (by kernel_rfl) (i := 14) (v := undef) rfl (by kernel_rfl) (by kernel_rfl) (by kernel_rfl) (fun _ _ _ h => h) (Or.inr ⟨by kernel_rfl, rfl⟩) hHeld ?_
      simp only [Act.put]
      refine wpAnyF_take [31, 22, 19, 16] (by kernel_rfl) (i := 15) (v := undef) rfl (by kernel_rfl) (by kernel_rfl) (by kernel_rfl) (fun _ _ _ h => h) (Or.inr ⟨by kernel_rfl, rfl⟩) hHeld ?_
      simp only [Act.put]
      refine wpAnyF_take [31, 22, 19] (by kernel_rfl) (i := 16) (v := undef) rfl (by kernel_rfl) (by kernel_rfl) (by kernel_rfl) (fun _ _ _ h => h) (Or.inr ⟨by kernel_rfl, rfl⟩) hHeld ?_
      simp only [Act.put]
      refine wpAnyF_take [31, 22, 19, 18] (by kernel_rfl) (i := 17) (v := undef) rfl (by kernel_rfl) (by kernel_rfl) (by kernel_rfl) (fun _ _ _ h => h) (Or.inr ⟨by kernel_rfl, rfl⟩) hHeld ?_
      simp only [Act.put]
      refine wpAnyF_take [31, 22, 19] (by kernel_rfl) (i := 18) (v := undef) rfl (by kernel_rfl) (by kernel_rfl) (by kernel_rfl) (fun _ _ _ h => h) (Or.inr ⟨by kernel_rfl, rfl⟩) hHeld ?_
      simp only [Act.put]
      refine wpAnyF_take [31, 22] (by kernel_rfl) (i := 19) (v := undef) rfl (by kernel_rfl) (by kernel_rfl) (by kernel_rfl) (fun _ _ _ h => h) (Or.inr ⟨by kernel_rfl, rfl⟩) hHeld ?_
      simp only [Act.put]
      refine wpAnyF_take [31, 22, 21] (by kernel_rfl) (i := 20) (v := undef) rfl (by kernel_rfl) (by kernel_rfl) (by kernel_rfl) (fun _ _ _ h => h) (Or.inr ⟨by kernel_rfl, rfl⟩) hHeld ?_
      simp only [Act.put]
      refine wpAnyF_take [31, 22] (by kernel_rfl) (i := 21) (v := ?vfa6) rfl (by kernel_rfl) (by kernel_rfl) (by kernel_rfl) (fun _ _ _ h => h) (Or.inl ⟨by kernel_rfl, ?hyfa6⟩) hHeld ?restfa6
      case hyfa6 => intro w' hSw; (try dsimp only at hSw); go_simp; try with_reducible rfl
      simp only [Act.put]
      refine wpAnyF_take [31] (by kernel_rfl) (i := 22) (v := ?vfa7) rfl (by kernel_rfl) (by kernel_rfl) (by kernel_rfl) (fun _ _ _ h => h) (Or.inl ⟨by kernel_rfl, ?hyfa7⟩) hHeld ?restfa7
      case hyfa7 => intro w' hSw; (try dsimp only at hSw); go_simp; try with_reducible rfl
      simp only [Act.put]
      refine wpAnyF_take [31, 30, 29] (by kernel_rfl) (i := 23) (v := undef) rfl (by kernel_rfl) (by kernel_rfl) (by kernel_rfl) (fun _ _ _ h => h) (Or.inr ⟨by kernel_rfl, rfl⟩) hHeld ?_
      simp only [Act.put]
      refine wpAnyF_take [31, 30, 29, 26, 25] (by kernel_rfl) (i := 24) (v := undef) rfl (by kernel_rfl) (by kernel_rfl) (by kernel_rfl) (fun _ _ _ h => h) (Or.inr ⟨by kernel_rfl, rfl⟩) hHeld ?_
      simp only [Act.put]
      refine wpAnyF_take [31, 30, 29, 26] (by kernel_rfl) (i := 25) (v := undef) rfl (by kernel_rfl) (by kernel_rfl) (by kernel_rfl) (fun _ _ _ h => h) (Or.inr ⟨by kernel_rfl, rfl⟩) hHeld ?_
      simp only [Act.put]
      refine wpAnyF_take [31, 30, 29] (by kernel_rfl) (i := 26) (v := undef) rfl (by kernel_rfl) (by kernel_rfl) (by kernel_rfl) (fun _ _ _ h => h) (Or.inr ⟨by kernel_rfl, rfl⟩) hHeld ?_
      simp only [Act.put]
      refine wpAnyF_take [31, 30, 29, 28] (by kernel_rfl) (i := 27) (v := undef) rfl (by kernel_rfl) (by kernel_rfl) (by kernel_rfl) (fun _ _ _ h => h) (Or.inr ⟨by kernel_rfl, rfl⟩) hHeld ?_
      simp only [Act.put]
      refine wpAnyF_take [31, 30, 29] (by kernel_rfl) (i := 28) (v := undef) rfl (by kernel_rfl) (by kernel_rfl) (by kernel_rfl) (fun _ _ _ h => h) (Or.inr ⟨by kernel_rfl, rfl⟩) hHeld ?_
      simp only [Act.put]
      refine wpAnyF_take [31, 30] (by kernel_rfl) (i := 29) (v := undef) rfl (by kernel_rfl) (by kernel_rfl) (by kernel_rfl) (fun _ _ _ h => h) (Or.inr ⟨by kernel_rfl, rfl⟩) hHeld ?_
      simp only [Act.put]
      refine wpAnyF_take [31] (by kernel_rfl) (i := 30) (v := undef) rfl (by kernel_rfl) (by kernel_rfl) (by kernel_rfl) (fun _ _ _ h => h) (Or.inr ⟨by kernel_rfl, rfl⟩) hHeld ?_
      simp only [Act.put]
      refine wpAnyF_ready (rs := [31]) (by kernel_rfl) (by simp) ?_
      refine AllReadyF.last rfl (fun K hK => ?_)
      go_simp
      refine hK.out _ _ ?_
      clear hK K
      refine wpAnyF_done (by kernel_rfl) ?_ _
      go_wp2_with fail
      go_meet
      case rel => exact ⟨true, _, rfl, rfl, hide_ (HD.out), hide_ ((Below.refl w3.heap.size w3).drew)⟩
      --/RA
    | true =>
      have h3 := ofI_kat HO.out (j := 0) (by omega)
      obtain ⟨l0, l1, l2, hl⟩ := three h3.1
      have hsl : sL = ⟨#[l0, l1, l2]⟩ := by rw [← HL.out]; unfold ofL; rw [if_pos HO.out, hl]
      subst hsl
      have k0 := ofI_kat HO.out (j := 0) (by omega)
      have k1 := ofI_kat HO.out (j := 1) (by omega)
      have k2 := ofI_kat HO.out (j := 2) (by omega)
      rw [hl] at k0 k1 k2
      simp only [List.getD_cons_zero, List.getD_cons_succ, kat] at k0 k1 k2
      have HF := hide_ (fun (c : UInt8) (n : Int) (hc : lts.contains c = true) w' => fits_any enc (some ⟨b, off, none⟩) ae C.length cc ne ce c n w' hCl hne hc)
      have HF0' := fun w' => HF.out l0 x.a k0.2.1 w'
      have HF1' := fun w' => HF.out l1 x.b k1.2.1 w'
      have HF2' := fun w' => HF.out l2 x.c k2.2.1 w'
      rw [k0.2.2] at HF0'
      rw [k1.2.2] at HF1'
      rw [k2.2.2] at HF2'
      have hfx : frmX enc C.length ne x = (alw C.length ne (kin x.op).1 x.a && (alw C.length ne (kin x.op).2.1 x.b && alw C.length ne (kin x.op).2.2 x.c)) := by unfold frmX; rw [HO.out, Bool.true_and]
      generalize alw C.length ne (kin x.op).1 x.a = r0 at *
      generalize alw C.length ne (kin x.op).2.1 x.b = r1 at *
      generalize alw C.length ne (kin x.op).2.2 x.c = r2 at *
      have HF0 := hide_ HF0'
      have HF1 := hide_ HF1'
      have HF2 := hide_ HF2'
      have HFX := hide_ hfx
      have ix0 := ix_s0 l0 l1 l2
      have ix1 := ix_s1 l0 l1 l2
      have ix2 := ix_s2 l0 l1 l2
      have HSS := HSA
      clear HF0' HF1' HF2' hfx k0 k1 k2 h3 hl HF HFr HN HL HO HSA
      cases r0 with
      | false =>
        have HD : Hid (true = !frmX enc C.length ne x) := hide_ (by rw [HFX.out]; rfl)
        clear HFX
        --RB
        refine wp_region_last 31 (fun w' => w'.cell? ⟨w.heap.size, 0, none⟩ = some (.bool enc) ∧ w'.cell? ⟨w.heap.size, 1, none⟩ = some (.slice (some ⟨b, off, none⟩) C.length cc) ∧ w'.cell? ⟨w.heap.size, 2, none⟩ = some (.slice ae ne ce) ∧ w'.cell? ⟨w.heap.size + 1, 1, none⟩ = some (.int .i64 x.a) ∧ w'.cell? ⟨w.heap.size + 1, 2, none⟩ = some (.int .i64 x.b) ∧ w'.cell? ⟨w.heap.size + 1, 3, none⟩ = some (.int .i64 x.c) ∧ w'.cell? ⟨g6, 1, none⟩ = some (.string ⟨#[l0, l1, l2]⟩)) (by kernel_rfl) (HSS.out _ ((Below.refl w3.heap.size w3).drew)) (fun hHeld => ?_)
        refine wpAnyF_take [31, 22, 19, 12, 9, 2, 1] (by kernel_rfl) (i := 0) (v := ?vfb1) rfl (by kernel_rfl) (by kernel_rfl) (by kernel_rfl) (fun _ _ _ h => h) (Or.inl ⟨by kernel_rfl, ?hyfb1⟩) hHeld ?restfb1
        case hyfb1 => intro w' hSw; (try dsimp only at hSw); go_simp; try with_reducible rfl
        simp only [Act.put]
        refine wpAnyF_take [31, 22, 19, 12, 9, 2] (by kernel_rfl) (i := 1) (v := ?vfb2) rfl (by kernel_rfl) (by kernel_rfl) (by kernel_rfl) (fun _ _ _ h => h) (Or.inl ⟨by kernel_rfl, ?hyfb2⟩) hHeld ?restfb2
        case hyfb2 => intro w' hSw; (try dsimp only at hSw); go_simp; try with_reducible rfl
        simp only [Act.put]
        refine wpAnyF_take [31, 22, 19, 12, 9] (by kernel_rfl) (i := 2) (v := ?vfb3) rfl (by kernel_rfl) (by kernel_rfl) (by kernel_rfl) (fun _ _ _ h => h) (Or.inl ⟨by kernel_rfl, ?hyfb3⟩) hHeld ?restfb3
        case hyfb3 => intro w' hSw; (try dsimp only at hSw); go_simp; try with_reducible rfl
        simp only [Act.put]
        refine wpAnyF_take [31, 22, 19, 12, 9] (by kernel_rfl) (i := 3) (v := ?vfb4) rfl (by kernel_rfl) (by kernel_rfl) (by kernel_rfl) (fun _ _ _ h => h) (Or.inl ⟨by kernel_rfl, ?hyfb4⟩) hHeld ?restfb4
        case hyfb4 => intro w' hSw; (try dsimp only at hSw); go_simp; try with_reducible rfl
        simp only [Act.put]
        refine wpAnyF_take [31, 22, 19, 12, 9, 6, 5] (by kernel_rfl) (i := 4) (v := ?vfb5) rfl (by kernel_rfl) (by kernel_rfl) (by kernel_rfl) (fun _ _ _ h => h) (Or.inl ⟨by kernel_rfl, ?hyfb5⟩) hHeld ?restfb5
        case hyfb5 => intro w' hSw; (try dsimp only at hSw); go_simp; try with_reducible rfl
        simp only [Act.put]
        refine wpAnyF_take [31, 22, 19, 12, 9, 6] (by kernel_rfl) (i := 5) (v := ?vfb6) rfl (by kernel_rfl) (by kernel_rfl) (by kernel_rfl) (fun _ _ _ h => h) (Or.inl ⟨by kernel_rfl, ?hyfb6⟩) hHeld ?restfb6
        case hyfb6 => intro w' hSw; (try dsimp only at hSw); go_simp; try with_reducible rfl
        simp only [Act.put]
        refine wpAnyF_take [31, 22, 19, 12, 9] (by kernel_rfl) (i := 6) (v := ?vfb7) rfl (by kernel_rfl) (by kernel_rfl) (by kernel_rfl) (fun _ _ _ h => h) (Or.inl ⟨by kernel_rfl, ?hyfb7⟩) hHeld ?restfb7
        case hyfb7 => intro w' hSw; (try dsimp only at hSw); go_simp; try with_reducible rfl
        simp only [Act.put]
        refine wpAnyF_take [31, 22, 19, 12, 9, 8] (by kernel_rfl) (i := 7) (v := ?vfb8) rfl (by kernel_rfl) (by kernel_rfl) (by kernel_rfl) (fun _ _ _ h => h) (Or.inl ⟨by kernel_rfl, ?hyfb8⟩) hHeld ?restfb8
        case hyfb8 => intro w' hSw; (try dsimp only at hSw); go_simp; try with_reducible rfl
        simp only [Act.put]
        refine wpAnyF_take [31, 22, 19, 12, 9] (by kernel_rfl) (i := 8) (v := ?vfb9) rfl (by kernel_rfl) (by kernel_rfl) (by kernel_rfl) (fun _ _ _ h => h) (Or.inl ⟨by kernel_rfl, ?hyfb9⟩) hHeld ?restfb9
        case hyfb9 => intro w' hSw; (try dsimp only at hSw); go_simp; try with_reducible rfl
        simp only [Act.put]
        refine wpAnyF_ready (rs := [9]) (by kernel_rfl) (by simp) ?_
        refine AllReadyF.cons rfl (fun K hK => ?_) AllReadyF.nil
        go_simp
        refine (HF0.out _).mono ?_
        rintro e wC0 ⟨rfl, hbC⟩
        dsimp only
        have HBC0 := hide_ (below_to ((Below.refl w3.heap.size w3).drew) hbC)
        clear hbC
        refine hK.out _ _ (HSS.out _ HBC0.out) (fun hHeld => ?_)
        clear hK K
        refine wpAnyF_take [31, 22, 19, 12, 11] (by kernel_rfl) (i := 10) (v := ?vfb10) rfl (by kernel_rfl) (by kernel_rfl) (by kernel_rfl) (fun _ _ _ h => h) (Or.inl ⟨by kernel_rfl, ?hyfb10⟩) hHeld ?restfb10
        case hyfb10 => intro w' hSw; (try dsimp only at hSw); go_simp; try with_reducible rfl
        simp only [Act.put]
        refine wpAnyF_take [31, 22, 19, 12] (by kernel_rfl) (i := 11) (v := ?vfb11) rfl (by kernel_rfl) (by kernel_rfl) (by kernel_rfl) (fun _ _ _ h => h) (Or.inl ⟨by kernel_rfl, ?hyfb11⟩) hHeld ?restfb11
        case hyfb11 => intro w' hSw; (try dsimp only at hSw); go_simp; try with_reducible rfl
        simp only [Act.put]
        refine wpAnyF_take [31, 22, 19] (by kernel_rfl) (i := 12) (v := ?vfb12) rfl (by kernel_rfl) (by kernel_rfl) (by kernel_rfl) (fun _ _ _ h => h) (Or.inl ⟨by kernel_rfl, ?hyfb12⟩) hHeld ?restfb12
        case hyfb12 => intro w' hSw; (try dsimp only at hSw); go_simp; try with_reducible rfl
        simp only [Act.put]
        refine wpAnyF_take [31, 22, 19] (by kernel_rfl) (i := 13) (v := undef) rfl (by kernel_rfl) (by kernel_rfl) (by kernel_rfl) (fun _ _ _ h => h) (Or.inr ⟨by kernel_rfl, rfl⟩) hHeld ?_
        simp only [Act.put]
        refine wpAnyF_take [31, 22, 19, 16, 15] (by kernel_rfl) (i := 14) (v := undef) rfl (by kernel_rfl) (by kernel_rfl) (by kernel_rfl) (fun _ _ _ h => h) (Or.inr ⟨by kernel_rfl, rfl⟩) hHeld ?_
        simp only [Act.put]
        refine wpAnyF_take [31, 22, 19, 16] (by kernel_rfl) (i := 15) (v := undef) rfl (by kernel_rfl) (by kernel_rfl) (by kernel_rfl) (fun _ _ _ h => h) (Or.inr ⟨by kernel_rfl, rfl⟩) hHeld ?_
        simp only [Act.put]
        refine wpAnyF_take [31, 22, 19] (by kernel_rfl) (i := 16) (v := undef) rfl (by kernel_rfl) (by kernel_rfl) (by kernel_rfl) (fun _ _ _ h => h) (Or.inr ⟨by kernel_rfl, rfl⟩) hHeld ?_
        simp only [Act.put]
        refine wpAnyF_take [31, 22, 19, 18] (by kernel_rfl) (i := 17) (v := undef) rfl (by kernel_rfl) (by kernel_rfl) (by kernel_rfl) (fun _ _ _ h => h) (Or.inr ⟨by kernel_rfl, rfl⟩) hHeld ?_
        simp only [Act.put]
        refine wpAnyF_take [31, 22, 19] (by kernel_rfl) (i := 18) (v := undef) rfl (by kernel_rfl) (by kernel_rfl) (by kernel_rfl) (fun _ _ _ h => h) (Or.inr ⟨by kernel_rfl, rfl⟩) hHeld ?_
        simp only [Act.put]
        refine wpAnyF_take [31, 22] (by kernel_rfl) (i := 19) (v := undef) rfl (by kernel_rfl) (by kernel_rfl) (by kernel_rfl) (fun _ _ _ h => h) (Or.inr ⟨by kernel_rfl, rfl⟩) hHeld ?_
        simp only [Act.put]
        refine wpAnyF_take [31, 22, 21] (by kernel_rfl) (i := 20) (v := undef) rfl (by kernel_rfl) (by kernel_rfl) (by kernel_rfl) (fun _ _ _ h => h) (Or.inr ⟨by kernel_rfl, rfl⟩) hHeld ?_
        simp only [Act.put]
        refine wpAnyF_take [31, 22] (by kernel_rfl) (i := 21) (v := ?vfb13) rfl (by kernel_rfl) (by kernel_rfl) (by kernel_rfl) (fun _ _ _ h => h) (Or.inl ⟨by kernel_rfl, ?hyfb13⟩) hHeld ?restfb13
        case hyfb13 => intro w' hSw; (try dsimp only at hSw); go_simp; try with_reducible rfl
        simp only [Act.put]
        refine wpAnyF_take [31] (by kernel_rfl) (i := 22) (v := ?vfb14) rfl (by kernel_rfl) (by kernel_rfl) (by kernel_rfl) (fun _ _ _ h => h) (Or.inl ⟨by kernel_rfl, ?hyfb14⟩) hHeld ?restfb14
        case hyfb14 => intro w' hSw; (try dsimp only at hSw); go_simp; try with_reducible rfl
        simp only [Act.put]
        refine wpAnyF_take [31, 30, 29] (by kernel_rfl) (i := 23) (v := undef) rfl (by kernel_rfl) (by kernel_rfl) (by kernel_rfl) (fun _ _ _ h => h) (Or.inr ⟨by kernel_rfl, rfl⟩) hHeld ?_
        simp only [Act.put]
        refine wpAnyF_take [31, 30, 29, 26, 25] (by kernel_rfl) (i := 24) (v := undef) rfl (by kernel_rfl) (by kernel_rfl) (by kernel_rfl) (fun _ _ _ h => h) (Or.inr ⟨by kernel_rfl, rfl⟩) hHeld ?_
        simp only [Act.put]
        refine wpAnyF_take [31, 30, 29, 26] (by kernel_rfl) (i := 25) (v := undef) rfl (by kernel_rfl) (by kernel_rfl) (by kernel_rfl) (fun _ _ _ h => h) (Or.inr ⟨by kernel_rfl, rfl⟩) hHeld ?_
        simp only [Act.put]
        refine wpAnyF_take [31, 30, 29] (by kernel_rfl) (i := 26) (v := undef) rfl (by kernel_rfl) (by kernel_rfl) (by kernel_rfl) (fun _ _ _ h => h) (Or.inr ⟨by kernel_rfl, rfl⟩) hHeld ?_
        simp only [Act.put]
        refine wpAnyF_take [31, 30, 29, 28] (by kernel_rfl) (i := 27) (v := undef) rfl (by kernel_rfl) (by kernel_rfl) (by kernel_rfl) (fun _ _ _ h => h) (Or.inr ⟨by kernel_rfl, rfl⟩) hHeld ?_
        simp only [Act.put]
        refine wpAnyF_take [31, 30, 29] (by kernel_rfl) (i := 28) (v := undef) rfl (by kernel_rfl) (by kernel_rfl) (by kernel_rfl) (fun _ _ _ h => h) (Or.inr ⟨by kernel_rfl, rfl⟩) hHeld ?_
        simp only [Act.put]
        refine wpAnyF_take [31, 30] (by kernel_rfl) (i := 29) (v := undef) rfl (by kernel_rfl) (by kernel_rfl) (by kernel_rfl) (fun _ _ _ h => h) (Or.inr ⟨by kernel_rfl, rfl⟩) hHeld ?_
        simp only [Act.put]
        refine wpAnyF_take [31] (by kernel_rfl) (i := 30) (v := undef) rfl (by kernel_rfl) (by kernel_rfl) (by kernel_rfl) (fun _ _ _ h => h) (Or.inr ⟨by kernel_rfl, rfl⟩) hHeld ?_
        simp only [Act.put]
        refine wpAnyF_ready (rs := [31]) (by kernel_rfl) (by simp) ?_
        refine AllReadyF.last rfl (fun K hK => ?_)
        go_simp
        refine hK.out _ _ ?_
        clear hK K
        refine wpAnyF_done (by kernel_rfl) ?_ _
        go_wp2_with fail
        go_meet
        case rel => exact ⟨true, _, rfl, rfl, hide_ (HD.out), hide_ (HBC0.out)⟩
        --/RB
      | true =>
      cases r1 with
      | false =>
        have HD : Hid (true = !frmX enc C.length ne x) := hide_ (by rw [HFX.out]; rfl)
        clear HFX
        --RC
        refine wp_region_last 31 (fun w' => w'.cell? ⟨w.heap.size, 0, none⟩ = some (.bool enc) ∧ w'.cell? ⟨w.heap.size, 1, none⟩ = some (.slice (some ⟨b, off, none⟩) C.length cc) ∧ w'.cell? ⟨w.heap.size, 2, none⟩ = some (.slice ae ne ce) ∧ w'.cell? ⟨w.heap.size + 1, 1, none⟩ = some (.int .i64 x.a) ∧ w'.cell? ⟨w.heap.size + 1, 2, none⟩ = some (.int .i64 x.b) ∧ w'.cell? ⟨w.heap.size + 1, 3, none⟩ = some (.int .i64 x.c) ∧ w'.cell? ⟨g6, 1, none⟩ = some (.string ⟨#[l0, l1, l2]⟩)) (by kernel_rfl) (HSS.out _ ((Below.refl w3.heap.size w3).drew)) (fun hHeld => ?_)
        refine wpAnyF_take [31, 22, 19, 12, 9, 2, 1] (by kernel_rfl) (i := 0) (v := ?vfc1) rfl (by kernel_rfl) (by kernel_rfl) (by kernel_rfl) (fun _ _ _ h => h) (Or.inl ⟨by kernel_rfl, ?hyfc1⟩) hHeld ?restfc1
        case hyfc1 => intro w' hSw; (try dsimp only at hSw); go_simp; try with_reducible rfl
        simp only [Act.put]
        refine wpAnyF_take [31, 22, 19, 12, 9, 2] (by kernel_rfl) (i := 1) (v := ?vfc2) rfl (by kernel_rfl) (by kernel_rfl) (by kernel_rfl) (fun _ _ _ h => h) (Or.inl ⟨by kernel_rfl, ?hyfc2⟩) hHeld ?restfc2
        case hyfc2 => intro w' hSw; (try dsimp only at hSw); go_simp; try with_reducible rfl
        simp only [Act.put]
        refine wpAnyF_take [31, 22, 19, 12, 9] (by kernel_rfl) (i := 2) (v := ?vfc3) rfl (by kernel_rfl) (by kernel_rfl) (by kernel_rfl) (fun _ _ _ h => h) (Or.inl ⟨by kernel_rfl, ?hyfc3⟩) hHeld ?restfc3
        case hyfc3 => intro w' hSw; (try dsimp only at hSw); go_simp; try with_reducible rfl
        simp only [Act.put]
        refine wpAnyF_take [31, 22, 19, 12, 9] (by kernel_rfl) (i := 3) (v := ?vfc4) rfl (by kernel_rfl) (by kernel_rfl) (by kernel_rfl) (fun _ _ _ h => h) (Or.inl ⟨by kernel_rfl, ?hyfc4⟩) hHeld ?restfc4
        case hyfc4 => intro w' hSw; (try dsimp only at hSw); go_simp; try with_reducible rfl
        simp only [Act.put]
        refine wpAnyF_take [31, 22, 19, 12, 9, 6, 5] (by kernel_rfl) (i := 4) (v := ?vfc5) rfl (by kernel_rfl) (by kernel_rfl) (by kernel_rfl) (fun _ _ _ h => h) (Or.inl ⟨by kernel_rfl, ?hyfc5⟩) hHeld ?restfc5
        case hyfc5 => intro w' hSw; (try dsimp only at hSw); go_simp; try with_reducible rfl
        simp only [Act.put]
        refine wpAnyF_take [31, 22, 19, 12, 9, 6] (by kernel_rfl) (i := 5) (v := ?vfc6) rfl (by kernel_rfl) (by kernel_rfl) (by kernel_rfl) (fun _ _ _ h => h) (Or.inl ⟨by kernel_rfl, ?hyfc6⟩) hHeld ?restfc6
        case hyfc6 => intro w' hSw; (try dsimp only at hSw); go_simp; try with_reducible rfl
        simp only [Act.put]
        refine wpAnyF_take [31, 22, 19, 12, 9] (by kernel_rfl) (i := 6) (v := ?vfc7) rfl (by kernel_rfl) (by kernel_rfl) (by kernel_rfl) (fun _ _ _ h => h) (Or.inl ⟨by kernel_rfl, ?hyfc7⟩) hHeld ?restfc7
        case hyfc7 => intro w' hSw; (try dsimp only at hSw); go_simp; try with_reducible rfl
        simp only [Act.put]
        refine wpAnyF_take [31, 22, 19, 12, 9, 8] (by kernel_rfl) (i := 7) (v := ?vfc8) rfl (by kernel_rfl) (by kernel_rfl) (by kernel_rfl) (fun _ _ _ h => h) (Or.inl ⟨by kernel_rfl, ?hyfc8⟩) hHeld ?restfc8
        case hyfc8 => intro w' hSw; (try dsimp only at hSw); go_simp; try with_reducible rfl
        simp only [Act.put]
        refine wpAnyF_take [31, 22, 19, 12, 9] (by kernel_rfl) (i := 8) (v := ?vfc9) rfl (by kernel_rfl) (by kernel_rfl) (by kernel_rfl) (fun _ _ _ h => h) (Or.inl ⟨by kernel_rfl, ?hyfc9⟩) hHeld ?restfc9
        case hyfc9 => intro w' hSw; (try dsimp only at hSw); go_simp; try with_reducible rfl
        simp only [Act.put]
        refine wpAnyF_ready (rs := [9]) (by kernel_rfl) (by simp) ?_
        refine AllReadyF.cons rfl (fun K hK => ?_) AllReadyF.nil
        go_simp
        refine (HF0.out _).mono ?_
        rintro e wC0 ⟨rfl, hbC⟩
        dsimp only
        have HBC0 := hide_ (below_to ((Below.refl w3.heap.size w3).drew) hbC)
        clear hbC
        refine hK.out _ _ (HSS.out _ HBC0.out) (fun hHeld => ?_)
        clear hK K
        refine wpAnyF_take [31, 22, 19, 12, 11] (by kernel_rfl) (i := 10) (v := ?vfc10) rfl (by kernel_rfl) (by kernel_rfl) (by kernel_rfl) (fun _ _ _ h => h) (Or.inl ⟨by kernel_rfl, ?hyfc10⟩) hHeld ?restfc10
        case hyfc10 => intro w' hSw; (try dsimp only at hSw); go_simp; try with_reducible rfl
        simp only [Act.put]
        refine wpAnyF_take [31, 22, 19, 12] (by kernel_rfl) (i := 11) (v := ?vfc11) rfl (by kernel_rfl) (by kernel_rfl) (by kernel_rfl) (fun _ _ _ h => h) (Or.inl ⟨by kernel_rfl, ?hyfc11⟩) hHeld ?restfc11
        case hyfc11 => intro w' hSw; (try dsimp only at hSw); go_simp; try with_reducible rfl
        simp only [Act.put]
        refine wpAnyF_take [31, 22, 19] (by kernel_rfl) (i := 12) (v := ?vfc12) rfl (by kernel_rfl) (by kernel_rfl) (by kernel_rfl) (fun _ _ _ h => h) (Or.inl ⟨by kernel_rfl, ?hyfc12⟩) hHeld ?restfc12
        case hyfc12 => intro w' hSw; (try dsimp only at hSw); go_simp; try with_reducible rfl
        simp only [Act.put]
        refine wpAnyF_take [31, 22, 19] (by kernel_rfl) (i := 13) (v := ?vfc13) rfl (by kernel_rfl) (by kernel_rfl) (by kernel_rfl) (fun _ _ _ h => h) (Or.inl ⟨by kernel_rfl, ?hyfc13⟩) hHeld ?restfc13
        case hyfc13 => intro w' hSw; (try dsimp only at hSw); go_simp; try with_reducible rfl
        simp only [Act.put]
        refine wpAnyF_take [31, 22, 19, 16, 15] (by kernel_rfl) (i := 14) (v := ?vfc14) rfl (by kernel_rfl) (by kernel_rfl) (by kernel_rfl) (fun _ _ _ h => h) (Or.inl ⟨by kernel_rfl, ?hyfc14⟩) hHeld ?restfc14
        case hyfc14 => intro w' hSw; (try dsimp only at hSw); go_simp; try with_reducible rfl
        simp only [Act.put]
        refine wpAnyF_take [31, 22, 19, 16] (by kernel_rfl) (i := 15) (v := ?vfc15) rfl (by kernel_rfl) (by kernel_rfl) (by kernel_rfl) (fun _ _ _ h => h) (Or.inl ⟨by kernel_rfl, ?hyfc15⟩) hHeld ?restfc15
        case hyfc15 => intro w' hSw; (try dsimp only at hSw); go_simp; try with_reducible rfl
        simp only [Act.put]
        refine wpAnyF_take [31, 22, 19] (by kernel_rfl) (i := 16) (v := ?vfc16) rfl (by kernel_rfl) (by kernel_rfl) (by kernel_rfl) (fun _ _ _ h => h) (Or.inl ⟨by kernel_rfl, ?hyfc16⟩) hHeld ?restfc16
        case hyfc16 => intro w' hSw; (try dsimp only at hSw); go_simp; try with_reducible rfl
        simp only [Act.put]
        refine wpAnyF_take [31, 22, 19, 18] (by kernel_rfl) (i := 17) (v := ?vfc17) rfl (by kernel_rfl) (by kernel_rfl) (by kernel_rfl) (fun _ _ _ h => h) (Or.inl ⟨by kernel_rfl, ?hyfc17⟩) hHeld ?restfc17
        case hyfc17 => intro w' hSw; (try dsimp only at hSw); go_simp; try with_reducible rfl
        simp only [Act.put]
        refine wpAnyF_take [31, 22, 19] (by kernel_rfl) (i := 18) (v := ?vfc18) rfl (by kernel_rfl) (by kernel_rfl) (by kernel_rfl) (fun _ _ _ h => h) (Or.inl ⟨by kernel_rfl, ?hyfc18⟩) hHeld ?restfc18
        case hyfc18 => intro w' hSw; (try dsimp only at hSw); go_simp; try with_reducible rfl
        simp only [Act.put]
        refine wpAnyF_ready (rs := [19]) (by kernel_rfl) (by simp) ?_
        refine AllReadyF.cons rfl (fun K hK => ?_) AllReadyF.nil
        go_simp
        refine (HF1.out _).mono ?_
        rintro e wC1 ⟨rfl, hbC⟩
        dsimp only
        have HBC1 := hide_ (below_to (HBC0.out) hbC)
        clear hbC
        refine hK.out _ _ (HSS.out _ HBC1.out) (fun hHeld => ?_)
        clear hK K
        refine wpAnyF_take [31, 22, 21] (by kernel_rfl) (i := 20) (v := ?vfc19) rfl (by kernel_rfl) (by kernel_rfl) (by kernel_rfl) (fun _ _ _ h => h) (Or.inl ⟨by kernel_rfl, ?hyfc19⟩) hHeld ?restfc19
        case hyfc19 => intro w' hSw; (try dsimp only at hSw); go_simp; try with_reducible rfl
        simp only [Act.put]
        refine wpAnyF_take [31, 22] (by kernel_rfl) (i := 21) (v := ?vfc20) rfl (by kernel_rfl) (by kernel_rfl) (by kernel_rfl) (fun _ _ _ h => h) (Or.inl ⟨by kernel_rfl, ?hyfc20⟩) hHeld ?restfc20
        case hyfc20 => intro w' hSw; (try dsimp only at hSw); go_simp; try with_reducible rfl
        simp only [Act.put]
        refine wpAnyF_take [31] (by kernel_rfl) (i := 22) (v := ?vfc21) rfl (by kernel_rfl) (by kernel_rfl) (by kernel_rfl) (fun _ _ _ h => h) (Or.inl ⟨by kernel_rfl, ?hyfc21⟩) hHeld ?restfc21
        case hyfc21 => intro w' hSw; (try dsimp only at hSw); go_simp; try with_reducible rfl
        simp only [Act.put]
        refine wpAnyF_take [31, 30, 29] (by kernel_rfl) (i := 23) (v := undef) rfl (by kernel_rfl) (by kernel_rfl) (by kernel_rfl) (fun _ _ _ h => h) (Or.inr ⟨by kernel_rfl, rfl⟩) hHeld ?_
        simp only [Act.put]
        refine wpAnyF_take [31, 30, 29, 26, 25] (by kernel_rfl) (i := 24) (v := undef) rfl (by kernel_rfl) (by kernel_rfl) (by kernel_rfl) (fun _ _ _ h => h) (Or.inr ⟨by kernel_rfl, rfl⟩) hHeld ?_
        simp only [Act.put]
        refine wpAnyF_take [31, 30, 29, 26] (by kernel_rfl) (i := 25) (v := undef) rfl (by kernel_rfl) (by kernel_rfl) (by kernel_rfl) (fun _ _ _ h => h) (Or.inr ⟨by kernel_rfl, rfl⟩) hHeld ?_
        simp only [Act.put]
        refine wpAnyF_take [31, 30, 29] (by kernel_rfl) (i := 26) (v := undef) rfl (by kernel_rfl) (by kernel_rfl) (by kernel_rfl) (fun _ _ _ h => h) (Or.inr ⟨by kernel_rfl, rfl⟩) hHeld ?_
        simp only [Act.put]
        refine wpAnyF_take [31, 30, 29, 28] (by kernel_rfl) (i := 27) (v := undef) rfl (by kernel_rfl) (by kernel_rfl) (by kernel_rfl) (fun _ _ _ h => h) (Or.inr ⟨by kernel_rfl, rfl⟩) hHeld ?_
        simp only [Act.put]
        refine wpAnyF_take [31, 30, 29] (by kernel_rfl) (i := 28) (v := undef) rfl (by kernel_rfl) (by kernel_rfl) (by kernel_rfl) (fun _ _ _ h => h) (Or.inr ⟨by kernel_rfl, rfl⟩) hHeld ?_
        simp only [Act.put]
        refine wpAnyF_take [31, 30] (by kernel_rfl) (i := 29) (v := undef) rfl (by kernel_rfl) (by kernel_rfl) (by kernel_rfl) (fun _ _ _ h => h) (Or.inr ⟨by kernel_rfl, rfl⟩) hHeld ?_
        simp only [Act.put]
        refine wpAnyF_take [31] (by kernel_rfl) (i := 30) (v := undef) rfl (by kernel_rfl) (by kernel_rfl) (by kernel_rfl) (fun _ _ _ h => h) (Or.inr ⟨by kernel_rfl, rfl⟩) hHeld ?_
        simp only [Act.put]
        refine wpAnyF_ready (rs := [31]) (by kernel_rfl) (by simp) ?_
        refine AllReadyF.last rfl (fun K hK => ?_)
        go_simp
        refine hK.out _ _ ?_
        clear hK K
        refine wpAnyF_done (by kernel_rfl) ?_ _
        go_wp2_with fail
        go_meet
        case rel => exact ⟨true, _, rfl, rfl, hide_ (HD.out), hide_ (HBC1.out)⟩
        --/RC
      | true =>
      cases r2 with
      | false =>
        have HD : Hid (true = !frmX enc C.length ne x) := hide_ (by rw [HFX.out]; rfl)
        clear HFX
        --RD
        refine wp_region_last 31 (fun w' => w'.cell? ⟨w.heap.size, 0, none⟩ = some (.bool enc) ∧ w'.cell? ⟨w.heap.size, 1, none⟩ = some (.slice (some ⟨b, off, none⟩) C.length cc) ∧ w'.cell? ⟨w.heap.size, 2, none⟩ = some (.slice ae ne ce) ∧ w'.cell? ⟨w.heap.size + 1, 1, none⟩ = some (.int .i64 x.a) ∧ w'.cell? ⟨w.heap.size + 1, 2, none⟩ = some (.int .i64 x.b) ∧ w'.cell? ⟨w.heap.size + 1, 3, none⟩ = some (.int .i64 x.c) ∧ w'.cell? ⟨g6, 1, none⟩ = some (.string ⟨#[l0, l1, l2]⟩)) (by kernel_rfl) (HSS.out _ ((Below.refl w3.heap.size w3).drew)) (fun hHeld => ?_)
        refine wpAnyF_take [31, 22, 19, 12, 9, 2, 1] (by kernel_rfl) (i := 0) (v := ?vfd1) rfl (by kernel_rfl) (by kernel_rfl) (by kernel_rfl) (fun _ _ _ h => h) (Or.inl ⟨by kernel_rfl, ?hyfd1⟩) hHeld ?restfd1
        case hyfd1 => intro w' hSw; (try dsimp only at hSw); go_simp; try with_reducible rfl
        simp only [Act.put]
        refine wpAnyF_take [31, 22, 19, 12, 9, 2] (by kernel_rfl) (i := 1) (v := ?vfd2) rfl (by kernel_rfl) (by kernel_rfl) (by kernel_rfl) (fun _ _ _ h => h) (Or.inl ⟨by kernel_rfl, ?hyfd2⟩) hHeld ?restfd2
        case hyfd2 => intro w' hSw; (try dsimp only at hSw); go_simp; try with_reducible rfl
        simp only [Act.put]
        refine wpAnyF_take [31, 22, 19, 12, 9] (by kernel_rfl) (i := 2) (v := ?vfd3) rfl (by kernel_rfl) (by kernel_rfl) (by kernel_rfl) (fun _ _ _ h => h) (Or.inl ⟨by kernel_rfl, ?hyfd3⟩) hHeld ?restfd3
        case hyfd3 => intro w' hSw; (try dsimp only at hSw); go_simp; try with_reducible rfl
        simp only [Act.put]
        refine wpAnyF_take [31, 22, 19, 12, 9] (by kernel_rfl) (i := 3) (v := ?vfd4) rfl (by kernel_rfl) (by kernel_rfl) (by kernel_rfl) (fun _ _ _ h => h) (Or.inl ⟨by kernel_rfl, ?hyfd4⟩) hHeld ?restfd4
        case hyfd4 => intro w' hSw; (try dsimp only at hSw); go_simp; try with_reducible rfl
        simp only [Act.put]
        refine wpAnyF_take [31, 22, 19, 12, 9, 6, 5] (by kernel_rfl) (i := 4) (v := ?vfd5) rfl (by kernel_rfl) (by kernel_rfl) (by kernel_rfl) (fun _ _ _ h => h) (Or.inl ⟨by kernel_rfl, ?hyfd5⟩) hHeld ?restfd5
        case hyfd5 => intro w' hSw; (try dsimp only at hSw); go_simp; try with_reducible rfl
        simp only [Act.put]
        refine wpAnyF_take [31, 22, 19, 12, 9, 6] (by kernel_rfl) (i := 5) (v := ?vfd6) rfl (by kernel_rfl) (by kernel_rfl) (by kernel_rfl) (fun _ _ _ h => h) (Or.inl ⟨by kernel_rfl, ?hyfd6⟩) hHeld ?restfd6
        case hyfd6 => intro w' hSw; (try dsimp only at hSw); go_simp; try with_reducible rfl
        simp only [Act.put]
        refine wpAnyF_take [31, 22, 19, 12, 9] (by kernel_rfl) (i := 6) (v := ?vfd7) rfl (by kernel_rfl) (by kernel_rfl) (by kernel_rfl) (fun _ _ _ h => h) (Or.inl ⟨by kernel_rfl, ?hyfd7⟩) hHeld ?restfd7
        case hyfd7 => intro w' hSw; (try dsimp only at hSw); go_simp; try with_reducible rfl
        simp only [Act.put]
        refine wpAnyF_take [31, 22, 19, 12, 9, 8] (by kernel_rfl) (i := 7) (v := ?vfd8) rfl (by kernel_rfl) (by kernel_rfl) (by kernel_rfl) (fun _ _ _ h => h) (Or.inl ⟨by kernel_rfl, ?hyfd8⟩) hHeld ?restfd8
        case hyfd8 => intro w' hSw; (try dsimp only at hSw); go_simp; try with_reducible rfl
        simp only [Act.put]
        refine wpAnyF_take [31, 22, 19, 12, 9] (by kernel_rfl) (i := 8) (v := ?vfd9) rfl (by kernel_rfl) (by kernel_rfl) (by kernel_rfl) (fun _ _ _ h => h) (Or.inl ⟨by kernel_rfl, ?hyfd9⟩) hHeld ?restfd9
        case hyfd9 => intro w' hSw; (try dsimp only at hSw); go_simp; try with_reducible rfl
        simp only [Act.put]
        refine wpAnyF_ready (rs := [9]) (by kernel_rfl) (by simp) ?_
        refine AllReadyF.cons rfl (fun K hK => ?_) AllReadyF.nil
        go_simp
        refine (HF0.out _).mono ?_
        rintro e wC0 ⟨rfl, hbC⟩
        dsimp only
        have HBC0 := hide_ (below_to ((Below.refl w3.heap.size w3).drew) hbC)
        clear hbC
        refine hK.out _ _ (HSS.out _ HBC0.out) (fun hHeld => ?_)
        clear hK K
        refine wpAnyF_take [31, 22, 19, 12, 11] (by kernel_rfl) (i := 10) (v := ?vfd10) rfl (by kernel_rfl) (by kernel_rfl) (by kernel_rfl) (fun _ _ _ h => h) (Or.inl ⟨by kernel_rfl, ?hyfd10⟩) hHeld ?restfd10
        case hyfd10 => intro w' hSw; (try dsimp only at hSw); go_simp; try with_reducible rfl
        simp only [Act.put]
        refine wpAnyF_take [31, 22, 19, 12] (by kernel_rfl) (i := 11) (v := ?vfd11) rfl (by kernel_rfl) (by kernel_rfl) (by kernel_rfl) (fun _ _ _ h => h) (Or.inl ⟨by kernel_rfl, ?hyfd11⟩) hHeld ?restfd11
        case hyfd11 => intro w' hSw; (try dsimp only at hSw); go_simp; try with_reducible rfl
        simp only [Act.put]
        refine wpAnyF_take [31, 22, 19] (by kernel_rfl) (i := 12) (v := ?vfd12) rfl (by kernel_rfl) (by kernel_rfl) (by kernel_rfl) (fun _ _ _ h => h) (Or.inl ⟨by kernel_rfl, ?hyfd12⟩) hHeld ?restfd12
        case hyfd12 => intro w' hSw; (try dsimp only at hSw); go_simp; try with_reducible rfl
        simp only [Act.put]
        refine wpAnyF_take [31, 22, 19] (by kernel_rfl) (i := 13) (v := ?vfd13) rfl (by kernel_rfl) (by kernel_rfl) (by kernel_rfl) (fun _ _ _ h => h) (Or.inl ⟨by kernel_rfl, ?hyfd13⟩) hHeld ?restfd13
        case hyfd13 => intro w' hSw; (try dsimp only at hSw); go_simp; try with_reducible rfl
        simp only [Act.put]
        refine wpAnyF_take [31, 22, 19, 16, 15] (by kernel_rfl) (i := 14) (v := ?vfd14) rfl (by kernel_rfl) (by kernel_rfl) (by kernel_rfl) (fun _ _ _ h => h) (Or.inl ⟨by kernel_rfl, ?hyfd14⟩) hHeld ?restfd14
        case hyfd14 => intro w' hSw; (try dsimp only at hSw); go_simp; try with_reducible rfl
        simp only [Act.put]
        refine wpAnyF_take [31, 22, 19, 16] (by kernel_rfl) (i := 15) (v := ?vfd15) rfl (by kernel_rfl) (by kernel_rfl) (by kernel_rfl) (fun _ _ _ h => h) (Or.inl ⟨by kernel_rfl, ?hyfd15⟩) hHeld ?restfd15
        case hyfd15 => intro w' hSw; (try dsimp only at hSw); go_simp; try with_reducible rfl
        simp only [Act.put]
        refine wpAnyF_take [31, 22, 19] (by kernel_rfl) (i := 16) (v := ?vfd16) rfl (by kernel_rfl) (by kernel_rfl) (by kernel_rfl) (fun _ _ _ h => h) (Or.inl ⟨by kernel_rfl, ?hyfd16⟩) hHeld ?restfd16
        case hyfd16 => intro w' hSw; (try dsimp only at hSw); go_simp; try with_reducible rfl
        simp only [Act.put]
        refine wpAnyF_take [31, 22, 19, 18] (by kernel_rfl) (i := 17) (v := ?vfd17) rfl (by kernel_rfl) (by kernel_rfl) (by kernel_rfl) (fun _ _ _ h => h) (Or.inl ⟨by kernel_rfl, ?hyfd17⟩) hHeld ?restfd17
        case hyfd17 => intro w' hSw; (try dsimp only at hSw); go_simp; try with_reducible rfl
        simp only [Act.put]
        refine wpAnyF_take [31, 22, 19] (by kernel_rfl) (i := 18) (v := ?vfd18) rfl (by kernel_rfl) (by kernel_rfl) (by kernel_rfl) (fun _ _ _ h => h) (Or.inl ⟨by kernel_rfl, ?hyfd18⟩) hHeld ?restfd18
        case hyfd18 => intro w' hSw; (try dsimp only at hSw); go_simp; try with_reducible rfl
        simp only [Act.put]
        refine wpAnyF_ready (rs := [19]) (by kernel_rfl) (by simp) ?_
        refine AllReadyF.cons rfl (fun K hK => ?_) AllReadyF.nil
        go_simp
        refine (HF1.out _).mono ?_
        rintro e wC1 ⟨rfl, hbC⟩
        dsimp only
        have HBC1 := hide_ (below_to (HBC0.out) hbC)
        clear hbC
        refine hK.out _ _ (HSS.out _ HBC1.out) (fun hHeld => ?_)
        clear hK K
        refine wpAnyF_take [31, 22, 21] (by kernel_rfl) (i := 20) (v := ?vfd19) rfl (by kernel_rfl) (by kernel_rfl) (by kernel_rfl) (fun _ _ _ h => h) (Or.inl ⟨by kernel_rfl, ?hyfd19⟩) hHeld ?restfd19
        case hyfd19 => intro w' hSw; (try dsimp only at hSw); go_simp; try with_reducible rfl
        simp only [Act.put]
        refine wpAnyF_take [31, 22] (by kernel_rfl) (i := 21) (v := ?vfd20) rfl (by kernel_rfl) (by kernel_rfl) (by kernel_rfl) (fun _ _ _ h => h) (Or.inl ⟨by kernel_rfl, ?hyfd20⟩) hHeld ?restfd20
        case hyfd20 => intro w' hSw; (try dsimp only at hSw); go_simp; try with_reducible rfl
        simp only [Act.put]
        refine wpAnyF_take [31] (by kernel_rfl) (i := 22) (v := ?vfd21) rfl (by kernel_rfl) (by kernel_rfl) (by kernel_rfl) (fun _ _ _ h => h) (Or.inl ⟨by kernel_rfl, ?hyfd21⟩) hHeld ?restfd21
        case hyfd21 => intro w' hSw; (try dsimp only at hSw); go_simp; try with_reducible rfl
        simp only [Act.put]
        refine wpAnyF_take [31, 30, 29] (by kernel_rfl) (i := 23) (v := ?vfd22) rfl (by kernel_rfl) (by kernel_rfl) (by kernel_rfl) (fun _ _ _ h => h) (Or.inl ⟨by kernel_rfl, ?hyfd22⟩) hHeld ?restfd22
        case hyfd22 => intro w' hSw; (try dsimp only at hSw); go_simp; try with_reducible rfl
        simp only [Act.put]
        refine wpAnyF_take [31, 30, 29, 26, 25] (by kernel_rfl) (i := 24) (v := ?vfd23) rfl (by kernel_rfl) (by kernel_rfl) (by kernel_rfl) (fun _ _ _ h => h) (Or.inl ⟨by kernel_rfl, ?hyfd23⟩) hHeld ?restfd23
        case hyfd23 => intro w' hSw; (try dsimp only at hSw); go_simp; try with_reducible rfl
        simp only [Act.put]
        refine wpAnyF_take [31, 30, 29, 26] (by kernel_rfl) (i := 25) (v := ?vfd24) rfl (by kernel_rfl) (by kernel_rfl) (by kernel_rfl) (fun _ _ _ h => h) (Or.inl ⟨by kernel_rfl, ?hyfd24⟩) hHeld ?restfd24
        case hyfd24 => intro w' hSw; (try dsimp only at hSw); go_simp; try with_reducible rfl
        simp only [Act.put]
        refine wpAnyF_take [31, 30, 29] (by kernel_rfl) (i := 26) (v := ?vfd25) rfl (by kernel_rfl) (by kernel_rfl) (by kernel_rfl) (fun _ _ _ h => h) (Or.inl ⟨by kernel_rfl, ?hyfd25⟩) hHeld ?restfd25
        case hyfd25 => intro w' hSw; (try dsimp only at hSw); go_simp; try with_reducible rfl
        simp only [Act.put]
        refine wpAnyF_take [31, 30, 29, 28] (by kernel_rfl) (i := 27) (v := ?vfd26) rfl (by kernel_rfl) (by kernel_rfl) (by kernel_rfl) (fun _ _ _ h => h) (Or.inl ⟨by kernel_rfl, ?hyfd26⟩) hHeld ?restfd26
        case hyfd26 => intro w' hSw; (try dsimp only at hSw); go_simp; try with_reducible rfl
        simp only [Act.put]
        refine wpAnyF_take [31, 30, 29] (by kernel_rfl) (i := 28) (v := ?vfd27) rfl (by kernel_rfl) (by kernel_rfl) (by kernel_rfl) (fun _ _ _ h => h) (Or.inl ⟨by kernel_rfl, ?hyfd27⟩) hHeld ?restfd27
        case hyfd27 => intro w' hSw; (try dsimp only at hSw); go_simp; try with_reducible rfl
        simp only [Act.put]
        refine wpAnyF_ready (rs := [29]) (by kernel_rfl) (by simp) ?_
        refine AllReadyF.cons rfl (fun K hK => ?_) AllReadyF.nil
        go_simp
        refine (HF2.out _).mono ?_
        rintro e wC2 ⟨rfl, hbC⟩
        dsimp only
        have HBC2 := hide_ (below_to (HBC1.out) hbC)
        clear hbC
        refine hK.out _ _ (HSS.out _ HBC2.out) (fun hHeld => ?_)
        clear hK K
        refine wpAnyF_take [31] (by kernel_rfl) (i := 30) (v := ?vfd28) rfl (by kernel_rfl) (by kernel_rfl) (by kernel_rfl) (fun _ _ _ h => h) (Or.inl ⟨by kernel_rfl, ?hyfd28⟩) hHeld ?restfd28
        case hyfd28 => intro w' hSw; (try dsimp only at hSw); go_simp; try with_reducible rfl
        simp only [Act.put]
        refine wpAnyF_ready (rs := [31]) (by kernel_rfl) (by simp) ?_
        refine AllReadyF.last rfl (fun K hK => ?_)
        go_simp
        refine hK.out _ _ ?_
        clear hK K
        refine wpAnyF_done (by kernel_rfl) ?_ _
        go_wp2_with fail
        go_meet
        case rel => exact ⟨true, _, rfl, rfl, hide_ (HD.out), hide_ (HBC2.out)⟩
        --/RD
      | true =>
        have HD : Hid (false = !frmX enc C.length ne x) := hide_ (by rw [HFX.out]; rfl)
        clear HFX
        --RE
        refine wp_region_last 31 (fun w' => w'.cell? ⟨w.heap.size, 0, none⟩ = some (.bool enc) ∧ w'.cell? ⟨w.heap.size, 1, none⟩ = some (.slice (some ⟨b, off, none⟩) C.length cc) ∧ w'.cell? ⟨w.heap.size, 2, none⟩ = some (.slice ae ne ce) ∧ w'.cell? ⟨w.heap.size + 1, 1, none⟩ = some (.int .i64 x.a) ∧ w'.cell? ⟨w.heap.size + 1, 2, none⟩ = some (.int .i64 x.b) ∧ w'.cell? ⟨w.heap.size + 1, 3, none⟩ = some (.int .i64 x.c) ∧ w'.cell? ⟨g6, 1, none⟩ = some (.string ⟨#[l0, l1, l2]⟩)) (by kernel_rfl) (HSS.out _ ((Below.refl w3.heap.size w3).drew)) (fun hHeld => ?_)
        refine wpAnyF_take [31, 22, 19, 12, 9, 2, 1] (by kernel_rfl) (i := 0) (v := ?vfe1) rfl (by kernel_rfl) (by kernel_rfl) (by kernel_rfl) (fun _ _ _ h => h) (Or.inl ⟨by kernel_rfl, ?hyfe1⟩) hHeld ?restfe1
        case hyfe1 => intro w' hSw; (try dsimp only at hSw); go_simp; try with_reducible rfl
        simp only [Act.put]
        refine wpAnyF_take [31, 22, 19, 12, 9, 2] (by kernel_rfl) (i := 1) (v := ?vfe2) rfl (by kernel_rfl) (by kernel_rfl) (by kernel_rfl) (fun _ _ _ h => h) (Or.inl ⟨by kernel_rfl, ?hyfe2⟩) hHeld ?restfe2
        case hyfe2 => intro w' hSw; (try dsimp only at hSw); go_simp; try with_reducible rfl
        simp only [Act.put]
        refine wpAnyF_take [31, 22, 19, 12, 9] (by kernel_rfl) (i := 2) (v := ?vfe3) rfl (by kernel_rfl) (by kernel_rfl) (by kernel_rfl) (fun _ _ _ h => h) (Or.inl ⟨by kernel_rfl, ?hyfe3⟩) hHeld ?restfe3
        case hyfe3 => intro w' hSw; (try dsimp only at hSw); go_simp; try with_reducible rfl
        simp only [Act.put]
        refine wpAnyF_take [31, 22, 19, 12, 9] (by kernel_rfl) (i := 3) (v := ?vfe4) rfl (by kernel_rfl) (by kernel_rfl) (by kernel_rfl) (fun _ _ _ h => h) (Or.inl ⟨by kernel_rfl, ?hyfe4⟩) hHeld ?restfe4
        case hyfe4 => intro w' hSw; (try dsimp only at hSw); go_simp; try with_reducible rfl
        simp only [Act.put]
        refine wpAnyF_take [31, 22, 19, 12, 9, 6, 5] (by kernel_rfl) (i := 4) (v := ?vfe5) rfl (by kernel_rfl) (by kernel_rfl) (by kernel_rfl) (fun _ _ _ h => h) (Or.inl ⟨by kernel_rfl, ?hyfe5⟩) hHeld ?restfe5
        case hyfe5 => intro w' hSw; (try dsimp only at hSw); go_simp; try with_reducible rfl
        simp only [Act.put]
        refine wpAnyF_take [31, 22, 19, 12, 9, 6] (by kernel_rfl) (i := 5) (v := ?vfe6) rfl (by kernel_rfl) (by kernel_rfl) (by kernel_rfl) (fun _ _ _ h => h) (Or.inl ⟨by kernel_rfl, ?hyfe6⟩) hHeld ?restfe6
        case hyfe6 => intro w' hSw; (try dsimp only at hSw); go_simp; try with_reducible rfl
        simp only [Act.put]
        refine wpAnyF_take [31, 22, 19, 12, 9] (by kernel_rfl) (i := 6) (v := ?vfe7) rfl (by kernel_rfl) (by kernel_rfl) (by kernel_rfl) (fun _ _ _ h => h) (Or.inl ⟨by kernel_rfl, ?hyfe7⟩) hHeld ?restfe7
        case hyfe7 => intro w' hSw; (try dsimp only at hSw); go_simp; try with_reducible rfl
        simp only [Act.put]
        refine wpAnyF_take [31, 22, 19, 12, 9, 8] (by kernel_rfl) (i := 7) (v := ?vfe8) rfl (by kernel_rfl) (by kernel_rfl) (by kernel_rfl) (fun _ _ _ h => h) (Or.inl ⟨by kernel_rfl, ?hyfe8⟩) hHeld ?restfe8
        case hyfe8 => intro w' hSw; (try dsimp only at hSw); go_simp; try with_reducible rfl
        simp only [Act.put]
        refine wpAnyF_take [31, 22, 19, 12, 9] (by kernel_rfl) (i := 8) (v := ?vfe9) rfl (by kernel_rfl) (by kernel_rfl) (by kernel_rfl) (fun _ _ _ h => h) (Or.inl ⟨by kernel_rfl, ?hyfe9⟩) hHeld ?restfe9
        case hyfe9 => intro w' hSw; (try dsimp only at hSw); go_simp; try with_reducible rfl
        simp only [Act.put]
        refine wpAnyF_ready (rs := [9]) (by kernel_rfl) (by simp) ?_
        refine AllReadyF.cons rfl (fun K hK => ?_) AllReadyF.nil
        go_simp
        refine (HF0.out _).mono ?_
        rintro e wC0 ⟨rfl, hbC⟩
        dsimp only
        have HBC0 := hide_ (below_to ((Below.refl w3.heap.size w3).drew) hbC)
        clear hbC
        refine hK.out _ _ (HSS.out _ HBC0.out) (fun hHeld => ?_)
        clear hK K
        refine wpAnyF_take [31, 22, 19, 12, 11] (by kernel_rfl) (i := 10) (v := ?vfe10) rfl (by kernel_rfl) (by kernel_rfl) (by kernel_rfl) (fun _ _ _ h => h) (Or.inl ⟨by kernel_rfl, ?hyfe10⟩) hHeld ?restfe10
        case hyfe10 => intro w' hSw; (try dsimp only at hSw); go_simp; try with_reducible rfl
        simp only [Act.put]
        refine wpAnyF_take [31, 22, 19, 12] (by kernel_rfl) (i := 11) (v := ?vfe11) rfl (by kernel_rfl) (by kernel_rfl) (by kernel_rfl) (fun _ _ _ h => h) (Or.inl ⟨by kernel_rfl, ?hyfe11⟩) hHeld ?restfe11
        case hyfe11 => intro w' hSw; (try dsimp only at hSw); go_simp; try with_reducible rfl
        simp only [Act.put]
        refine wpAnyF_take [31, 22, 19] (by kernel_rfl) (i := 12) (v := ?vfe12) rfl (by kernel_rfl) (by kernel_rfl) (by kernel_rfl) (fun _ _ _ h => h) (Or.inl ⟨by kernel_rfl, ?hyfe12⟩) hHeld ?restfe12
        case hyfe12 => intro w' hSw; (try dsimp only at hSw); go_simp; try with_reducible rfl
        simp only [Act.put]
        refine wpAnyF_take [31, 22, 19] (by kernel_rfl) (i := 13) (v := ?vfe13) rfl (by kernel_rfl) (by kernel_rfl) (by kernel_rfl) (fun _ _ _ h => h) (Or.inl ⟨by kernel_rfl, ?hyfe13⟩) hHeld ?restfe13
        case hyfe13 => intro w' hSw; (try dsimp only at hSw); go_simp; try with_reducible rfl
        simp only [Act.put]
        refine wpAnyF_take [31, 22, 19, 16, 15] (by kernel_rfl) (i := 14) (v := ?vfe14) rfl (by kernel_rfl) (by kernel_rfl) (by kernel_rfl) (fun _ _ _ h => h) (Or.inl ⟨by kernel_rfl, ?hyfe14⟩) hHeld ?restfe14
        case hyfe14 => intro w' hSw; (try dsimp only at hSw); go_simp; try with_reducible rfl
        simp only [Act.put]
        refine wpAnyF_take [31, 22, 19, 16] (by kernel_rfl) (i := 15) (v := ?vfe15) rfl (by kernel_rfl) (by kernel_rfl) (by kernel_rfl) (fun _ _ _ h => h) (Or.inl ⟨by kernel_rfl, ?hyfe15⟩) hHeld ?restfe15
        case hyfe15 => intro w' hSw; (try dsimp only at hSw); go_simp; try with_reducible rfl
        simp only [Act.put]
        refine wpAnyF_take [31, 22, 19] (by kernel_rfl) (i := 16) (v := ?vfe16) rfl (by kernel_rfl) (by kernel_rfl) (by kernel_rfl) (fun _ _ _ h => h) (Or.inl ⟨by kernel_rfl, ?hyfe16⟩) hHeld ?restfe16
        case hyfe16 => intro w' hSw; (try dsimp only at hSw); go_simp; try with_reducible rfl
        simp only [Act.put]
        refine wpAnyF_take [31, 22, 19, 18] (by kernel_rfl) (i := 17) (v := ?vfe17) rfl (by kernel_rfl) (by kernel_rfl) (by kernel_rfl) (fun _ _ _ h => h) (Or.inl ⟨by kernel_rfl, ?hyfe17⟩) hHeld ?restfe17
        case hyfe17 => intro w' hSw; (try dsimp only at hSw); go_simp; try with_reducible rfl
        simp only [Act.put]
        refine wpAnyF_take [31, 22, 19] (by kernel_rfl) (i := 18) (v := ?vfe18) rfl (by kernel_rfl) (by kernel_rfl) (by kernel_rfl) (fun _ _ _ h => h) (Or.inl ⟨by kernel_rfl, ?hyfe18⟩) hHeld ?restfe18
        case hyfe18 => intro w' hSw; (try dsimp only at hSw); go_simp; try with_reducible rfl
        simp only [Act.put]
        refine wpAnyF_ready (rs := [19]) (by kernel_rfl) (by simp) ?_
        refine AllReadyF.cons rfl (fun K hK => ?_) AllReadyF.nil
        go_simp
        refine (HF1.out _).mono ?_
        rintro e wC1 ⟨rfl, hbC⟩
        dsimp only
        have HBC1 := hide_ (below_to (HBC0.out) hbC)
        clear hbC
        refine hK.out _ _ (HSS.out _ HBC1.out) (fun hHeld => ?_)
        clear hK K
        refine wpAnyF_take [31, 22, 21] (by kernel_rfl) (i := 20) (v := ?vfe19) rfl (by kernel_rfl) (by kernel_rfl) (by kernel_rfl) (fun _ _ _ h => h) (Or.inl ⟨by kernel_rfl, ?hyfe19⟩) hHeld ?restfe19
        case hyfe19 => intro w' hSw; (try dsimp only at hSw); go_simp; try with_reducible rfl
        simp only [Act.put]
        refine wpAnyF_take [31, 22] (by kernel_rfl) (i := 21) (v := ?vfe20) rfl (by kernel_rfl) (by kernel_rfl) (by kernel_rfl) (fun _ _ _ h => h) (Or.inl ⟨by kernel_rfl, ?hyfe20⟩) hHeld ?restfe20
        case hyfe20 => intro w' hSw; (try dsimp only at hSw); go_simp; try with_reducible rfl
        simp only [Act.put]
        refine wpAnyF_take [31] (by kernel_rfl) (i := 22) (v := ?vfe21) rfl (by kernel_rfl) (by kernel_rfl) (by kernel_rfl) (fun _ _ _ h => h) (Or.inl ⟨by kernel_rfl, ?hyfe21⟩) hHeld ?restfe21
        case hyfe21 => intro w' hSw; (try dsimp only at hSw); go_simp; try with_reducible rfl
        simp only [Act.put]
        refine wpAnyF_take [31, 30, 29] (by kernel_rfl) (i := 23) (v := ?vfe22) rfl (by kernel_rfl) (by kernel_rfl) (by kernel_rfl) (fun _ _ _ h => h) (Or.inl ⟨by kernel_rfl, ?hyfe22⟩) hHeld ?restfe22
        case hyfe22 => intro w' hSw; (try dsimp only at hSw); go_simp; try with_reducible rfl
        simp only [Act.put]
        refine wpAnyF_take [31, 30, 29, 26, 25] (by kernel_rfl) (i := 24) (v := ?vfe23) rfl (by kernel_rfl) (by kernel_rfl) (by kernel_rfl) (fun _ _ _ h => h) (Or.inl ⟨by kernel_rfl, ?hyfe23⟩) hHeld ?restfe23
        case hyfe23 => intro w' hSw; (try dsimp only at hSw); go_simp; try with_reducible rfl
        simp only [Act.put]
        refine wpAnyF_take [31, 30, 29, 26] (by kernel_rfl) (i := 25) (v := ?vfe24) rfl (by kernel_rfl) (by kernel_rfl) (by kernel_rfl) (fun _ _ _ h => h) (Or.inl ⟨by kernel_rfl, ?hyfe24⟩) hHeld ?restfe24
        case hyfe24 => intro w' hSw; (try dsimp only at hSw); go_simp; try with_reducible rfl
        simp only [Act.put]
        refine wpAnyF_take [31, 30, 29] (by kernel_rfl) (i := 26) (v := ?vfe25) rfl (by kernel_rfl) (by kernel_rfl) (by kernel_rfl) (fun _ _ _ h => h) (Or.inl ⟨by kernel_rfl, ?hyfe25⟩) hHeld ?restfe25
        case hyfe25 => intro w' hSw; (try dsimp only at hSw); go_simp; try with_reducible rfl
        simp only [Act.put]
        refine wpAnyF_take [31, 30, 29, 28] (by kernel_rfl) (i := 27) (v := ?vfe26) rfl (by kernel_rfl) (by kernel_rfl) (by kernel_rfl) (fun _ _ _ h => h) (Or.inl ⟨by kernel_rfl, ?hyfe26⟩) hHeld ?restfe26
        case hyfe26 => intro w' hSw; (try dsimp only at hSw); go_simp; try with_reducible rfl
        simp only [Act.put]
        refine wpAnyF_take [31, 30, 29] (by kernel_rfl) (i := 28) (v := ?vfe27) rfl (by kernel_rfl) (by kernel_rfl) (by kernel_rfl) (fun _ _ _ h => h) (Or.inl ⟨by kernel_rfl, ?hyfe27⟩) hHeld ?restfe27
        case hyfe27 => intro w' hSw; (try dsimp only at hSw); go_simp; try with_reducible rfl
        simp only [Act.put]
        refine wpAnyF_ready (rs := [29]) (by kernel_rfl) (by simp) ?_
        refine AllReadyF.cons rfl (fun K hK => ?_) AllReadyF.nil
        go_simp
        refine (HF2.out _).mono ?_
        rintro e wC2 ⟨rfl, hbC⟩
        dsimp only
        have HBC2 := hide_ (below_to (HBC1.out) hbC)
        clear hbC
        refine hK.out _ _ (HSS.out _ HBC2.out) (fun hHeld => ?_)
        clear hK K
        refine wpAnyF_take [31] (by kernel_rfl) (i := 30) (v := ?vfe28) rfl (by kernel_rfl) (by kernel_rfl) (by kernel_rfl) (fun _ _ _ h => h) (Or.inl ⟨by kernel_rfl, ?hyfe28⟩) hHeld ?restfe28
        case hyfe28 => intro w' hSw; (try dsimp only at hSw); go_simp; try with_reducible rfl
        simp only [Act.put]
        refine wpAnyF_ready (rs := [31]) (by kernel_rfl) (by simp) ?_
        refine AllReadyF.last rfl (fun K hK => ?_)
        go_simp
        refine hK.out _ _ ?_
        clear hK K
        refine wpAnyF_done (by kernel_rfl) ?_ _
        go_wp2_with fail
        go_meet
        case rel => exact ⟨false, _, rfl, rfl, hide_ (HD.out), hide_ (HBC2.out)⟩
        --/RE
  case rest =>
  obtain ⟨d, w4, rfl, rfl, HD, HB4⟩ := hcut
  have HBr := hide_ (below_to HB3.out HB4.out)
  cases d with
  | true =>
    have HR : Hid (frm enc C ne i = false) := hide_ (by
      rw [HFr.out]
      have := HD.out
      cases h : frmX enc C.length ne x with
      | false => rfl
      | true => rw [h] at this; cases this)
    go_wp2
    go_ret
    exact ⟨by rw [HR.out]; rfl, HBr.out⟩
  | false =>
    have hfx : frmX enc C.length ne x = true := by
      have := HD.out
      cases h : frmX enc C.length ne x with
      | false => rw [h] at this; cases this
      | true => rfl
    have hof : isOf x.op enc = true := (frmX_parts hfx).1
    have HR : Hid (frm enc C ne i = agr x (C.drop (i + 1))) := hide_ (by rw [HFr.out, hfx]; rfl)
    have hag := frmX_agB hfx
    have hnn := nm_ne hof
    have hon : ofN x.op enc = ⟨(nmT x.op).toArray⟩ := by unfold ofN; rw [if_pos hof]
    rw [HN.out] at hnn hon
    have a1 := (KI3.out.later HB4.out).cell 1; have a2 := (KI3.out.later HB4.out).cell 2; have a3 := (KI3.out.later HB4.out).cell 3
    have s0 := (K6.out.later HB4.out).cell 0
    have p0 := (KP3.out.later HB4.out).cell 0; have p1 := (KP3.out.later HB4.out).cell 1; have p2 := (KP3.out.later HB4.out).cell 2
    simp at a1 a2 a3 s0 p0 p1 p2
    clear HN HL HO HFr HSA
    obtain ⟨n2, n34, n17, n8, n41⟩ := hnn
    by_cases h2 : x.op = 2
    · have hsn : sN = ⟨#[117, 105, 110, 116, 115]⟩ := by rw [hon, h2]; rfl
      subst hsn
      have HA : Hid (agr x (C.drop (i + 1)) = decide (x.a + x.b ≤ 64)) := hide_ (by unfold agr; rw [if_pos h2])
      have hb2 := hag.u h2
      clear n2 n34 n17 n8 n41 hon hof hfx h2 hag
      go_wp2
      go_ret
      exact ⟨by rw [HR.out, HA.out]; rfl, HBr.out⟩
    have hn2 := n2 h2
    by_cases h34 : x.op = 34
    · have hsn : sN = ⟨#[110, 117, 109, 98, 101, 114, 115]⟩ := by rw [hon, h34]; rfl
      subst hsn
      have HA : Hid (agr x (C.drop (i + 1)) = decide (x.a + x.b * x.c ≤ 16777216)) := hide_ (by unfold agr; rw [if_neg h2, if_pos h34])
      obtain ⟨b1, b2, b3, b4, b5, b6⟩ := hag.n h34
      have hm : x.b * x.c ≤ 64 * 8 := Int.mul_le_mul b4 b6 (by omega) (by omega)
      have hm0 : 0 ≤ x.b * x.c := Int.mul_nonneg (by omega) (by omega)
      generalize hmq : x.b * x.c = mq at *
      clear n2 n34 n17 n8 n41 hon hof hfx h2 h34 hag hn2
      go_wp2
      go_ret
      exact ⟨by rw [HR.out, HA.out]; rfl, HBr.out⟩
    have hn34 := n34 h34
    by_cases h17 : x.op = 17
    · have hsn : sN = ⟨#[112, 97, 114, 116]⟩ := by rw [hon, h17]; rfl
      subst hsn
      have HA : Hid (agr x (C.drop (i + 1)) = ((x.a == -1) == (x.b == -1))) := hide_ (by unfold agr; rw [if_neg h2, if_neg h34, if_pos h17])
      clear n2 n34 n17 n8 n41 hon hof hfx h2 h34 h17 hag hn2 hn34
      go_wp2
      go_ret
      exact ⟨by rw [HR.out, HA.out]; rfl, HBr.out⟩
    have hn17 := n17 h17
    have hdc : x.op = 8 ∨ x.op = 41 ∨ (x.op ≠ 8 ∧ x.op ≠ 41) := by omega
    have HRa : x.op = 8 ∨ x.op = 41 → Calls Try.prog 24 #[.agg #[.bool enc, .slice (some ⟨b, off, none⟩) C.length cc, .slice ae ne ce], .int .i64 (i : Int)] w4 fun e w' => e = .returned (.bool (agr x (C.drop (i + 1)))) ∧ Below w4.heap.size w4 w' := fun hu => by
      have hal := (frmX_parts hfx).2.1
      rw [kin_un hu] at hal
      have hrg := alw_rng hal
      have hb8 : bnd C.length ne 8 = (1, 64) := rfl
      rw [hb8] at hrg
      have := rarms_any enc (some ⟨b, off, none⟩) ae cc ne ce i C x w4 HX.out (by simp only at hrg; omega) hCl (hide_ (HR3.out.later HB4.out))
      have e : agr x (C.drop (i + 1)) = arms (C.drop (i + 1)) x.a := by unfold agr; rw [if_neg h2, if_neg h34, if_neg h17, if_pos hu]
      rw [e]
      exact this
    rcases hdc with h8 | h41 | ⟨h8, h41⟩
    · have hsn : sN = ⟨#[117, 110, 105, 111, 110]⟩ := by rw [hon, h8]; rfl
      subst hsn
      have HA := hide_ (HRa (.inl h8))
      clear n2 n34 n17 n8 n41 hon hof hfx h2 h34 h17 h8 hag hn2 hn34 hn17 HRa
      go_wp2_with (go_at_call 24; refine HA.out.mono ?_; rintro e w5 ⟨rfl, hB5⟩)
      go_ret
      exact ⟨by rw [HR.out]; rfl, below_to HBr.out hB5⟩
    · have hsn : sN = ⟨#[99, 104, 111, 105, 99, 101]⟩ := by rw [hon, h41]; rfl
      subst hsn
      have HA := hide_ (HRa (.inr h41))
      clear n2 n34 n17 n8 n41 hon hof hfx h2 h34 h17 h41 hag hn2 hn34 hn17 HRa
      go_wp2_with (go_at_call 24; refine HA.out.mono ?_; rintro e w5 ⟨rfl, hB5⟩)
      go_ret
      exact ⟨by rw [HR.out]; rfl, below_to HBr.out hB5⟩
    · have hn8 := n8 h8
      have hn41 := n41 h41
      have HA : Hid (agr x (C.drop (i + 1)) = true) := hide_ (by unfold agr; rw [if_neg h2, if_neg h34, if_neg h17, if_neg (by omega)])
      have d2 := strL_ne _ [117, 105, 110, 116, 115] hn2; have d34 := strL_ne _ [110, 117, 109, 98, 101, 114, 115] hn34; have d17 := strL_ne _ [112, 97, 114, 116] hn17; have d8 := strL_ne _ [117, 110, 105, 111, 110] hn8; have d41 := strL_ne _ [99, 104, 111, 105, 99, 101] hn41
      clear n2 n34 n17 n8 n41 hn2 hn34 hn17 hn8 hn41 hon hof hfx h2 h34 h17 h8 h41 hag HRa
      go_wp2
      go_ret
      exact ⟨by rw [HR.out, HA.out]; rfl, HBr.out⟩
set_option maxRecDepth 100000 in
set_option maxHeartbeats 4000000 in
theorem rcheck_any (enc : Bool) (ac ae : Option Addr) (cc ce : Nat) (C : List In) (E : List Int) (w : World) (hCl : C.length ≤ 140737488355328) (hel : E.length ≤ 140737488355328) (hr : Hid (IRow w ac C)) (he : Hid (Row .i64 w ae E)) :
    Calls Try.prog 12 #[.agg #[.bool enc, .slice ac C.length cc, .slice ae E.length ce]] w fun e w' => e = .returned (.agg #[.int .i64 (chk enc C E).1, .int .i64 (chk enc C E).2]) ∧ Below w.heap.size w w' := by
  obtain ⟨w1, hw1⟩ : ∃ wx, wx = (w.alloc (.cells #[.bool enc, .slice ac C.length cc, .slice ae E.length ce] 25)).alloc (.cells #[.int .i64 0, .int .i64 0] 30) := ⟨_, rfl⟩
  have hB1 : Below w.heap.size w w1 := by rw [hw1]; exact below2 _ _ _
  obtain ⟨kp, kf⟩ := blk2 w #[.bool enc, .slice ac C.length cc, .slice ae E.length ce] #[.int .i64 0, .int .i64 0] 25 30
  rw [← hw1] at kp kf
  have KP := hide_ kp
  have KF := hide_ kf
  have HB1 := hide_ hB1
  have p0 := kp.cell 0; have p1 := kp.cell 1; have p2 := kp.cell 2
  have fz := fun i => kf.frozen i
  have f0 := kf.cell 0; have f1 := kf.cell 1
  simp at p0 p1 p2 f0 f1
  have Hgs : Hid (w.heap.size ≤ w.heap.size + 1) := hide_ (by omega)
  clear hB1 kp kf
  by_cases hlc : 1048576 < C.length
  · have HR := hide_ (chk_long (enc := enc) (C := C) (E := E) (.inl hlc))
    have hlc' : (1048576 : Int) < C.length := by omega
    go_enter Try.func12, Try.ntmps12
    go_upto_region 1 with fail
    rw [← hw1]
    clear hw1
    go_wp2
    refine retFt rfl rfl (wr2f KF.out _ _) ?_
    exact ⟨by rw [HR.out], below_set (below_set HB1.out _ _ _ Hgs.out) _ _ _ Hgs.out⟩
  have hlc' : ¬ (1048576 : Int) < C.length := by omega
  by_cases hle : 1048576 < E.length
  · have HR := hide_ (chk_long (enc := enc) (C := C) (E := E) (.inr hle))
    have hle' : (1048576 : Int) < E.length := by omega
    go_enter Try.func12, Try.ntmps12
    go_upto_region 1 with fail
    rw [← hw1]
    clear hw1
    go_wp2
    refine retFt rfl rfl (wr2f KF.out _ _) ?_
    exact ⟨by rw [HR.out], below_set (below_set HB1.out _ _ _ Hgs.out) _ _ _ Hgs.out⟩
  have hle' : ¬ (1048576 : Int) < E.length := by omega
  have HLn : Hid (¬ (1048576 < C.length ∨ 1048576 < E.length)) := hide_ (by omega)
  go_enter Try.func12, Try.ntmps12
  go_upto_region 1 with fail
  rw [← hw1]
  clear hw1
  go_wp2_with fail
  clear p0 p1 p2 f0 f1 fz
  go_loopw [3] (fun x20 wr => ∃ j : Nat, j ≤ C.length ∧ x20 = .int .i64 (j : Int) ∧ Hid (∀ i, i < j → frm enc C E.length i = true) ∧ Hid (Below w1.heap.size w1 wr)) (fun x20 _ => C.length - (intOf x20).toNat)
  case atStart => exact ⟨0, Nat.zero_le _, rfl, hide_ (fun i hi => by omega), hide_ (Below.refl _ _)⟩
  case round =>
    obtain ⟨j, hj, rfl, HA, HB⟩ := hrel
    generalize wr = wq at *
    have KPq := hide_ (KP.out.later HB.out)
    have KFq := hide_ (KF.out.later HB.out)
    have HBq := hide_ (below_to HB1.out HB.out)
    have p0 := KPq.out.cell 0; have p1 := KPq.out.cell 1; have p2 := KPq.out.cell 2
    simp at p0 p1 p2
    by_cases hlt : j < C.length
    · have hlt' : (j : Int) < C.length := by omega
      obtain ⟨r, hrr⟩ : ∃ r, frm enc C E.length j = r := ⟨_, rfl⟩
      have HF := formed_any enc ac ae cc E.length ce C j wq hlt hCl (by omega) (hide_ (hr.out.later HBq.out))
      rw [hrr] at HF
      have HFo := hide_ HF
      have HRr := hide_ hrr
      clear HF hrr
      cases r with
      | true =>
        have HA2 : Hid (∀ i, i < j + 1 → frm enc C E.length i = true) := hide_ (fun i hi => by
          rcases Nat.lt_or_ge i j with h | h
          · exact HA.out i h
          · obtain rfl : i = j := by omega
            exact HRr.out)
        go_wp2_with (go_at_call 19; refine HFo.out.mono ?_; rintro e w' ⟨rfl, hB2⟩; (have HB2 := hide_ (below_to HB.out hB2)); clear hB2)
        go_roundw
        case rel => exact ⟨j + 1, by omega, by go_num, HA2, HB2⟩
        case measure => simp [intOf]; omega
      | false =>
        have HR : Hid (chk enc C E = (140, (j : Int))) := hide_ (chk_op HLn.out hlt HRr.out HA.out)
        go_upto_region 7 with (go_at_call 19; refine HFo.out.mono ?_; rintro e w' ⟨rfl, hB2⟩)
        have HB2 := hide_ (below_to HBq.out hB2)
        have KF2 := hide_ (KFq.out.later hB2)
        have fz := fun i => KF2.out.frozen i
        have f0 := KF2.out.cell 0; have f1 := KF2.out.cell 1
        simp at f0 f1
        clear hB2
        go_wp2
        refine retFt rfl rfl (wr2f KF2.out _ _) ?_
        exact ⟨by rw [HR.out], below_set (below_set HB2.out _ _ _ Hgs.out) _ _ _ Hgs.out⟩
    · obtain rfl : j = C.length := by omega
      have HRow := hide_ (he.out.later HBq.out)
      generalize hwz : wq = wz at *
      clear hwz
      go_wp2_with fail
      clear p0 p1 p2
      go_loopw [4] (fun x33 wr => ∃ j : Nat, j ≤ E.length ∧ x33 = .int .i64 (j : Int) ∧ Hid (∀ i, i < j → entOk C.length E i = true) ∧ Hid (Below wz.heap.size wz wr)) (fun x33 _ => E.length - (intOf x33).toNat)
      case atStart => exact ⟨0, Nat.zero_le _, rfl, hide_ (fun i hi => by omega), hide_ (Below.refl _ _)⟩
      case round =>
        obtain ⟨j, hj, rfl, HA3, HB3⟩ := hrel
        generalize wr = wy at *
        have KPy := hide_ (KPq.out.later HB3.out)
        have KFy := hide_ (KFq.out.later HB3.out)
        have HBy := hide_ (below_to HBq.out HB3.out)
        have p0 := KPy.out.cell 0; have p1 := KPy.out.cell 1; have p2 := KPy.out.cell 2
        simp at p0 p1 p2
        by_cases hlt : j < E.length
        · have hlt' : (j : Int) < E.length := by omega
          obtain ⟨b, off, rfl, hb, hcs⟩ := (HRow.out.later HB3.out).open (by omega)
          have hc := hcs j hlt
          obtain ⟨r, hrr⟩ : ∃ r, entOk C.length E j = r := ⟨_, rfl⟩
          have hw1 : IntKind.i64.wrap ((C.length : Int) - 1) = (C.length : Int) - 1 := i64w _ (by omega)
          have hin : (decide (0 ≤ E.getD j 0) && decide (E.getD j 0 ≤ (C.length : Int) - 1)) = r := by rw [← hrr]; unfold entOk; rw [alw_in (lo := 0) (hi := (C.length : Int) - 1) rfl (by decide) (by decide)]
          have HFo : Hid (∀ w', Calls Try.prog 20 #[.int .i64 (E.getD j 0), .int .i64 0, .int .i64 ((C.length : Int) - 1)] w' fun e w'' => e = .returned (.bool r) ∧ w' = w'') := hide_ (fun w' => by rw [← hin]; exact in_any _ _ _ w')
          have HRr := hide_ hrr
          generalize E.getD j 0 = v at *
          clear hin hrr hcs
          cases r with
          | true =>
            have HA2 : Hid (∀ i, i < j + 1 → entOk C.length E i = true) := hide_ (fun i hi => by
              rcases Nat.lt_or_ge i j with h | h
              · exact HA3.out i h
              · obtain rfl : i = j := by omega
                exact HRr.out)
            have HB2 : Hid (∀ q, Below wz.heap.size wz (wy.drewN q)) := hide_ (fun q => below_drewN HB3.out q)
            go_wp2_with fail
            go_quiet ((go_at_call 20; exact Calls.quiet_of_same ((HFo.out _).mono fun _ _ h => ⟨h.1, h.2.symm⟩)))
            go_wp2_with fail
            go_roundw
            case rel => exact ⟨j + 1, by omega, by go_num, HA2, hide_ (HB2.out _)⟩
            case measure => simp [intOf]; omega
          | false =>
            have HR : Hid (chk enc C E = (3, (j : Int))) := hide_ (chk_place HLn.out HA.out hlt HRr.out HA3.out)
            go_wp2_with fail
            go_quiet ((go_at_call 20; exact Calls.quiet_of_same ((HFo.out _).mono fun _ _ h => ⟨h.1, h.2.symm⟩)))
            have hBn := below_drewN (Below.refl wy.heap.size wy) nq
            obtain ⟨wn, hwn⟩ : ∃ wn, wn = wy.drewN nq := ⟨_, rfl⟩
            rw [← hwn] at hBn ⊢
            clear hwn p0 p1 p2
            have HB2 := hide_ (below_to HBy.out hBn)
            have KF2 := hide_ (KFy.out.later hBn)
            have fz := fun i => KF2.out.frozen i
            have f0 := KF2.out.cell 0; have f1 := KF2.out.cell 1
            simp at f0 f1
            clear hBn
            go_wp2
            refine retFt rfl rfl (wr2f KF2.out _ _) ?_
            exact ⟨by rw [HR.out], below_set (below_set HB2.out _ _ _ Hgs.out) _ _ _ Hgs.out⟩
        · obtain rfl : j = E.length := by omega
          have HR : Hid (chk enc C E = (0, 0)) := hide_ (chk_yes HLn.out HA.out HA3.out)
          have fz := fun i => KFy.out.frozen i
          have f0 := KFy.out.cell 0; have f1 := KFy.out.cell 1
          simp at f0 f1
          go_wp2
          refine retFt rfl rfl (wr2f KFy.out _ _) ?_
          exact ⟨by rw [HR.out], below_set (below_set HBy.out _ _ _ Hgs.out) _ _ _ Hgs.out⟩
theorem tmod_in (n m : Int) (hm : 0 < m) : -m < n.tmod m ∧ n.tmod m < m := by
  rcases Int.le_total 0 n with h | h
  · rw [Int.tmod_eq_emod_of_nonneg h]
    have h1 := Int.emod_nonneg n (show m ≠ 0 by omega)
    have h2 := Int.emod_lt_of_pos n hm
    omega
  · have e : n = -(-n) := by omega
    rw [e, Int.neg_tmod, Int.tmod_eq_emod_of_nonneg (by omega)]
    have h1 := Int.emod_nonneg (-n) (show m ≠ 0 by omega)
    have h2 := Int.emod_lt_of_pos (-n) hm
    omega
def BrTo (lo hi : Int) (w : World) (e : Ending) (w' : World) : Prop := ∃ r : Int, lo ≤ r ∧ r ≤ hi ∧ e = .returned (.int .i64 r) ∧ w = w'
set_option maxRecDepth 100000 in
set_option maxHeartbeats 4000000 in
theorem brought_any (x lo hi : Int) (w : World) (h1 : -1 ≤ lo) (h2 : lo ≤ hi) (h3 : hi ≤ 140737488355328) : Calls Try.prog 21 #[.int .i64 x, .int .i64 lo, .int .i64 hi] w (BrTo lo hi w) := by
  have hlh : ¬ hi < lo := by omega
  by_cases hin : lo ≤ x ∧ x ≤ hi
  · have HI := hide_ (in_any x lo hi)
    rw [decide_eq_true hin.1, decide_eq_true hin.2] at HI
    have hmx : ¬ x < lo := by omega
    go_enter Try.func21, Try.ntmps21
    go_wp2_with (go_at_call 20; refine (HI.out _).mono ?_; rintro e w' ⟨rfl, rfl⟩)
    go_ret
    exact ⟨x, hin.1, hin.2, by first | rfl | (rw [show max x lo = x by omega]; rfl), rfl⟩
  · have hb : (decide (lo ≤ x) && decide (x ≤ hi)) = false := by simp; omega
    have HI := hide_ (in_any x lo hi)
    rw [hb] at HI
    obtain ⟨n, hn⟩ : ∃ n, n = hi - lo + 1 := ⟨_, rfl⟩
    have hn0 : 0 < n := by omega
    have hw1 : hi - lo + 1 = n := hn.symm
    have hz : (n == 0) = false := by simp; omega
    obtain ⟨q1, q2⟩ := tmod_in x n hn0
    generalize hq : x.tmod n = q at *
    have HQ := hide_ hq
    have HN := hide_ hn
    clear hb hin hn
    by_cases hq0 : q < 0
    · go_enter Try.func21, Try.ntmps21
      go_wp2_with (go_at_call 20; refine (HI.out _).mono ?_; rintro e w' ⟨rfl, rfl⟩)
      go_ret
      exact ⟨lo + (q + n), by omega, by have := HN.out; omega, by go_num, rfl⟩
    · go_enter Try.func21, Try.ntmps21
      go_wp2_with (go_at_call 20; refine (HI.out _).mono ?_; rintro e w' ⟨rfl, rfl⟩)
      go_ret
      exact ⟨lo + q, by omega, by have := HN.out; omega, by go_num, rfl⟩
def MdTo (nc ne k : Int) (w : World) (e : Ending) (w' : World) : Prop := ∃ r : Int, Mdo nc ne k r ∧ e = .returned (.int .i64 r) ∧ Below w.heap.size w w'
theorem mdo_in {nc ne k lo hi lo' hi' r : Int} (h : bnd nc ne k = (lo, hi)) (h3 : k ≠ 3) (h8 : k ≠ 8) (h13 : k ≠ 13) (a : lo' ≤ r) (b : r ≤ hi') (c : lo ≤ lo') (d : hi' ≤ hi) (e2 : k = 2 → hi' ≤ 61) (e4 : k ≠ 4) (e11 : k = 11 → hi' ≤ 300) : Mdo nc ne k r :=
  ⟨fun h => absurd h h8, fun _ => by rw [alw_in h h3 h13]; simp; omega, fun h => by have := e2 h; omega, fun h => absurd h e4, fun h => by have := e11 h; omega⟩
set_option maxRecDepth 100000 in
set_option maxHeartbeats 8000000 in
theorem made_in (enc : Bool) (ac ae : Option Addr) (nc cc ne ce : Nat) (c x lo hi : Int) (w : World) (hnc : nc ≤ 140737488355328) (hnc1 : 1 ≤ nc) (hne1 : 1 ≤ ne) (hne : ne ≤ 140737488355328)
    (hc : (c = 107 ∧ lo = -1 ∧ hi = 63) ∨ (c = 112 ∧ lo = -1 ∧ hi = 63) ∨ (c = 75 ∧ lo = 0 ∧ hi = 61) ∨ (c = 102 ∧ lo = 4 ∧ hi = 400) ∨ (c = 110 ∧ lo = 1 ∧ hi = 1048576) ∨ (c = 115 ∧ lo = 1 ∧ hi = 64) ∨ (c = 103 ∧ lo = 0 ∧ hi = 255) ∨ (c = 108 ∧ lo = 0 ∧ hi = 300) ∨ (c = 76 ∧ lo = -1 ∧ hi = 16777215) ∨ (c = 122 ∧ lo = 1 ∧ hi = 16777216) ∨ (c = 116 ∧ lo = 0 ∧ hi = nc - 1) ∨ (c = 121 ∧ lo = 0 ∧ hi = ne - 1)) :
    Calls Try.prog 23 #[.agg #[.bool enc, .slice ac nc cc, .slice ae ne ce], .int .u8 c, .int .i64 x] w (MdTo nc ne (ltK c) w) := by
  have hw1 : wrap64 ((nc : Int) - 1) = (nc : Int) - 1 := w64 _ (by omega)
  have hw2 : wrap64 ((ne : Int) - 1) = (ne : Int) - 1 := w64 _ (by omega)
  have HI := hide_ (fun w' => brought_any x lo hi w' (by omega) (by omega) (by omega))
  have HM : Hid (∀ r, lo ≤ r → r ≤ hi → Mdo nc ne (ltK c) r) := by
    rcases hc with ⟨rfl, rfl, rfl⟩ | ⟨rfl, rfl, rfl⟩ | ⟨rfl, rfl, rfl⟩ | ⟨rfl, rfl, rfl⟩ | ⟨rfl, rfl, rfl⟩ | ⟨rfl, rfl, rfl⟩ | ⟨rfl, rfl, rfl⟩ | ⟨rfl, rfl, rfl⟩ | ⟨rfl, rfl, rfl⟩ | ⟨rfl, rfl, rfl⟩ | ⟨rfl, rfl, rfl⟩ | ⟨rfl, rfl, rfl⟩
    all_goals exact hide_ (fun r a b => mdo_in rfl (by decide) (by decide) (by decide) a b (by decide) (by omega) (by first | decide | exact fun h => absurd h (by decide)) (by decide) (by first | decide | exact fun h => absurd h (by decide)))
  rcases hc with ⟨rfl, rfl, rfl⟩ | ⟨rfl, rfl, rfl⟩ | ⟨rfl, rfl, rfl⟩ | ⟨rfl, rfl, rfl⟩ | ⟨rfl, rfl, rfl⟩ | ⟨rfl, rfl, rfl⟩ | ⟨rfl, rfl, rfl⟩ | ⟨rfl, rfl, rfl⟩ | ⟨rfl, rfl, rfl⟩ | ⟨rfl, rfl, rfl⟩ | ⟨rfl, rfl, rfl⟩ | ⟨rfl, rfl, rfl⟩
  all_goals
    go_enter Try.func23, Try.ntmps23
    go_wp2_with (go_at_call 21; refine (HI.out _).mono ?_; rintro e w' ⟨r, ra, rb, rfl, rfl⟩)
    go_ret
    exact ⟨r, HM.out r ra rb, rfl, below1 _ _⟩
theorem shl1 (r : Int) (h0 : 0 ≤ r) (h3 : r ≤ 3) : r = 0 ∨ r = 1 ∨ r = 2 ∨ r = 3 := by omega
theorem mdo_w (nc ne r : Int) (h : r = 1 ∨ r = 2 ∨ r = 4 ∨ r = 8) : Mdo nc ne 3 r := by
  refine ⟨fun h => (by cases h), fun _ => ?_, fun h => (by cases h), fun h => (by cases h), fun h => (by cases h)⟩
  rcases h with rfl | rfl | rfl | rfl <;> rfl
set_option maxRecDepth 100000 in
set_option maxHeartbeats 8000000 in
theorem made_w (enc : Bool) (ac ae : Option Addr) (nc cc ne ce : Nat) (x : Int) (w : World) : Calls Try.prog 23 #[.agg #[.bool enc, .slice ac nc cc, .slice ae ne ce], .int .u8 119, .int .i64 x] w (MdTo nc ne 3 w) := by
  have HI := hide_ (fun w' => brought_any x 0 3 w' (by omega) (by omega) (by omega))
  go_enter Try.func23, Try.ntmps23
  go_wp2_with (go_at_call 21; refine (HI.out _).mono ?_; rintro e w' ⟨r, ra, rb, rfl, rfl⟩; rcases shl1 r ra rb with rfl | rfl | rfl | rfl)
  all_goals
    go_ret
    exact ⟨_, mdo_w nc ne _ (by decide), rfl, below1 _ _⟩
set_option maxRecDepth 100000 in
set_option maxHeartbeats 8000000 in
theorem made_m (enc : Bool) (ac ae : Option Addr) (nc cc ne ce : Nat) (x : Int) (w : World) : Calls Try.prog 23 #[.agg #[.bool enc, .slice ac nc cc, .slice ae ne ce], .int .u8 109, .int .i64 x] w (MdTo nc ne 4 w) := by
  go_enter Try.func23, Try.ntmps23
  go_wp2
  go_ret
  exact ⟨2, ⟨fun h => (by cases h), fun _ => rfl, fun h => (by cases h), fun h => rfl, fun h => (by cases h)⟩, rfl, below1 _ _⟩
set_option maxRecDepth 100000 in
set_option maxHeartbeats 8000000 in
theorem made_no (enc : Bool) (ac ae : Option Addr) (nc cc ne ce : Nat) (c x : Int) (hc : c = 97 ∨ c = 32) (w : World) : Calls Try.prog 23 #[.agg #[.bool enc, .slice ac nc cc, .slice ae ne ce], .int .u8 c, .int .i64 x] w (MdTo nc ne (ltK c) w) := by
  rcases hc with rfl | rfl
  · go_enter Try.func23, Try.ntmps23
    go_wp2
    go_ret
    exact ⟨0, ⟨fun h => rfl, fun h => absurd rfl h, fun h => (by cases h), fun h => (by cases h), fun h => (by cases h)⟩, rfl, below1 _ _⟩
  · go_enter Try.func23, Try.ntmps23
    go_wp2
    go_ret
    exact ⟨0, ⟨fun h => rfl, fun _ => rfl, fun h => (by cases h), fun h => (by cases h), fun h => (by cases h)⟩, rfl, below1 _ _⟩
theorem mdo_r (nc ne r : Int) (h : 1 ≤ r ∧ r ≤ 300) : Mdo nc ne 13 r := by
  refine ⟨fun h => (by cases h), fun _ => ?_, fun h => (by cases h), fun h => (by cases h), fun h => (by cases h)⟩
  unfold alw
  rw [if_neg (by decide), if_pos rfl]
  have hb : bnd nc ne 13 = (-1, 16777216) := rfl
  rw [hb, decide_eq_true (by simp only; omega)]
  simp
  omega
set_option maxRecDepth 100000 in
set_option maxHeartbeats 8000000 in
theorem made_r (enc : Bool) (ac ae : Option Addr) (nc cc ne ce : Nat) (x : Int) (w : World) : Calls Try.prog 23 #[.agg #[.bool enc, .slice ac nc cc, .slice ae ne ce], .int .u8 114, .int .i64 x] w (MdTo nc ne 13 w) := by
  have HI := hide_ (fun w' => brought_any x 0 300 w' (by omega) (by omega) (by omega))
  have HM := hide_ (fun r h => mdo_r nc ne r h)
  go_enter Try.func23, Try.ntmps23
  go_wp2_with fail
  refine (HI.out _).mono ?_
  rintro e w' ⟨r, ra, rb, rfl, rfl⟩
  by_cases hr1 : r < 1
  · go_wp2_with fail
    go_ret
    first
      | exact ⟨1, HM.out _ (by omega), rfl, below1 _ _⟩
      | exact ⟨max r 1, HM.out _ (by omega), rfl, below1 _ _⟩
  · go_wp2_with fail
    go_ret
    first
      | exact ⟨r, HM.out _ (by omega), rfl, below1 _ _⟩
      | exact ⟨max r 1, HM.out _ (by omega), rfl, below1 _ _⟩
theorem mde_any (enc : Bool) (ac ae : Option Addr) (nc cc ne ce : Nat) (c : UInt8) (x : Int) (w : World) (hnc : nc ≤ 140737488355328) (hnc1 : 1 ≤ nc) (hne1 : 1 ≤ ne) (hne : ne ≤ 140737488355328) (hc : lts.contains c = true) :
    Calls Try.prog 23 #[.agg #[.bool enc, .slice ac nc cc, .slice ae ne ce], .int .u8 (c.toNat : Int), .int .i64 x] w (MdTo nc ne (ltK (c.toNat : Int)) w) := by
  have hm : c ∈ lts := by simpa using hc
  unfold lts at hm
  simp only [List.mem_cons, List.not_mem_nil, or_false] at hm
  rcases hm with rfl | rfl | rfl | rfl | rfl | rfl | rfl | rfl | rfl | rfl | rfl | rfl | rfl | rfl | rfl | rfl | rfl
  case inl => exact made_no enc ac ae nc cc ne ce 32 x (by decide) w
  all_goals first
    | exact made_w enc ac ae nc cc ne ce x w
    | exact made_m enc ac ae nc cc ne ce x w
    | exact made_r enc ac ae nc cc ne ce x w
    | exact made_no enc ac ae nc cc ne ce 97 x (by decide) w
    | exact made_in enc ac ae nc cc ne ce 107 x (-1) 63 w hnc hnc1 hne1 hne (by simp)
    | exact made_in enc ac ae nc cc ne ce 112 x (-1) 63 w hnc hnc1 hne1 hne (by simp)
    | exact made_in enc ac ae nc cc ne ce 75 x 0 61 w hnc hnc1 hne1 hne (by simp)
    | exact made_in enc ac ae nc cc ne ce 102 x 4 400 w hnc hnc1 hne1 hne (by simp)
    | exact made_in enc ac ae nc cc ne ce 110 x 1 1048576 w hnc hnc1 hne1 hne (by simp)
    | exact made_in enc ac ae nc cc ne ce 115 x 1 64 w hnc hnc1 hne1 hne (by simp)
    | exact made_in enc ac ae nc cc ne ce 103 x 0 255 w hnc hnc1 hne1 hne (by simp)
    | exact made_in enc ac ae nc cc ne ce 108 x 0 300 w hnc hnc1 hne1 hne (by simp)
    | exact made_in enc ac ae nc cc ne ce 76 x (-1) 16777215 w hnc hnc1 hne1 hne (by simp)
    | exact made_in enc ac ae nc cc ne ce 122 x 1 16777216 w hnc hnc1 hne1 hne (by simp)
    | exact made_in enc ac ae nc cc ne ce 116 x 0 (nc - 1) w hnc hnc1 hne1 hne (by simp)
    | exact made_in enc ac ae nc cc ne ce 121 x 0 (ne - 1) w hnc hnc1 hne1 hne (by simp)
theorem inc_at (x : In) : inc x = [.int .i64 x.op, .int .i64 x.a, .int .i64 x.b, .int .i64 x.c] := rfl
theorem cells_set4 {L : List In} {i : Nat} (hi : i < L.length) (y : In) : ((((cellsG inc L).set (i * 4) (.int .i64 y.op)).set (i * 4 + 1) (.int .i64 y.a)).set (i * 4 + 2) (.int .i64 y.b)).set (i * 4 + 3) (.int .i64 y.c) = cellsG inc (L.set i y) := by
  have hl : (cellsG inc L).length = L.length * 4 := cellsG_len inc_len L
  apply List.ext_getElem?
  intro j
  rw [cellsG_set inc_len L i y hi j]
  by_cases h0 : j = i * 4
  · subst h0
    rw [if_pos (by omega), List.getElem?_set_ne (by omega), List.getElem?_set_ne (by omega), List.getElem?_set_ne (by omega), List.getElem?_set_self (by omega), inc_at]
    simp
  by_cases h1 : j = i * 4 + 1
  · subst h1
    rw [if_pos (by omega), List.getElem?_set_ne (by omega), List.getElem?_set_ne (by omega), List.getElem?_set_self (by simp; omega), inc_at]
    simp
  by_cases h2 : j = i * 4 + 2
  · subst h2
    rw [if_pos (by omega), List.getElem?_set_ne (by omega), List.getElem?_set_self (by simp; omega), inc_at]
    simp
  by_cases h3 : j = i * 4 + 3
  · subst h3
    rw [if_pos (by omega), List.getElem?_set_self (by simp; omega), inc_at]
    simp
  rw [if_neg (by omega), List.getElem?_set_ne (by omega), List.getElem?_set_ne (by omega), List.getElem?_set_ne (by omega), List.getElem?_set_ne (by omega)]
theorem cells_setA {L : List In} {i : Nat} {x : In} (hx : L[i]? = some x) (a : Int) : (cellsG inc L).set (i * 4 + 1) (.int .i64 a) = cellsG inc (L.set i ⟨x.op, a, x.b, x.c⟩) := by
  have hi := (List.getElem?_eq_some_iff.1 hx).1
  have hl : (cellsG inc L).length = L.length * 4 := cellsG_len inc_len L
  have hc : ∀ k, k < 4 → (cellsG inc L)[i * 4 + k]? = (inc x)[k]? := fun k hk => cellsG_at inc_len L i k x hx hk
  apply List.ext_getElem?
  intro j
  rw [cellsG_set inc_len L i _ hi j]
  by_cases h1 : j = i * 4 + 1
  · subst h1
    rw [if_pos (by omega), List.getElem?_set_self (by omega), inc_at]
    simp
  rw [List.getElem?_set_ne (by omega)]
  by_cases h : i * 4 ≤ j ∧ j < i * 4 + 4
  · rw [if_pos h]
    obtain ⟨k, rfl⟩ : ∃ k, j = i * 4 + k := ⟨j - i * 4, by omega⟩
    rw [hc k (by omega), show i * 4 + k - i * 4 = k by omega, inc_at, inc_at]
    have : k = 0 ∨ k = 2 ∨ k = 3 := by omega
    rcases this with rfl | rfl | rfl <;> rfl
  · rw [if_neg h]
structure MkM (w w' : World) (enc : Bool) (pc pe : Value) (gc ge : Nat) (L : List In) (E : List Int) : Prop where
  p : Blk w' w.heap.size 25 [.bool enc, pc, pe]
  r : Blk w' (w.heap.size + 1) 25 [.bool false, .slice none 0 0, .slice none 0 0]
  o : Blk w' (w.heap.size + 2) 25 [.bool enc, .slice (some ⟨gc, 0, none⟩) L.length L.length, .slice (some ⟨ge, 0, none⟩) E.length E.length]
  c : Blk w' gc 37 (cellsG inc L)
  e : Blk w' ge 3 (cellsL .i64 E)
  b : Below w.heap.size w w'
  lc : w.heap.size ≤ gc
  le : w.heap.size ≤ ge
section
variable {w w' w'' : World} {enc : Bool} {pc pe : Value} {gc ge : Nat} {L : List In} {E : List Int}
theorem MkM.later (h : MkM w w' enc pc pe gc ge L E) (hB : Below w'.heap.size w' w'') : MkM w w'' enc pc pe gc ge L E :=
  ⟨h.p.later hB, h.r.later hB, h.o.later hB, h.c.later hB, h.e.later hB, below_to h.b hB, h.lc, h.le⟩
theorem MkM.at (h : MkM w w' enc pc pe gc ge L E) {i : Nat} {x : In} (hx : L[i]? = some x) : w'.cell? ⟨gc, i * 4, none⟩ = some (.int .i64 x.op) ∧ w'.cell? ⟨gc, i * 4 + 1, none⟩ = some (.int .i64 x.a) ∧ w'.cell? ⟨gc, i * 4 + 2, none⟩ = some (.int .i64 x.b) ∧ w'.cell? ⟨gc, i * 4 + 3, none⟩ = some (.int .i64 x.c) := by
  have hc : ∀ k, k < 4 → w'.cell? ⟨gc, i * 4 + k, none⟩ = (inc x)[k]? := fun k hk => by rw [h.c.cell]; exact cellsG_at inc_len L i k x hx hk
  exact ⟨hc 0 (by omega), hc 1 (by omega), hc 2 (by omega), hc 3 (by omega)⟩
theorem blk_nt {w : World} {g g' : Nat} {t t' : TypeId} {xs ys : List Value} (h : Blk w g t xs) (h' : Blk w g' t' ys) (ht : t ≠ t') : g ≠ g' := fun e => by subst e; exact ht (blk_type h h')
theorem MkM.put4 (h : MkM w w' enc pc pe gc ge L E) {i : Nat} (hi : i < L.length) (y : In) : MkM w ((((w'.setCell ⟨gc, i * 4, none⟩ (.int .i64 y.op)).setCell ⟨gc, i * 4 + 1, none⟩ (.int .i64 y.a)).setCell ⟨gc, i * 4 + 2, none⟩ (.int .i64 y.b)).setCell ⟨gc, i * 4 + 3, none⟩ (.int .i64 y.c)) enc pc pe gc ge (L.set i y) E := by
  have hk := (((h.c.set (i * 4) (.int .i64 y.op)).set (i * 4 + 1) (.int .i64 y.a)).set (i * 4 + 2) (.int .i64 y.b)).set (i * 4 + 3) (.int .i64 y.c)
  rw [cells_set4 hi y] at hk
  have hp := blk_nt h.p h.c (by decide); have hr := blk_nt h.r h.c (by decide); have ho := blk_nt h.o h.c (by decide); have he := blk_nt h.e h.c (by decide)
  refine ⟨(((h.p.other _ _ hp).other _ _ hp).other _ _ hp).other _ _ hp, (((h.r.other _ _ hr).other _ _ hr).other _ _ hr).other _ _ hr, ?_, hk, (((h.e.other _ _ he).other _ _ he).other _ _ he).other _ _ he, below_set (below_set (below_set (below_set h.b _ _ _ h.lc) _ _ _ h.lc) _ _ _ h.lc) _ _ _ h.lc, h.lc, h.le⟩
  rw [List.length_set]
  exact (((h.o.other _ _ ho).other _ _ ho).other _ _ ho).other _ _ ho
theorem MkM.putA (h : MkM w w' enc pc pe gc ge L E) {i : Nat} {x : In} (hx : L[i]? = some x) (a : Int) : MkM w (w'.setCell ⟨gc, i * 4 + 1, none⟩ (.int .i64 a)) enc pc pe gc ge (L.set i ⟨x.op, a, x.b, x.c⟩) E := by
  have hk := h.c.set (i * 4 + 1) (.int .i64 a)
  rw [cells_setA hx a] at hk
  have hp := blk_nt h.p h.c (by decide); have hr := blk_nt h.r h.c (by decide); have ho := blk_nt h.o h.c (by decide); have he := blk_nt h.e h.c (by decide)
  refine ⟨h.p.other _ _ hp, h.r.other _ _ hr, ?_, hk, h.e.other _ _ he, below_set h.b _ _ _ h.lc, h.lc, h.le⟩
  rw [List.length_set]
  exact h.o.other _ _ ho
theorem MkM.putE (h : MkM w w' enc pc pe gc ge L E) {i : Nat} (x : Int) : MkM w (w'.setCell ⟨ge, i, none⟩ (.int .i64 x)) enc pc pe gc ge L (E.set i x) := by
  have hk := h.e.set i (.int .i64 x)
  have he : (cellsL .i64 E).set i (.int .i64 x) = cellsL .i64 (E.set i x) := by unfold cellsL; rw [List.map_set]
  rw [he] at hk
  have hp := blk_nt h.p h.e (by decide); have hr := blk_nt h.r h.e (by decide); have ho := blk_nt h.o h.e (by decide); have hc := blk_nt h.c h.e (by decide)
  refine ⟨h.p.other _ _ hp, h.r.other _ _ hr, ?_, h.c.other _ _ hc, hk, below_set h.b _ _ _ h.le, h.lc, h.le⟩
  rw [List.length_set]
  exact h.o.other _ _ ho
theorem MkM.row (h : MkM w w' enc pc pe gc ge L E) : IRow w' (some ⟨gc, 0, none⟩) L := blk_grow inc_len h.c
end
theorem makeC (n : Nat) (hn : n ≤ 1000000000) (w : World) : (Instr.makeSlice 22 (.int .i64 (n : Int)) (.int .i64 (n : Int))).run Try.prog w = .ok (.slice (some ⟨w.heap.size, 0, none⟩) n n) (w.alloc (.cells (madeCells #[.int .i64 0, .int .i64 0, .int .i64 0, .int .i64 0] (n * 4)) 37)) := by
  obtain ⟨i0, hi, hz0, hz1, hz2⟩ := info_parts infoIn
  have hb : (i0.bytes : Int) * (n : Int) ≤ 281474976710656 := by rw [hz2]; omega
  have hr := run_make (P := Try.prog) w 22 37 i0 (.agg #[.int .i64 0, .int .i64 0, .int .i64 0, .int .i64 0]) Try.underlying22 hi hz0 .i64 .i64 n n (by omega) (Int.le_refl _) hb (by omega)
  rw [Int.toNat_natCast, hz1] at hr
  exact hr
theorem makeE (n : Nat) (hn : n ≤ 1000000000) (w : World) : (Instr.makeSlice 23 (.int .i64 (n : Int)) (.int .i64 (n : Int))).run Try.prog w = .ok (.slice (some ⟨w.heap.size, 0, none⟩) n n) (w.alloc (.cells (madeCells #[.int .i64 0] n) 3)) := by
  obtain ⟨i0, hi, hz0, hz1, hz2⟩ := info_parts elI.info
  have hb : (i0.bytes : Int) * (n : Int) ≤ 281474976710656 := by rw [hz2]; omega
  have hr := run_make (P := Try.prog) w 23 3 i0 (.int .i64 0) Try.underlying23 hi hz0 .i64 .i64 n n (by omega) (Int.le_refl _) hb (by omega)
  rw [Int.toNat_natCast, hz1, Nat.mul_one] at hr
  exact hr
theorem madeE0 (n : Nat) : (madeCells #[.int .i64 0] n).toList = cellsL .i64 (List.replicate n 0) := by
  apply List.ext_getElem?
  intro i
  by_cases h : i < n <;> simp [madeCells, cellsL, Nat.mod_one, h]
theorem madeC0 (n : Nat) : (madeCells #[.int .i64 0, .int .i64 0, .int .i64 0, .int .i64 0] (n * 4)).toList = cellsG inc (List.replicate n in0) := by
  apply List.ext_getElem?
  intro i
  by_cases h : i < n * 4
  · have h1 : i / 4 < n := by omega
    have h2 := cellsG_at inc_len (List.replicate n in0) (i / 4) (i % 4) in0 (by simp [h1]) (by omega)
    rw [show i / 4 * 4 + i % 4 = i by omega] at h2
    rw [h2]
    have h4 : i % 4 < 4 := Nat.mod_lt _ (by omega)
    simp [madeCells, h]
    generalize i % 4 = m at *
    have : m = 0 ∨ m = 1 ∨ m = 2 ∨ m = 3 := by omega
    rcases this with rfl | rfl | rfl | rfl <;> rfl
  · have hl : (cellsG inc (List.replicate n in0)).length = n * 4 := by rw [cellsG_len inc_len]; simp
    rw [List.getElem?_eq_none (l := cellsG inc (List.replicate n in0)) (by omega)]
    simp [madeCells]
    omega
theorem mkm_of {w w2 wb : World} {enc : Bool} {pc pe : Value} (kp : Blk w2 w.heap.size 25 [.bool enc, pc, pe]) (kr : Blk w2 (w.heap.size + 1) 25 [.bool false, .slice none 0 0, .slice none 0 0]) (ko : Blk w2 (w.heap.size + 2) 25 [.bool enc, .slice none 0 0, .slice none 0 0]) (hb : Below w.heap.size w w2) (n m : Nat) {cC cE : Array Value} (hC : cC.toList = cellsG inc (List.replicate n in0)) (hE : cE.toList = cellsL .i64 (List.replicate m 0))
    (hwb : wb = (w2.alloc (.cells cC 37)).setCell ⟨w.heap.size + 2, 1, none⟩ (.slice (some ⟨w2.heap.size, 0, none⟩) n n)) :
    MkM w ((wb.alloc (.cells cE 3)).setCell ⟨w.heap.size + 2, 2, none⟩ (.slice (some ⟨wb.heap.size, 0, none⟩) m m)) enc pc pe w2.heap.size wb.heap.size (List.replicate n in0) (List.replicate m 0) := by
  have hsz : wb.heap.size = w2.heap.size + 1 := by rw [hwb]; simp
  have l1 := kp.lt; have l2 := kr.lt; have l3 := ko.lt
  have n1 : w.heap.size ≠ w.heap.size + 2 := by omega
  have n2 : w.heap.size + 1 ≠ w.heap.size + 2 := by omega
  have n3 : w2.heap.size ≠ w.heap.size + 2 := by omega
  have kp1 : Blk wb w.heap.size 25 [.bool enc, pc, pe] := by rw [hwb]; exact (kp.alloc _).other _ _ n1
  have kr1 : Blk wb (w.heap.size + 1) 25 [.bool false, .slice none 0 0, .slice none 0 0] := by rw [hwb]; exact (kr.alloc _).other _ _ n2
  have ko1 : Blk wb (w.heap.size + 2) 25 [.bool enc, .slice (some ⟨w2.heap.size, 0, none⟩) n n, .slice none 0 0] := by
    rw [hwb]
    have := (ko.alloc (.cells cC 37)).set 1 (.slice (some ⟨w2.heap.size, 0, none⟩) n n)
    simpa using this
  have kc1 : Blk wb w2.heap.size 37 (cellsG inc (List.replicate n in0)) := by rw [hwb, ← hC]; exact (Blk.newA w2 cC 37).other _ _ n3
  have hb1 : Below w.heap.size w wb := by
    rw [hwb]
    exact below_set (hb.alloc hb.size _) _ _ _ (by omega)
  have ko2 := (ko1.alloc (.cells cE 3)).set 2 (.slice (some ⟨wb.heap.size, 0, none⟩) m m)
  refine ⟨(kp1.alloc _).other _ _ n1, (kr1.alloc _).other _ _ n2, ?_, (kc1.alloc _).other _ _ n3, ?_, below_set (hb1.alloc hb1.size _) _ _ _ (by omega), hb.size, hb1.size⟩
  · rw [List.length_replicate, List.length_replicate]
    simpa using ko2
  · rw [← hE]
    exact (Blk.newA wb cE 3).other _ _ (by simp only; omega)
def MadeTo (enc : Bool) (most : Nat) (w : World) (e : Ending) (w' : World) : Prop := ∃ vC vE C E, e = .returned (.agg #[.bool enc, vC, vE]) ∧ Chk enc C E ∧ 0 < C.length ∧ C.length ≤ most + 1 ∧ 0 < E.length ∧ COwn w' w.heap.size vC C ∧ IOwn w' w.heap.size vE E ∧ Below w.heap.size w w'
theorem setP {w : World} {g : Nat} {a b c : Value} (h : Blk w g 25 [a, b, c]) (x y z : Value) : Blk (((w.setCell ⟨g, 0, none⟩ x).setCell ⟨g, 1, none⟩ y).setCell ⟨g, 2, none⟩ z) g 25 [x, y, z] := by
  have := ((h.set 0 x).set 1 y).set 2 z
  simpa using this
theorem retP {fn : Func} {p : Tmp} (h : fn.results = #[.cell p 25]) {R : Ending → World → Prop} {tmps : Array Value} {g : Nat} {w : World} {x y z : Value} (hp : tmps.getD p undef = .pointer (some ⟨g, 0, none⟩)) (hK : Blk w g 25 [x, y, z]) (hR : R (.returned (.agg #[x, y, z])) w) :
    bodyPost Try.prog fn R Exit.ret ⟨tmps, []⟩ w :=
  bodyPost_ret (results_cell_row h _ _ _ _ #[x, y, z] _ _ hp (show w.heap[g]? = some (.cells #[x, y, z] 25 (0, 0)) from hK) Try.underlying25 rfl (by show _ = some 3; kernel_rfl)) rfl hR
theorem below_wr3 {B : Nat} {w w' : World} (h : Below B w w') {g : Nat} (hg : B ≤ g) (x y z : Value) : Below B w (((w'.setCell ⟨g, 0, none⟩ x).setCell ⟨g, 1, none⟩ y).setCell ⟨g, 2, none⟩ z) := below_set (below_set (below_set h _ _ _ hg) _ _ _ hg) _ _ _ hg
theorem upd3 (w : World) (g : Nat) (x y z : Value) : Upd (fun k => k = g) w (((w.setCell ⟨g, 0, none⟩ x).setCell ⟨g, 1, none⟩ y).setCell ⟨g, 2, none⟩ z) := by
  have h1 : Upd (fun k => k = g) w (w.setCell ⟨g, 0, none⟩ x) := (Upd.refl (fun k => k = g) w).set ⟨g, 0, none⟩ x (.inl rfl)
  have h2 := h1.set ⟨g, 1, none⟩ y (.inl rfl)
  exact h2.set ⟨g, 2, none⟩ z (.inl rfl)
theorem made_ret {w w' : World} {enc : Bool} {pc pe : Value} {gc ge most : Nat} {L : List In} {E : List Int} {tmps : Array Value} {p : Tmp} (hfn : Try.f13.results = #[.cell p 25]) (hp : tmps.getD p undef = .pointer (some ⟨w.heap.size + 1, 0, none⟩)) (h : MkM w w' enc pc pe gc ge L E) (hk : Chk enc L E) (h0 : 0 < L.length) (hm : L.length ≤ most + 1) (hm2 : most ≤ 1000) (hE : 0 < E.length) :
    bodyPost Try.prog Try.f13 (MadeTo enc most w) Exit.ret ⟨tmps, []⟩ (((w'.setCell ⟨w.heap.size + 1, 0, none⟩ (.bool enc)).setCell ⟨w.heap.size + 1, 1, none⟩ (.slice (some ⟨gc, 0, none⟩) L.length L.length)).setCell ⟨w.heap.size + 1, 2, none⟩ (.slice (some ⟨ge, 0, none⟩) E.length E.length)) := by
  refine retP hfn hp (setP h.r _ _ _) ?_
  have hU : Upd (fun k => k = w.heap.size + 1) w' (((w'.setCell ⟨w.heap.size + 1, 0, none⟩ (.bool enc)).setCell ⟨w.heap.size + 1, 1, none⟩ (.slice (some ⟨gc, 0, none⟩) L.length L.length)).setCell ⟨w.heap.size + 1, 2, none⟩ (.slice (some ⟨ge, 0, none⟩) E.length E.length)) := upd3 _ _ _ _ _
  have hc := h.c.upd hU (blk_nt h.c h.r (by decide))
  have he := h.e.upd hU (blk_nt h.e h.r (by decide))
  have hl : (cellsG inc L).length = L.length * 4 := cellsG_len inc_len L
  have hl2 : (cellsL .i64 E).length = E.length := by simp [cellsL]
  refine ⟨_, _, L, E, rfl, hk, h0, hm, hE, ?_, ?_, below_wr3 h.b (by omega) _ _ _⟩
  · have := ownS_of_blk (B := w.heap.size) (n := L.length) (c := 4) (cap := L.length) hc h.lc hl (Nat.le_refl _) (by unfold maxLen; omega)
    rw [← hl, List.take_length] at this
    exact this
  · have := ownS_of_blk (B := w.heap.size) (n := E.length) (c := 1) (cap := E.length) he h.le (by omega) (Nat.le_refl _) (by have := hk.ne; unfold maxLen; omega)
    rw [Nat.mul_one, ← hl2, List.take_length] at this
    unfold IOwn
    rw [← hl2]
    exact this
theorem self_ret {w w' : World} {enc : Bool} {vC vE x y z : Value} {most : Nat} {L : List In} {E : List Int} {tmps : Array Value} {p : Tmp} (hfn : Try.f13.results = #[.cell p 25]) (hp : tmps.getD p undef = .pointer (some ⟨w.heap.size + 1, 0, none⟩)) (hr : Blk w' (w.heap.size + 1) 25 [x, y, z]) (hC : COwn w' w.heap.size vC L) (hE' : IOwn w' w.heap.size vE E) (hb : Below w.heap.size w w') (hk : Chk enc L E) (h0 : 0 < L.length) (hm : L.length ≤ most) (hE : 0 < E.length) :
    bodyPost Try.prog Try.f13 (MadeTo enc most w) Exit.ret ⟨tmps, []⟩ (((w'.setCell ⟨w.heap.size + 1, 0, none⟩ (.bool enc)).setCell ⟨w.heap.size + 1, 1, none⟩ vC).setCell ⟨w.heap.size + 1, 2, none⟩ vE) := by
  refine retP hfn hp (setP hr _ _ _) ?_
  have hU : Upd (fun k => k = w.heap.size + 1) w' (((w'.setCell ⟨w.heap.size + 1, 0, none⟩ (.bool enc)).setCell ⟨w.heap.size + 1, 1, none⟩ vC).setCell ⟨w.heap.size + 1, 2, none⟩ vE) := upd3 _ _ _ _ _
  refine ⟨_, _, L, E, rfl, hk, h0, by omega, hE, ownS_upd hC hU (fun k e hk => ?_), hE'.upd hU (fun k e hk => ?_), below_wr3 hb (by omega) _ _ _⟩
  · subst hk; exact notC hC hr (by decide) e
  · subst hk; exact notI hE' hr (by decide) e
def mkI : In := ⟨-901, 0, 0, 0⟩
theorem leC (w : World) (a : Option Addr) (c : Nat) (C : List In) (hC : IRow w a C) (hn : a = none → c = 0) (hl : C.length ≤ 1000000) :
    ∃ v1 w1 g2 c2 w2, (Builtin.append_ #[22, 22] 22 #[.slice none 0 0, .slice a C.length c]).run Try.prog w = .ok v1 w1 ∧
      (Builtin.append_ #[22, 22] 22 #[v1, .slice (some ⟨w1.heap.size, 0, none⟩) 1 1]).run Try.prog (w1.alloc (.cells #[.int .i64 (-901), .int .i64 0, .int .i64 0, .int .i64 0] 37)) = .ok (.slice (some ⟨g2, 0, none⟩) (C.length + 1) c2) w2 ∧
      COwn w2 w.heap.size (.slice (some ⟨g2, 0, none⟩) (C.length + 1) c2) (C ++ [mkI]) ∧ Below w.heap.size w w2 ∧ C.length + 1 ≤ c2 := by
  obtain ⟨v1, w1, h1, h2, h3⟩ := run_copyG (P := Try.prog) inc_len inc_one Try.underlying22 infoIn rfl (by decide) w a C.length c C rfl hC hn (by unfold maxLen; omega) (by omega)
  have h2r : COwn w1 w.heap.size v1 C := h2
  obtain ⟨g, cap, w2, k1, k2, k3, k4⟩ := h2r.push mkI (by omega) h3.size
  refine ⟨v1, w1, g, cap, w2, h1, k1, k2, h3.trans (k3.below _ h3.size (fun k hk => (World.ownsRow.lt h2r k hk).1)), ?_⟩
  obtain ⟨a', c', e, hc, -, -⟩ := k2.row
  injection e with _ _ e
  rw [e]
  simpa using hc
theorem leE (w : World) (a : Option Addr) (c : Nat) (E : List Int) (hE : Row .i64 w a E) (hn : a = none → c = 0) (hl : E.length ≤ 1000000) :
    ∃ v1 w1 g2 c2 w2, (Builtin.append_ #[23, 23] 23 #[.slice none 0 0, .slice a E.length c]).run Try.prog w = .ok v1 w1 ∧
      (Builtin.append_ #[23, 23] 23 #[v1, .slice (some ⟨w1.heap.size, 0, none⟩) 1 1]).run Try.prog (w1.alloc (.cells #[.int .i64 (-902)] 3)) = .ok (.slice (some ⟨g2, 0, none⟩) (E.length + 1) c2) w2 ∧
      IOwn w2 w.heap.size (.slice (some ⟨g2, 0, none⟩) (E.length + 1) c2) (E ++ [-902]) ∧ Below w.heap.size w w2 ∧ E.length + 1 ≤ c2 := by
  obtain ⟨v1, w1, h1, h2, h3⟩ := run_copy elI w 23 w.heap.size a E.length c E rfl hE hn (by unfold maxLen; omega) (by omega) (Nat.le_refl _)
  have h2r : IOwn w1 w.heap.size v1 E := h2
  have hb1 : Below w.heap.size w w1 := (Below.refl _ w).grown h3 (Nat.le_refl _) (fun k hk => by cases hk)
  obtain ⟨g, cap, w2, k1, k2, k3, k4⟩ := h2r.push (-902) (by omega) hb1.size
  refine ⟨v1, w1, g, cap, w2, h1, k1, k2, hb1.trans (k3.below _ hb1.size (fun k hk => (World.ownsRow.lt h2r k hk).1)), ?_⟩
  obtain ⟨a', c', e, -, -, hc⟩ := k2.row
  injection e with _ _ e
  rw [e]
  simpa using hc
structure LnP (w : World) (B : Nat) (gC cC gE cE : Nat) (C : List In) (E : List Int) : Prop where
  c : COwn w B (.slice (some ⟨gC, 0, none⟩) (C.length + 1) cC) (C ++ [mkI])
  e : IOwn w B (.slice (some ⟨gE, 0, none⟩) (E.length + 1) cE) (E ++ [-902])
  cc : C.length + 1 ≤ cC
  ce : E.length + 1 ≤ cE
section
variable {w w' : World} {B gC cC gE cE : Nat} {C : List In} {E : List Int}
theorem LnP.later (h : LnP w B gC cC gE cE C E) (hB : Below w.heap.size w w') : LnP w' B gC cC gE cE C E := ⟨h.c.later hB, h.e.later hB, h.cc, h.ce⟩
theorem LnP.upd (h : LnP w B gC cC gE cE C E) {S : Nat → Prop} (hu : Upd S w w') (h1 : ¬ S gC) (h2 : ¬ S gE) : LnP w' B gC cC gE cE C E :=
  ⟨ownS_upd h.c hu (fun k hk hS => by have := own_is hk; subst this; exact h1 hS), h.e.upd hu (fun k hk hS => by have := own_is hk; subst this; exact h2 hS), h.cc, h.ce⟩
end
def LeTo (enc : Bool) (C : List In) (E : List Int) (w : World) (e : Ending) (w' : World) : Prop := ∃ gC cC gE cE, e = .returned (.agg #[.bool enc, .slice (some ⟨gC, 0, none⟩) C.length cC, .slice (some ⟨gE, 0, none⟩) E.length cE]) ∧ Hid (LnP w' w.heap.size gC cC gE cE C E) ∧ Hid (Below w.heap.size w w')
set_option maxRecDepth 100000 in
set_option maxHeartbeats 8000000 in
theorem lend_any (enc : Bool) (ac ae : Option Addr) (cc ce : Nat) (C : List In) (E : List Int) (w : World) (hCl : C.length ≤ 1000000) (hEl : E.length ≤ 1000000) (hcn : ac = none → cc = 0) (hen : ae = none → ce = 0) (hr : Hid (IRow w ac C)) (he : Hid (Row .i64 w ae E)) :
    Calls Try.prog 14 #[.agg #[.bool enc, .slice ac C.length cc, .slice ae E.length ce]] w fun e w' => LeTo enc C E w e w' := by
  have hB := below2 w (.cells #[.bool enc, .slice ac C.length cc, .slice ae E.length ce] 25) (.cells #[.bool false, .slice none 0 0, .slice none 0 0] 25)
  obtain ⟨k1, k2⟩ := blk2 w #[.bool enc, .slice ac C.length cc, .slice ae E.length ce] #[.bool false, .slice none 0 0, .slice none 0 0] 25 25
  obtain ⟨w0, hw0⟩ : ∃ wx, wx = (w.alloc (.cells #[.bool enc, .slice ac C.length cc, .slice ae E.length ce] 25)).alloc (.cells #[.bool false, .slice none 0 0, .slice none 0 0] 25) := ⟨_, rfl⟩
  rw [← hw0] at hB k1 k2
  have HB0 := hide_ hB
  obtain ⟨v1, w1, gC, cC, w2, hr1, hr2, hC2, hb2, hcC⟩ := leC w0 ac cc C (hr.out.later hB) hcn hCl
  obtain ⟨v3, w3, gE, cE, w4, hr3, hr4, hE4, hb4, hcE⟩ := leE w2 ae ce E ((he.out.later hB).later hb2) hen hEl
  have K1 := hide_ ((k1.later hb2).later hb4)
  have K2 := hide_ ((k2.later hb2).later hb4)
  have q1 := k1.cell 1
  have q2 := (k1.later hb2).cell 2
  simp at q1 q2
  have HR1 := hide_ hr1
  have HR2 := hide_ hr2
  have HR3 := hide_ hr3
  have HR4 := hide_ hr4
  have HB4 := hide_ (below_to hB (below_to hb2 hb4))
  have HLn : Hid (LnP w4 w.heap.size gC cC gE cE C E) := hide_ ⟨own_base (hC2.later hb4) hB.size, own_base hE4 (Nat.le_trans hB.size hb2.size), hcC, hcE⟩
  have hcC' : (C.length : Int) ≤ cC := by omega
  have hcE' : (E.length : Int) ≤ cE := by omega
  clear k1 k2 hr1 hr2 hr3 hr4 hC2 hE4 hb2 hb4 hB
  go_enter Try.func14, Try.ntmps14
  go_upto_region 1 with fail
  rw [← hw0]
  clear hw0
  go_upto_region 3 with (first
    | (at_builtin; have _t := HR1; refine wpList_append_run rfl (.const (.slice none 0 0)) (.tmp 6) 22 22 rfl rfl rfl HR1.out ?_; clear HR1)
    | (at_builtin; have _t := HR2; refine wpList_append_run rfl (.tmp 7) (.tmp 9) 22 22 rfl rfl rfl HR2.out ?_; clear HR2 q1)
    | (at_builtin; have _t := HR3; refine wpList_append_run rfl (.const (.slice none 0 0)) (.tmp 12) 23 23 rfl rfl rfl HR3.out ?_; clear HR3)
    | (at_builtin; have _t := HR4; refine wpList_append_run rfl (.tmp 13) (.tmp 14) 23 23 rfl rfl rfl HR4.out ?_; clear HR4 q2))
  have HSS : Hid (∀ w', Below w4.heap.size w4 w' → (fun w' => w'.cell? ⟨w.heap.size, 0, none⟩ = some (.bool enc) ∧ w'.cell? ⟨w.heap.size, 1, none⟩ = some (.slice ac C.length cc) ∧ w'.cell? ⟨w.heap.size, 2, none⟩ = some (.slice ae E.length ce)) w') := hide_ (fun w' hb => ⟨(K1.out.later hb).cell 0, (K1.out.later hb).cell 1, (K1.out.later hb).cell 2⟩)
  refine wp_region_last 13 (fun w' => w'.cell? ⟨w.heap.size, 0, none⟩ = some (.bool enc) ∧ w'.cell? ⟨w.heap.size, 1, none⟩ = some (.slice ac C.length cc) ∧ w'.cell? ⟨w.heap.size, 2, none⟩ = some (.slice ae E.length ce)) (by kernel_rfl) (HSS.out _ ((Below.refl w4.heap.size w4).drew)) (fun hHeld => ?_)
  refine wpAnyF_take [13] (by kernel_rfl) (i := 0) (v := ?vl1) rfl (by kernel_rfl) (by kernel_rfl) (by kernel_rfl) (fun _ _ _ h => h) (Or.inl ⟨by kernel_rfl, ?hyl1⟩) hHeld ?restl1
  case hyl1 => intro w' hSw; (try dsimp only at hSw); go_simp; try with_reducible rfl
  simp only [Act.put]
  try dsimp only
  refine wpAnyF_take [13] (by kernel_rfl) (i := 1) (v := ?vl2) rfl (by kernel_rfl) (by kernel_rfl) (by kernel_rfl) (fun _ _ _ h => h) (Or.inl ⟨by kernel_rfl, ?hyl2⟩) hHeld ?restl2
  case hyl2 => intro w' hSw; (try dsimp only at hSw); go_simp; try with_reducible rfl
  simp only [Act.put]
  try dsimp only
  refine wpAnyF_take [13] (by kernel_rfl) (i := 2) (v := ?vl3) rfl (by kernel_rfl) (by kernel_rfl) (by kernel_rfl) (fun _ _ _ h => h) (Or.inl ⟨by kernel_rfl, ?hyl3⟩) hHeld ?restl3
  case hyl3 => intro w' hSw; (try dsimp only at hSw); go_simp; try with_reducible rfl
  simp only [Act.put]
  try dsimp only
  refine wpAnyF_take [13] (by kernel_rfl) (i := 3) (v := ?vl4) rfl (by kernel_rfl) (by kernel_rfl) (by kernel_rfl) (fun _ _ _ h => h) (Or.inl ⟨by kernel_rfl, ?hyl4⟩) hHeld ?restl4
  case hyl4 => intro w' hSw; (try dsimp only at hSw); go_simp; try with_reducible rfl
  simp only [Act.put]
  try dsimp only
  refine wpAnyF_take [13] (by kernel_rfl) (i := 4) (v := ?vl5) rfl (by kernel_rfl) (by kernel_rfl) (by kernel_rfl) (fun _ _ _ h => h) (Or.inl ⟨by kernel_rfl, ?hyl5⟩) hHeld ?restl5
  case hyl5 => intro w' hSw; (try dsimp only at hSw); go_simp; try with_reducible rfl
  simp only [Act.put]
  try dsimp only
  refine wpAnyF_take [13] (by kernel_rfl) (i := 5) (v := ?vl6) rfl (by kernel_rfl) (by kernel_rfl) (by kernel_rfl) (fun _ _ _ h => h) (Or.inl ⟨by kernel_rfl, ?hyl6⟩) hHeld ?restl6
  case hyl6 => intro w' hSw; (try dsimp only at hSw); go_simp; try with_reducible rfl
  simp only [Act.put]
  try dsimp only
  refine wpAnyF_take [13] (by kernel_rfl) (i := 6) (v := ?vl7) rfl (by kernel_rfl) (by kernel_rfl) (by kernel_rfl) (fun _ _ _ h => h) (Or.inl ⟨by kernel_rfl, ?hyl7⟩) hHeld ?restl7
  case hyl7 => intro w' hSw; (try dsimp only at hSw); go_simp; try with_reducible rfl
  simp only [Act.put]
  try dsimp only
  refine wpAnyF_take [13] (by kernel_rfl) (i := 7) (v := ?vl8) rfl (by kernel_rfl) (by kernel_rfl) (by kernel_rfl) (fun _ _ _ h => h) (Or.inl ⟨by kernel_rfl, ?hyl8⟩) hHeld ?restl8
  case hyl8 => intro w' hSw; (try dsimp only at hSw); go_simp; try with_reducible rfl
  simp only [Act.put]
  try dsimp only
  refine wpAnyF_take [13] (by kernel_rfl) (i := 8) (v := ?vl9) rfl (by kernel_rfl) (by kernel_rfl) (by kernel_rfl) (fun _ _ _ h => h) (Or.inl ⟨by kernel_rfl, ?hyl9⟩) hHeld ?restl9
  case hyl9 => intro w' hSw; (try dsimp only at hSw); go_simp; try with_reducible rfl
  simp only [Act.put]
  try dsimp only
  refine wpAnyF_take [13] (by kernel_rfl) (i := 9) (v := ?vl10) rfl (by kernel_rfl) (by kernel_rfl) (by kernel_rfl) (fun _ _ _ h => h) (Or.inl ⟨by kernel_rfl, ?hyl10⟩) hHeld ?restl10
  case hyl10 => intro w' hSw; (try dsimp only at hSw); go_simp; try with_reducible rfl
  simp only [Act.put]
  try dsimp only
  refine wpAnyF_take [13] (by kernel_rfl) (i := 10) (v := ?vl11) rfl (by kernel_rfl) (by kernel_rfl) (by kernel_rfl) (fun _ _ _ h => h) (Or.inl ⟨by kernel_rfl, ?hyl11⟩) hHeld ?restl11
  case hyl11 => intro w' hSw; (try dsimp only at hSw); go_simp; try with_reducible rfl
  simp only [Act.put]
  try dsimp only
  refine wpAnyF_take [13] (by kernel_rfl) (i := 11) (v := ?vl12) rfl (by kernel_rfl) (by kernel_rfl) (by kernel_rfl) (fun _ _ _ h => h) (Or.inl ⟨by kernel_rfl, ?hyl12⟩) hHeld ?restl12
  case hyl12 => intro w' hSw; (try dsimp only at hSw); go_simp; try with_reducible rfl
  simp only [Act.put]
  try dsimp only
  refine wpAnyF_take [13] (by kernel_rfl) (i := 12) (v := ?vl13) rfl (by kernel_rfl) (by kernel_rfl) (by kernel_rfl) (fun _ _ _ h => h) (Or.inl ⟨by kernel_rfl, ?hyl13⟩) hHeld ?restl13
  case hyl13 => intro w' hSw; (try dsimp only at hSw); go_simp; try with_reducible rfl
  simp only [Act.put]
  try dsimp only
  refine wpAnyF_ready (rs := [13]) (by kernel_rfl) (by simp) ?_
  refine AllReadyF.last rfl (fun K hK => ?_)
  have KD := hide_ (K2.out.later ((Below.refl w4.heap.size w4).drew))
  have z0 := K2.out.cell 0; have z1 := K2.out.cell 1; have z2 := K2.out.cell 2
  have zf := fun i => K2.out.frozen i
  simp at z0 z1 z2
  go_simp
  refine hK.out _ _ ?_
  clear hK K
  refine wpAnyF_done (by kernel_rfl) ?_ _
  have KZ := hide_ (setP KD.out (.bool enc) (.slice (some ⟨gC, 0, none⟩) C.length cC) (.slice (some ⟨gE, 0, none⟩) E.length cE))
  have HBz := hide_ (below_set (below_set (below_set (below_to HB4.out ((Below.refl w4.heap.size w4).drew)) (w.heap.size + 1) 0 (.bool enc) (by omega)) (w.heap.size + 1) 1 (.slice (some ⟨gC, 0, none⟩) C.length cC) (by omega)) (w.heap.size + 1) 2 (.slice (some ⟨gE, 0, none⟩) E.length cE) (by omega))
  have HLz := hide_ ((HLn.out.later ((Below.refl w4.heap.size w4).drew)).upd ((((Upd.refl (fun k => k = w.heap.size + 1) w4.drew).set ⟨w.heap.size + 1, 0, none⟩ (.bool enc) (.inl rfl)).set ⟨w.heap.size + 1, 1, none⟩ (.slice (some ⟨gC, 0, none⟩) C.length cC) (.inl rfl)).set ⟨w.heap.size + 1, 2, none⟩ (.slice (some ⟨gE, 0, none⟩) E.length cE) (.inl rfl)) (fun e => notC (HLn.out.later ((Below.refl w4.heap.size w4).drew)).c KD.out (by decide) (by rw [← e]; rfl)) (fun e => notI (HLn.out.later ((Below.refl w4.heap.size w4).drew)).e KD.out (by decide) (by rw [← e]; rfl)))
  clear hHeld z0 z1 z2 zf
  go_wp2
  exact retP rfl rfl KZ.out ⟨gC, cC, gE, cE, rfl, HLz, HBz⟩
end Go.Proofs.Ytiojpohmgjdgfaa
