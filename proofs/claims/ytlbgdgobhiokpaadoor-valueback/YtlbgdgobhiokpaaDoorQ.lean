/- enter, end. -/
import Derived.Test.YtlbgdgobhiokpaaDoorP
import Derived.Deep.RegionLaw
namespace Go.Proofs.YtlbgdgobhiokpaaDoor
open Go.RowKit
set_option linter.unusedVariables false

set_option maxRecDepth 100000 in
set_option maxHeartbeats 8000000 in
theorem enter_any (B b p : Nat) (k n : Int) (s : ByteArray) (vn vo : Value) (N : List Nd) (O : List Nat) (en : Bool) (w : World) (hR : Hid (Rdr B w b s p vn vo N O en)) (hO : ∀ o ∈ O, o < N.length) (hN : N.length ≤ 1500000) (hOl : O.length ≤ 1500000) (hc : ∀ o, 0 ≤ (N.getD o nil0).2.2 ∧ (N.getD o nil0).2.2 ≤ 2000000) :
    Calls Tryd.prog 73 #[.pointer (some ⟨b, 0, none⟩), .int .i64 k, .int .u64 n] w fun e w' => e = .returned (.tuple #[]) ∧ ∃ vn' vo', Hid (Rdr B w' b s p vn' vo' (addN N O k n) (N.length :: O) en) ∧ Hid (KeptR B w w') := by
  go_enter Tryd.func73, Tryd.ntmps73
  go_wp2_with fail
  refine (add_any B b p k n s vn vo N O en w hR hO (by omega) (by omega) hc).mono ?_; rintro e w1 ⟨rfl, vn1, HR1, HK1⟩
  have hlen : (addN N O k n).length = N.length + 1 := by cases O <;> simp [addN, incK]
  have hbl := HR1.out.blk.lt
  obtain ⟨g', cap', w', r1, k3, k2, z3, hR', hK'⟩ := Rdr.pusho (w := w1.drew) HR1.out.drew N.length (by omega)
  obtain ⟨gn, cn, hvn, -, hn1, hn2, -⟩ := Rdr.node (o := 0) HR1.out (by omega)
  rw [hlen] at hvn hn1
  subst hvn
  unfold maxLen at hn2
  have c2 := HR1.out.c2; have c3 := HR1.out.c3; have z1 := HR1.out.blk.frozen 3
  have R1 : Hid ((Builtin.append_ #[43, 43] 43 #[vo, .slice (some ⟨w1.heap.size, 0, none⟩) 1 1]).run Tryd.prog (w1.alloc (.cells #[.int .i64 (N.length : Int)] 3)).drew = .ok (.slice (some ⟨g', 0, none⟩) (O.length + 1) cap') w') := r1
  have HR2 : Hid _ := hR'
  have HK2 : Hid (KeptR B w _) := HK1.out.drew.trans hK'
  have hw1 : IntKind.i64.wrap (N.length : Int) = N.length := i64w _ (by omega)
  have hw2 : IntKind.i64.wrap ((N.length : Int) + 1 - 1) = N.length := by rw [i64w _ (by omega)]; omega
  have HSa : Hid (∀ ob, (w1.alloc ob).cell? ⟨b, 2, none⟩ = some (.slice (some ⟨gn, 0, none⟩) (N.length + 1) cn)) := fun ob => (cell_alloc w1 ob _ _ hbl).trans c2
  have k4 := HR2.out.c2
  clear r1 hR' hK' HR1 HK1 hR hO hc
  go_wp2_with fail
  have c3a : ∀ ob, (w1.alloc ob).cell? ⟨b, 3, none⟩ = some vo := fun ob => (cell_alloc w1 ob _ _ hbl).trans c3
  have c2a := HSa.out
  go_region_law (refine step_append_run rfl (.tmp 14) (.tmp 21) 43 43 rfl rfl rfl R1.out ?_)
  all_goals go_wp2
  all_goals go_end0
  all_goals exact ⟨rfl, _, _, HR2, HK2⟩
set_option maxRecDepth 100000 in
set_option maxHeartbeats 8000000 in
theorem end_any (B b p : Nat) (s : ByteArray) (vn vo : Value) (N : List Nd) (O : List Nat) (en : Bool) (w : World) (hR : Hid (Rdr B w b s p vn vo N O en)) (hO : ∀ o ∈ O, o < N.length) (hN : N.length ≤ 2000000) (hOl : O.length ≤ 2000000) :
    Calls Tryd.prog 61 #[.pointer (some ⟨b, 0, none⟩)] w fun e w' => e = .returned (.tuple #[]) ∧ ∃ vo', Hid (Rdr B w' b s p vn vo' N (popO N O) true) ∧ Hid (KeptR B w w') := by
  have c4 := hR.out.c4
  have z4 := hR.out.blk.frozen 4
  have HR0 : Hid (Rdr B (w.setCell ⟨b, 4, none⟩ (.bool true)) b s p vn vo N O true) := hR.out.seten true
  have HK0 : Hid (KeptR B w (w.setCell ⟨b, 4, none⟩ (.bool true))) := hR.out.keptb 4 _
  go_enter Tryd.func61, Tryd.ntmps61
  go_wp2_with fail
  go_loopw [] (fun wr => ∃ (vo' : Value) (O' : List Nat), (∀ o ∈ O', o < N.length) ∧ O'.length ≤ 2000000 ∧ Hid (popO N O' = popO N O) ∧ Hid (Rdr B wr b s p vn vo' N O' true) ∧ Hid (KeptR B w wr)) (fun wr => match wr.cell? ⟨b, 3, none⟩ with | some (.slice _ n _) => n | _ => 0)
  case atStart => exact ⟨vo, O, hO, hOl, rfl, HR0, HK0⟩
  case round =>
    clear HR0 HK0 c4 z4 hR hO hOl
    obtain ⟨vo, O', hO, hOl, HP, HR, HK⟩ := hrel
    have c2 := HR.out.c2; have c3 := HR.out.c3
    have z3 := HR.out.blk.frozen 3
    cases O' with
    | nil =>
      obtain ⟨a, c, rfl⟩ := HR.out.vo_nil
      go_wp2_with fail
      go_quiet (fail)
      go_wp2
      go_end0
      exact ⟨rfl, _, by rw [← HP.out]; exact HR.out.drewN _, HK.out.drewN _⟩
    | cons o O2 =>
      obtain ⟨go, co, hvo, -, ho1, ho2, k0, hgo, -⟩ := HR.out.top
      obtain ⟨go', co', hvo', -, -, HR2⟩ := HR.out.popo
      rw [hvo] at hvo'
      have e2 : go = go' ∧ co = co' := by simpa using hvo'
      obtain ⟨rfl, rfl⟩ := e2
      have hoN : o < N.length := hO o (by simp)
      obtain ⟨gn, cn, hvn, -, hn1, hn2, -, n0, -⟩ := HR.out.node hoN
      have HP1 : Hid ((if (N.getD o nil0).1 = 5 then popO N O2 else o :: O2) = popO N O) := HP.out
      have HR3 : Hid (∀ q, Rdr B ((wr.drewN q).setCell ⟨b, 3, none⟩ (.slice (some ⟨go, 0, none⟩) O2.length co)) b s p vn (.slice (some ⟨go, 0, none⟩) O2.length co) N O2 true) := fun q => by
        obtain ⟨go', co', hvo2, -, -, HR4⟩ := (HR.out.drewN q).popo
        rw [hvo] at hvo2
        have e2 : go = go' ∧ co = co' := by simpa using hvo2
        obtain ⟨rfl, rfl⟩ := e2
        exact HR4
      have hO2 : ∀ o ∈ O2, o < N.length := fun o ho => hO o (by simp [ho])
      subst hvo hvn
      generalize (N.getD o nil0).1 = xk at *
      unfold maxLen at ho2 hn2
      have hoN' : (o : Int) < N.length := by omega
      have hOl2 : O2.length ≤ 2000000 := by simp at hOl; omega
      have hw1 : IntKind.i64.wrap (O2.length : Int) = O2.length := i64w _ (by omega)
      have hw2 : IntKind.i64.wrap ((O2.length : Int) + 1 - 1) = O2.length := by rw [i64w _ (by omega)]; omega
      have hw3 : (O2.length : Int) < O2.length + 1 := by omega
      clear HR2 hvo' HP hO
      by_cases hx : xk = 5
      · subst hx
        rw [if_pos rfl] at HP1
        go_wp2_with fail
        go_quiet (fail)
        go_wp2_with fail
        go_region
        go_wp2
        go_roundw
        case rel => exact ⟨_, O2, hO2, hOl2, HP1, HR3.out _, (HK.out.drewN _).trans ((HR.out.drewN _).keptb 3 _)⟩
        case measure => rw [(HR3.out _).c3, c3]; simp
      · have hb5 : (xk == 5) = false := by simpa using hx
        rw [if_neg hx] at HP1
        go_wp2_with fail
        go_quiet (fail)
        go_wp2
        go_end0
        exact ⟨rfl, _, HP1.out ▸ HR.out.drewN _, HK.out.drewN _⟩
end Go.Proofs.YtlbgdgobhiokpaaDoor
