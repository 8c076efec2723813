import Derived.Test.YtjamfbpdepahnaaGreatPart33
namespace Go.Proofs.YtjamfbpdepahnaaGreat
open Go.RowKit
set_option linter.unusedVariables false
set_option linter.unusedSimpArgs false
theorem infoBo : (Tryz.prog.info? 4).map (fun i => (i.zero, i.size, i.bytes)) = some (some (.bool false), 1, 1) := by kernel_rfl
theorem makeBo (n : Nat) (hn : n ≤ 1000000000) (w : World) : (Instr.makeSlice 43 (.int .i64 (n : Int)) (.int .i64 (n : Int))).run Tryz.prog w = .ok (.slice (some ⟨w.heap.size, 0, none⟩) n n) (w.alloc (.cells (madeCells #[.bool false] n) 4)) := by
  obtain ⟨i0, hi, hz0, hz1, hz2⟩ := info_parts infoBo
  have hb : (i0.bytes : Int) * (n : Int) ≤ 281474976710656 := by rw [hz2]; omega
  have hr := run_make (P := Tryz.prog) w 43 4 i0 (.bool false) Tryz.underlying43 hi hz0 .i64 .i64 n n (by omega) (Int.le_refl _) hb (by omega)
  rw [Int.toNat_natCast, hz1, Nat.mul_one] at hr
  exact hr
theorem madeBo0 (n : Nat) : (madeCells #[.bool false] n).toList = (List.replicate n false).map Value.bool := by
  apply List.ext_getElem?
  intro i
  by_cases h : i < n <;> simp [madeCells, Nat.mod_one, h]
theorem newBo (w : World) (n : Nat) : Blk (w.alloc (.cells (madeCells #[.bool false] n) 4)) w.heap.size 4 ((List.replicate n false).map Value.bool) := by
  rw [← madeBo0]
  exact Blk.newA w _ _
theorem qAt_new (n k : Nat) : qAt (List.replicate n false) k = false := by
  unfold qAt
  by_cases h : k < n <;> simp [List.getD, h]
theorem tot_bound {ed : Nat → List Int} {M : Nat} (s : List Bool) : ∀ n, (∀ k, k < n → (ed k).length ≤ M) → tot ed s n ≤ M * n
  | 0, _ => by simp [tot]
  | n + 1, h => by
    have ih := tot_bound (ed := ed) (M := M) s n (fun k hk => h k (by omega))
    have h1 := h n (by omega)
    unfold tot
    rw [Nat.mul_add, Nat.mul_one]
    split <;> omega
theorem bare_sub {C : List In} {E : List Int} {S : List St} {Q : List Bool} {k : Nat} {y : Int} (hy : y ∈ bareP C E S Q k) : y ∈ waysP C k := by
  unfold bareP at hy
  split at hy
  · cases hy
  split at hy
  · cases hy
  split at hy
  · rename_i ho
    rw [List.mem_singleton] at hy
    unfold waysP
    rw [if_neg (by omega), if_neg (by omega), if_neg (by omega), if_pos (by omega), hy]
    simp
  split at hy
  · cases hy
  split at hy
  · cases hy
  · exact hy
def edB (C : List In) (E : List Int) (S : List St) (Q : List Bool) (k : Nat) : List Int := if cameP S k = true then bareP C E S Q k else []
def fnO (ed : Nat → List Int) (S : List St) (n : Nat) : Nat → Nat → List Bool → List Int → List Int
  | 0, _, _, o => o
  | f + 1, j, s, o => if cameP S j = true then fnO ed S n f (j + 1) (fnF ed (tot (ed1 ed) s n + 2) [(j : Int)] s o).1 (fnF ed (tot (ed1 ed) s n + 2) [(j : Int)] s o).2 else fnO ed S n f (j + 1) s o
def StK (S : List St) (n : Nat) (wk : List Int) : Prop := ∀ y ∈ wk, -(n : Int) ≤ y ∧ y < (n : Int) ∧ (0 ≤ y → cameP S y.toNat = true)
theorem StK.stm {S : List St} {n : Nat} {wk : List Int} (h : StK S n wk) : Stm n wk := fun y hy => ⟨(h y hy).1, (h y hy).2.1⟩
theorem StK.app {S : List St} {n : Nat} {a c : List Int} (h : StK S n a) (k : StK S n c) : StK S n (a ++ c) := fun y hy => by
  rcases List.mem_append.1 hy with hy | hy
  · exact h y hy
  · exact k y hy
theorem StK.take {S : List St} {n : Nat} {a : List Int} (h : StK S n a) (m : Nat) : StK S n (a.take m) := fun y hy => h y (List.mem_of_mem_take hy)
theorem xorI (y : Int) (h : -9223372036854775808 ≤ y ∧ y ≤ 9223372036854775807) : bits .xor .i64 (-1) y = -y - 1 := by
  show IntKind.i64.wrap ((BitVec.ofInt 64 (-1) ^^^ BitVec.ofInt 64 y).toNat : Int) = _
  have e : BitVec.ofInt 64 (-1) = BitVec.allOnes 64 := by decide
  rw [e, BitVec.allOnes_xor, BitVec.toNat_not, BitVec.toNat_ofInt, IntKind.wrap_i64]
  omega
def FnTo (w : World) (R : List Int) (e : Ending) (w' : World) : Prop := ∃ v, e = .returned v ∧ IOwn w' w.heap.size v R ∧ Below w.heap.size w w'
set_option maxRecDepth 100000 in
set_option maxHeartbeats 16000000 in
theorem finished_any (b cc ce gs gq n : Nat) (ac ae : Option Addr) (enc : Bool) (C : List In) (E : List Int) (S : List St) (Q : List Bool) (vb : Value) (w : World) (hn : C.length = n) (hn9 : n ≤ 1048576) (hcc : C.length ≤ cc) (hcl : cc ≤ 9223372036854775807) (hC : Hid (CeOk enc C E)) (hI : Hid (∀ k, k < n → cameP S k = true → Inn C k ∧ ∀ y ∈ waysP C k, cameP S y.toNat = true)) (h : Hid (PtS w b cc ce gs gq ac ae enc C E S Q vb)) :
    Calls Tryz.prog 58 #[.pointer (some ⟨b, 0, none⟩)] w fun e w' => FnTo w (fnO (edB C E S Q) S n n 0 (List.replicate n false) []) e w' := by
  obtain ⟨ed, hed⟩ : ∃ ed, edB C E S Q = ed := ⟨_, rfl⟩
  obtain ⟨R, hR⟩ : ∃ R, fnO (edB C E S Q) S n n 0 (List.replicate n false) [] = R := ⟨_, rfl⟩
  rw [hR]
  rw [hed] at hR
  have HR := hide_ hR
  have Hed : Hid (∀ k, k < n → cameP S k = true → bareP C E S Q k = ed k) := hide_ (fun k _ hc => by rw [← hed]; unfold edB; rw [if_pos hc])
  have HeS : Hid (∀ k, k < n → StK S n (ed k)) := hide_ (fun k hk y hy => by
    rw [← hed] at hy
    unfold edB at hy
    split at hy
    · rename_i hc
      have h1 := (hI.out k hk hc).1 y (bare_sub hy)
      have h2 := (hI.out k hk hc).2 y (bare_sub hy)
      rw [hn] at h1
      exact ⟨by omega, by omega, fun _ => h2⟩
    · cases hy)
  have HeN : Hid (∀ k, k < n → Stn n (ed k)) := hide_ (fun k hk y hy => by
    rw [← hed] at hy
    unfold edB at hy
    split at hy
    · rename_i hc
      have h1 := (hI.out k hk hc).1 y (bare_sub hy)
      rw [hn] at h1
      exact h1
    · cases hy)
  have HeL : Hid (∀ s : List Bool, tot (ed1 ed) s n ≤ 65 * n) := hide_ (fun s => tot_bound s n (fun k hk => by
    have h1 : (ed k).length ≤ 64 := by
      rw [← hed]
      unfold edB
      split
      · exact bare_len (E := E) hC.out.cd (by omega) S Q
      · simp
    simp [ed1]
    omega))
  have HCa : Hid (∀ (k : Nat) (w' : World), k < n → Below w.heap.size w w' → Calls Tryz.prog 55 #[.pointer (some ⟨b, 0, none⟩), .int .i64 (k : Int)] w' fun e w'' => e = .returned (.bool (cameP S k)) ∧ w' = w'') := hide_ (fun k w' hk hB => cameTo_any b cc ce gs gq ac ae enc C E S Q vb k w' (by omega) (hide_ (h.out.later hB)))
  have HBa : Hid (∀ (k : Nat) (w' : World), k < n → cameP S k = true → Below w.heap.size w w' → Calls Tryz.prog 38 #[.pointer (some ⟨b, 0, none⟩), .int .i64 (k : Int)] w' fun e w'' => ∃ v, e = .returned v ∧ Hid (IOwn w'' w'.heap.size v (ed k)) ∧ Hid (Below w'.heap.size w' w'')) := hide_ (fun k w' hk hc hB => by
    have h1 := bare_any b cc ce gs gq ac ae enc C E S Q vb k w' (by omega) hcc hcl hC (hide_ (h.out.later hB))
    rw [Hed.out k hk hc] at h1
    exact h1)
  obtain ⟨-, -, -, c3, -, -⟩ := h.out.cells
  rw [hn] at c3
  obtain ⟨w1, hmk, hK1, hB1⟩ : ∃ w1, (Instr.makeSlice 43 (.int .i64 (n : Int)) (.int .i64 (n : Int))).run Tryz.prog w = .ok (.slice (some ⟨w.heap.size, 0, none⟩) n n) w1 ∧ Blk w1 w.heap.size 4 ((List.replicate n false).map Value.bool) ∧ Below w.heap.size w w1 := ⟨_, makeBo n (by omega) w, newBo w n, below1 _ _⟩
  have c4 := (hB1.cell (p := ⟨b, 3, none⟩) h.out.blk.lt).trans c3
  have HK1 := hide_ hK1
  have HB1 := hide_ hB1
  clear hR hed hK1 hB1 h
  go_enter Tryz.func58, Tryz.ntmps58
  go_wp2_with fail
  clear hmk c3 c4
  go_loopw [3, 4, 19] (fun x3 x4 x19 wr => ∃ (j : Nat) (s : List Bool) (o : List Int) (vo vw : Value), vo = x3 ∧ vw = x4 ∧ j ≤ n ∧ x19 = .int .i64 (j : Int) ∧ Hid (fnO ed S n (n - j) j s o = R) ∧ Hid (s.length = n) ∧ Hid (o.length + tot (ed1 ed) s n ≤ 65 * n + j) ∧ Hid (Blk wr w.heap.size 4 (s.map Value.bool)) ∧ Hid (IOwn wr w.heap.size vo o) ∧ Hid (IOwn wr w.heap.size vw []) ∧ Hid (∀ q, vo.ownBlock = some q → vw.ownBlock ≠ some q) ∧ Hid (Below w.heap.size w wr)) (fun _ _ x19 _ => n - (intOf x19).toNat)
  case atStart => exact ⟨0, _, [], _, _, rfl, rfl, by omega, rfl, hide_ (by rw [Nat.sub_zero]; exact HR.out), hide_ (by simp), hide_ (by have h1 := HeL.out (List.replicate n false); simp; omega), HK1, hide_ (IOwn.nil _ _), hide_ (IOwn.nil _ _), hide_ (fun q e => by cases e), HB1⟩
  case round =>
    clear HR HK1 HB1
    obtain ⟨j, s, o, vo, vw, rfl, rfl, hj, rfl, HRj, Hsl, HTj, HKj, HOj, HWj, HSj, HBj⟩ := hrel
    generalize wr = wq at *
    by_cases hlt : j < n
    · have hlt' : (j : Int) < (n : Int) := by omega
      have hrj := HRj.out
      rw [show n - j = (n - (j + 1)) + 1 by omega, fnO] at hrj
      have HRj2 := hide_ hrj
      obtain ⟨d, hd⟩ : ∃ d, cameP S j = d := ⟨_, rfl⟩
      have HCj := hide_ (HCa.out j wq hlt HBj.out)
      rw [hd] at HCj
      have Hd := hide_ hd
      obtain ⟨aw, cw, hvw⟩ := HWj.out.slice
      have hvw : vw = .slice aw 0 cw := hvw
      subst hvw
      clear hrj HRj hd
      go_wp2_with fail
      refine HCj.out.mono ?_
      rintro e w2 ⟨rfl, rfl⟩
      cases d
      · have HR3 : Hid (fnO ed S n (n - (j + 1)) (j + 1) s o = R) := hide_ (by
          have h1 := HRj2.out
          rw [if_neg (by rw [Hd.out]; simp)] at h1
          exact h1)
        clear HRj2
        go_wp2_with fail
        go_loopw [3, 4] (fun x3 x4 wr => vo = x3 ∧ x4 = .slice aw 0 cw ∧ wq = wr) (fun _ _ _ => 0)
        case atStart => exact ⟨rfl, rfl, rfl⟩
        case round =>
          obtain ⟨rfl, rfl, rfl⟩ := hrel
          go_wp2_with fail
          go_roundw
          case rel => exact ⟨j + 1, s, o, vo, _, rfl, rfl, by omega, by go_num, HR3, Hsl, hide_ (by have := HTj.out; omega), HKj, HOj, HWj, HSj, HBj⟩
          case measure => simp [intOf]; omega
      · obtain ⟨RR, hRR⟩ : ∃ RR, fnF ed (tot (ed1 ed) s n + 2) [(j : Int)] s o = RR := ⟨_, rfl⟩
        have HR3 : Hid (fnO ed S n (n - (j + 1)) (j + 1) RR.1 RR.2 = R) := hide_ (by
          have h1 := HRj2.out
          rw [if_pos Hd.out, hRR] at h1
          exact h1)
        obtain ⟨G, hG⟩ : ∃ G, tot (ed1 ed) s n + 2 = G := ⟨_, rfl⟩
        rw [hG] at hRR
        have HRR := hide_ hRR
        have HG := hide_ hG
        have HG9 : Hid (G ≤ 900000000) := hide_ (by have h1 := HeL.out s; omega)
        obtain ⟨g3, cp3, w3, hr3, hO3, hU3, hg3⟩ := HWj.out.push (j : Int) (by simp) HBj.out.size
        obtain ⟨v3, hv3⟩ : ∃ v3, Value.slice (some ⟨g3, 0, none⟩) (List.length ([] : List Int) + 1) cp3 = v3 := ⟨_, rfl⟩
        rw [hv3] at hr3 hO3
        have HSp3 : Hid (∀ q, vo.ownBlock = some q → v3.ownBlock ≠ some q) := hide_ (fun q e e2 => by
          rw [← hv3] at e2
          have e3 : g3 = q := by injection e2
          rcases hg3 with h6 | h6
          · exact HSj.out q e (by rw [h6, e3])
          · have h7 := (HOj.out.lies e).2
            omega)
        have HRun := hide_ hr3
        have HWs : Hid (IOwn w3 w.heap.size v3 [(j : Int)]) := hide_ hO3
        have HOs := hide_ (HOj.out.upd hU3 (fun q e e2 => HSj.out q e e2))
        have HKs := hide_ (HKj.out.upd hU3 (fun e => HWj.out.neB HKj.out (by decide) e))
        have HBs := hide_ (below_to2 HBj.out hU3 (fun q e => (HWj.out.lies e).1))
        have HSt0 : Hid (StK S n [(j : Int)]) := hide_ (fun y hy => by
          rw [List.mem_singleton] at hy
          rw [hy]
          exact ⟨by omega, by omega, fun _ => by rw [Int.toNat_natCast]; exact Hd.out⟩)
        clear hRR hG hr3 hO3 hU3 hg3 hv3 HRj2 HWj HOj HKj HBj HSj
        go_wp2_with (first | (at_builtin; refine wpList_append_run rfl (.tmp 25) (.tmp 27) 23 23 rfl rfl rfl HRun.out ?_; clear HRun) | fail)
        go_loopg [3, 4] (1 + tot (ed1 ed) s n) (fun gk x3 x4 wr => ∃ (st : List Int) (t : List Bool) (oo : List Int) (vf vz : Value), vf = x3 ∧ vz = x4 ∧ Hid (st.length + tot (ed1 ed) t n = gk) ∧ Hid (gk < G) ∧ Hid (oo.length + gk ≤ 65 * n + j + 1) ∧ Hid (fnF ed G st t oo = RR) ∧ Hid (StK S n st) ∧ Hid (t.length = n) ∧ Hid (Blk wr w.heap.size 4 (t.map Value.bool)) ∧ Hid (IOwn wr w.heap.size vf oo) ∧ Hid (IOwn wr w.heap.size vz st) ∧ Hid (∀ q, vf.ownBlock = some q → vz.ownBlock ≠ some q) ∧ Hid (Below w.heap.size w wr))
        case atStart => exact ⟨[(j : Int)], s, o, vo, v3, rfl, rfl, hide_ rfl, hide_ (by have := HG.out; omega), hide_ (by have := HTj.out; omega), HRR, HSt0, Hsl, HKs, HOs, HWs, HSp3, HBs⟩
        case round =>
          clear HRR HSt0 Hsl HKs HOs HWs HSp3 HBs HTj
          obtain ⟨st, t, oo, vf, vz, rfl, rfl, Hgk, HGb, Hol, HRk, HSt, Htl, HKz, HFz, HWz, HSz, HBz⟩ := hrel
          generalize wr = wp at *
          by_cases h0 : st = []
          · subst h0
            obtain ⟨a, c, hv⟩ := HWz.out.slice
            have hv : vz = .slice a 0 c := hv
            subst hv
            have HR5 : Hid (fnO ed S n (n - (j + 1)) (j + 1) t oo = R) := hide_ (by
              have h1 := HRk.out
              obtain ⟨G', hG'⟩ : ∃ G', G = G' + 1 := ⟨G - 1, by have := HGb.out; omega⟩
              rw [hG', fnF, if_pos rfl] at h1
              have h2 := HR3.out
              rw [← h1] at h2
              exact h2)
            have HT5 : Hid (oo.length + tot (ed1 ed) t n ≤ 65 * n + (j + 1)) := hide_ (by have h1 := Hol.out; have h2 := Hgk.out; rw [List.length_nil] at h2; omega)
            clear HR3 HRk Hgk HGb Hol
            go_wp2_with fail
            go_roundw
            case rel => exact ⟨j + 1, t, oo, vf, _, rfl, rfl, by omega, by go_num, HR5, Htl, HT5, HKz, HFz, HWz, HSz, HBz⟩
            case measure => simp [intOf]; omega
          · have hl0 : 0 < st.length := List.length_pos_iff.2 h0
            obtain ⟨g, c, hv, hcv, hgB, hgL⟩ := HWz.out.open hl0
            obtain ⟨m, hm⟩ : ∃ m, st.length = m + 1 := ⟨st.length - 1, by omega⟩
            rw [hm] at hv hcv
            subst hv
            obtain ⟨y, hy⟩ : ∃ y, hAt st m = y := ⟨_, rfl⟩
            obtain ⟨y1, y2, y3⟩ := HSt.out _ (hAt_mem (l := st) (i := m) (by omega))
            rw [hy] at y1 y2 y3
            obtain ⟨cy, -⟩ := HWz.out.cellH (i := m) (by omega)
            rw [hy] at cy
            have hst := fnF_step (ed := ed) (G := G) (o := oo) HeN.out HSt.out.stm Htl.out (by have := Hgk.out; have := HGb.out; omega) hm hy
            rw [HRk.out] at hst
            have Hst := hide_ hst
            have hmb : m < 1000000000 := by have := Hgk.out; have := HGb.out; have := HG9.out; omega
            have hw1 : IntKind.i64.wrap ((m : Int) + 1 - 1) = (m : Int) := by rw [i64w _ (by omega)]; omega
            have Hcut := hide_ (HWz.out.cutV (m := m) hm (by omega))
            have Ha3 := hide_ (HSt.out.take m)
            have Hm := hide_ hm
            have hcv' : (m : Int) + 1 ≤ (c : Int) := by omega
            have Htk : Hid ((st.take m).length = m) := hide_ (by rw [List.length_take]; omega)
            have HM5 : Hid ((st.take m).length + tot (ed1 ed) t n < gk) := hide_ (by
              have h1 := Hgk.out
              have h2 := Hm.out
              have h3 := Htk.out
              omega)
            clear hst hm hl0 h0 HRk hy
            by_cases hy0 : y < 0
            · have HR5 : Hid (fnF ed G (st.take m) t (oo ++ [-y - 1]) = RR) := hide_ (by
                have h1 := Hst.out
                rw [if_pos hy0] at h1
                exact h1.symm)
              obtain ⟨g5, cp5, w5, hr5, hF5, hU5, hg5⟩ := HFz.out.push (-y - 1) (by have := Hol.out; omega) HBz.out.size
              have HRun := hide_ hr5
              have HF5 := hide_ hF5
              have HK5 := hide_ (HKz.out.upd hU5 (fun e => HFz.out.neB HKz.out (by decide) e))
              have HW5 := hide_ (Hcut.out.upd hU5 (fun q e e2 => HSz.out q e2 e))
              have HB5 := hide_ (below_to2 HBz.out hU5 (fun q e => (HFz.out.lies e).1))
              have HS5 : Hid (∀ q, (Value.slice (some ⟨g5, 0, none⟩) (oo.length + 1) cp5).ownBlock = some q → (Value.slice (some ⟨g, 0, none⟩) m c).ownBlock ≠ some q) := hide_ (fun q e e2 => by
                have e3 : g5 = q := by injection e
                rcases hg5 with h6 | h6
                · exact HSz.out q (by rw [h6, e3]) e2
                · have h7 := (Hcut.out.lies e2).2
                  omega)
              have HL5 : Hid ((oo ++ [-y - 1]).length + ((st.take m).length + tot (ed1 ed) t n) ≤ 65 * n + j + 1) := hide_ (by have h1 := Hol.out; have h2 := HM5.out; rw [List.length_append, List.length_singleton]; omega)
              have hsg : IntKind.i64.signed = true := rfl
              have hxo := xorI y (by omega)
              obtain ⟨af, cf, hvf⟩ := HFz.out.slice
              subst hvf
              clear Hst hr5 hF5 hU5 hg5 HFz HKz HWz HBz HSz Hcut y3
              go_wp2_with (first | (at_builtin; refine wpList_append_run rfl (.tmp 46) (.tmp 49) 23 23 rfl rfl rfl HRun.out ?_; clear HRun) | fail)
              go_roundg ((st.take m).length + tot (ed1 ed) t n)
              case measure => exact HM5.out
              case rel => exact ⟨st.take m, t, _, _, _, rfl, rfl, hide_ rfl, hide_ (by have h1 := HM5.out; have h2 := HGb.out; omega), HL5, HR5, Ha3, Htl, HK5, HF5, HW5, HS5, HB5⟩
            · obtain ⟨k, hk⟩ := Int.eq_ofNat_of_zero_le (show 0 ≤ y by omega)
              subst hk
              have hkn : k < n := by omega
              have hkc := y3 (by omega)
              rw [Int.toNat_natCast] at hkc
              have Hst2 := Hst.out
              rw [if_neg hy0, Int.toNat_natCast] at Hst2
              have Hst := hide_ Hst2
              have cq := bAt HKz.out (k := k) (by rw [Htl.out]; exact hkn)
              obtain ⟨d, hd⟩ : ∃ d, qAt t k = d := ⟨_, rfl⟩
              rw [hd] at cq
              have Hd2 := hide_ hd
              have Hkc := hide_ hkc
              clear Hst2 hd y1 y2 y3 hkc
              cases d
              · have zf := HKz.out.frozen k
                have HR5 : Hid (fnF ed G (st.take m ++ [-(k : Int) - 1] ++ ed k) (t.set k true) oo = RR) := hide_ (by
                  have h1 := Hst.out
                  rw [Hd2.out, if_neg (by simp)] at h1
                  exact h1.symm)
                obtain ⟨w2, hw2⟩ : ∃ wx, wp.setCell ⟨w.heap.size, k, none⟩ (.bool true) = wx := ⟨_, rfl⟩
                have hU2 : Upd (fun q => q = w.heap.size) wp w2 := by rw [← hw2]; exact (Upd.refl _ wp).set _ _ (.inl rfl)
                have hK2 : Blk w2 w.heap.size 4 ((t.set k true).map Value.bool) := by rw [← hw2]; exact bset HKz.out
                have hF2 := HFz.out.upd hU2 (fun q e e2 => HFz.out.neB HKz.out (by decide) (e2 ▸ e))
                have hC2 := Hcut.out.upd hU2 (fun q e e2 => Hcut.out.neB HKz.out (by decide) (e2 ▸ e))
                have hB2 : Below w.heap.size w w2 := below_to2 HBz.out hU2 (fun q e => by rw [e]; exact Nat.le_refl _)
                have h3 := tot_set (ed1 ed) t k (by rw [Htl.out]; exact hkn) Hd2.out n hkn
                have e1 : (ed1 ed k).length = (ed k).length + 1 := by simp [ed1]
                have HM6 : Hid ((st.take m ++ [-(k : Int) - 1] ++ ed k).length + tot (ed1 ed) (t.set k true) n < gk) := hide_ (by
                  have h1 := HM5.out
                  rw [List.length_append, List.length_append, List.length_singleton]
                  omega)
                have Hel : Hid ((st.take m ++ [-(k : Int) - 1]).length + (ed k).length ≤ 1000000000) := hide_ (by
                  have h1 := HM5.out; have h2 := HGb.out; have h4 := HG9.out
                  rw [List.length_append, List.length_singleton]
                  omega)
                obtain ⟨g3, cp3, w3, hr3, hC3, hU3, hg3⟩ := hC2.push (-(k : Int) - 1) (by rw [Htk.out]; omega) hB2.size
                obtain ⟨v4, hv4⟩ : ∃ v4, Value.slice (some ⟨g3, 0, none⟩) ((st.take m).length + 1) cp3 = v4 := ⟨_, rfl⟩
                rw [hv4] at hr3 hC3
                have hK3 := hK2.upd hU3 (fun e => hC2.neB hK2 (by decide) e)
                have hF3 := hF2.upd hU3 (fun q e e2 => HSz.out q e e2)
                have hB3 := below_to2 hB2 hU3 (fun q e => (hC2.lies e).1)
                have HSp3 : Hid (∀ q, vf.ownBlock = some q → v4.ownBlock ≠ some q) := hide_ (fun q e e2 => by
                  rw [← hv4] at e2
                  have e3 : g3 = q := by injection e2
                  rcases hg3 with h6 | h6
                  · exact HSz.out q e (by rw [← e3]; exact h6)
                  · have h7 := (hF2.lies e).2
                    omega)
                have HBr := hide_ (HBa.out k w3 hkn Hkc.out hB3)
                have HRun := hide_ hr3
                have HK3 := hide_ hK3
                have HC3 := hide_ hC3
                have HF3 := hide_ hF3
                have HB3 := hide_ hB3
                have HS5 : Hid (StK S n (st.take m ++ [-(k : Int) - 1] ++ ed k)) := hide_ ((Ha3.out.app (fun y hy => by
                  rw [List.mem_singleton] at hy
                  rw [hy]
                  exact ⟨by omega, by omega, fun h => by omega⟩)).app (HeS.out k hkn))
                have hsg : IntKind.i64.signed = true := rfl
                have hxo := xorI (k : Int) (by omega)
                have hkn' : (k : Int) < (n : Int) := by omega
                have Htl5 : Hid ((t.set k true).length = n) := hide_ (by rw [List.length_set]; exact Htl.out)
                clear Hst hU2 hK2 hF2 hC2 hB2 h3 e1 hr3 hC3 hU3 hg3 hv4 hK3 hF3 hB3 HKz HFz HWz HBz HSz Hcut Ha3 Htk Hm
                go_wp2_with (first | (at_builtin; refine wpList_append_run rfl (.tmp 60) (.tmp 63) 23 23 rfl rfl rfl HRun.out ?_; clear HRun) | fail)
                refine HBr.out.mono ?_
                rintro e w4 ⟨vb4, rfl, HO4, HB4⟩
                obtain ⟨a4, c4, ev4, hr4, hn4, -⟩ := HO4.out.row
                obtain ⟨v5, w5, hr5, hW5, hU5, hg5⟩ := (HC3.out.later HB4.out).app hr4 hn4 Hel.out (Nat.le_trans HB3.out.size HB4.out.size)
                have HRun := hide_ hr5
                have hF4 := HF3.out.later HB4.out
                have HF5 := hide_ (hF4.upd hU5 (fun q e e2 => HSp3.out q e e2))
                have HK5 := hide_ ((HK3.out.later HB4.out).upd hU5 (fun e => (HC3.out.later HB4.out).neB (HK3.out.later HB4.out) (by decide) e))
                have HB5 := hide_ (below_to2 (below_to HB3.out HB4.out) hU5 (fun q e => ((HC3.out.later HB4.out).lies e).1))
                have HSp5 : Hid (∀ q, vf.ownBlock = some q → v5.ownBlock ≠ some q) := hide_ (fun q e e2 => by
                  rcases hg5 q e2 with h | h
                  · exact HSp3.out q e h
                  · have := (hF4.lies e).2; omega)
                have HW5 := hide_ hW5
                subst ev4
                clear hr4 hn4 hr5 hW5 hU5 hg5 hF4 HC3 HF3 HK3 HB3 HBr HO4 HB4 HSp3
                go_wp2_with (first | (at_builtin; refine wpList_append_run rfl (.tmp 64) (.tmp 67) 23 23 rfl rfl rfl HRun.out ?_; clear HRun) | fail)
                go_roundg ((st.take m ++ [-(k : Int) - 1] ++ ed k).length + tot (ed1 ed) (t.set k true) n)
                case measure => exact HM6.out
                case rel => exact ⟨_, t.set k true, oo, vf, v5, rfl, rfl, hide_ rfl, hide_ (by have h1 := HM6.out; have h2 := HGb.out; omega), hide_ (by have h1 := Hol.out; have h2 := HM6.out; omega), HR5, HS5, Htl5, HK5, HF5, HW5, HSp5, HB5⟩
              · have HR5 : Hid (fnF ed G (st.take m) t oo = RR) := hide_ (by
                  have h1 := Hst.out
                  rw [Hd2.out, if_pos rfl] at h1
                  exact h1.symm)
                clear Hst
                go_wp2_with fail
                go_roundg ((st.take m).length + tot (ed1 ed) t n)
                case measure => exact HM5.out
                case rel => exact ⟨st.take m, t, oo, vf, _, rfl, rfl, hide_ rfl, hide_ (by have h1 := HM5.out; have h2 := HGb.out; omega), hide_ (by have h1 := Hol.out; have h2 := HM5.out; omega), HR5, Ha3, Htl, HKz, HFz, Hcut, hide_ (fun q e => HSz.out q e), HBz⟩
    · have hlt' : ¬ ((j : Int) < (n : Int)) := by omega
      have HX : Hid (FnTo w R (.returned vo) wq) := hide_ (by
        have h1 := HRj.out
        rw [show n - j = 0 by omega, fnO] at h1
        rw [← h1]
        exact ⟨vo, rfl, HOj.out, HBj.out⟩)
      go_wp2_with fail
      go_ret
      exact HX.out
end Go.Proofs.YtjamfbpdepahnaaGreat
