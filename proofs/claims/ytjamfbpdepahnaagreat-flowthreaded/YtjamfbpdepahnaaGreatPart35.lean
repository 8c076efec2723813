import Derived.Test.YtjamfbpdepahnaaGreatPart34
import Derived.Test.YtjamfbpdepahnaaGreatPart19
namespace Go.Proofs.YtjamfbpdepahnaaGreat
open Go.RowKit
set_option linter.unusedVariables false
set_option linter.unusedSimpArgs false
theorem spF_ok {ed : Nat → List Int} {n : Nat} (he : ∀ k, k < n → Stn n (ed k)) : ∀ (f : Nat) (wk : List Int) (s : List Bool) (fd : List Int), Stn n wk → s.length = n → Stn n fd → Stn n (spF ed f wk s fd).1 ∧ (spF ed f wk s fd).2.length = n ∧ (spF ed f wk s fd).1.length ≤ fd.length + wk.length + tot ed s n
  | 0, wk, s, fd, hw, hs, hf => ⟨hf, hs, by simp [spF]; omega⟩
  | f + 1, wk, s, fd, hw, hs, hf => by
    unfold spF
    by_cases h0 : wk = []
    · rw [if_pos h0]
      exact ⟨hf, hs, by simp; omega⟩
    rw [if_neg h0]
    have hl : 0 < wk.length := List.length_pos_iff.2 h0
    obtain ⟨a1, a2, a3⟩ := sp_pop hw h0
    have ht : (wk.take (wk.length - 1)).length = wk.length - 1 := by simp
    split
    · obtain ⟨b1, b2, b3⟩ := spF_ok he f (wk.take (wk.length - 1)) s fd a3 hs hf
      exact ⟨b1, b2, by omega⟩
    · rename_i hq
      have hk : (hAt wk (wk.length - 1)).toNat < n := by omega
      have hq : qAt s (hAt wk (wk.length - 1)).toNat = false := by simpa using hq
      have h3 := tot_set ed s _ (by omega) hq n hk
      obtain ⟨b1, b2, b3⟩ := spF_ok he f (wk.take (wk.length - 1) ++ ed (hAt wk (wk.length - 1)).toNat) (s.set (hAt wk (wk.length - 1)).toNat true) (fd ++ [hAt wk (wk.length - 1)]) (fun y hy => by
        rcases List.mem_append.1 hy with hy | hy
        · exact a3 y hy
        · exact he _ hk y hy) (by simp [hs]) (fun y hy => by
        rcases List.mem_append.1 hy with hy | hy
        · exact hf y hy
        · rw [List.mem_singleton] at hy
          rw [hy]
          exact ⟨a1, a2⟩)
      refine ⟨b1, b2, ?_⟩
      rw [List.length_append, List.length_append, List.length_singleton] at b3
      omega
theorem enBb (args : Array Value) (w : World) : (callFunc 59 args).run Tryz.prog w = .ok (.enter 59 args) w := by kernel_rfl
theorem spBack (b cc ce gs gq gb B n from_ gn : Nat) (ac ae : Option Addr) (enc : Bool) (C : List In) (E : List Int) (S : List St) (Q : List Bool) (vs : List Value) (U : List (List Int)) (w : World) (hU : U.length = n) (hn9 : n ≤ 1048576) (he : ∀ k, k < n → Stn n (uA U k)) (hT : ∀ s, tot (uA U) s n ≤ 65 * n)
    (hK : BkR w B gb vs U) (h : PtS w b cc ce gs gq ac ae enc C E S Q (.slice (some ⟨gb, 0, none⟩) n n)) (wx : World) (s : List Bool) (hB : Below w.heap.size w wx) (hf : from_ < n) (hs : s.length = n) (hg : w.heap.size ≤ gn) (hKs : Blk wx gn 4 (s.map Value.bool)) :
    Calls Tryz.prog 41 #[.int .i64 (from_ : Int), .func (.func 59) #[.pointer (some ⟨b, 0, none⟩)] #[], .slice (some ⟨gn, 0, none⟩) n n] wx fun e w' => SpTo wx gn n (spF (uA U) (tot (uA U) s n + 2) [(from_ : Int)] s []) e w' := by
  refine spread_any 59 (.pointer (some ⟨b, 0, none⟩)) (uA U) n from_ gn s wx hn9 hf hs (hide_ he) (hide_ (by have := hT s; omega)) (hide_ hKs) (hide_ (fun k w' hk hu => ?_)) enBb
  have hB' := below_to2 hB hu (fun q e => by rw [e]; exact hg)
  refine (bareBack_any b cc ce gs gq gb B n ac ae enc C E S Q vs U k w' hk hU (hide_ (hK.later hB')) (hide_ (h.later hB'))).mono ?_
  rintro e w'' ⟨⟨a, c, e1, h1, h2⟩, rfl⟩
  exact ⟨a, c, e1, h1, h2, hide_ (Below.refl _ _)⟩
def setA (L : List Int) (fd : List Int) (j : Nat) : List Int := fd.foldl (fun L x => L.set x.toNat (j : Int)) L
theorem setA_len (j : Nat) : ∀ (fd L : List Int), (setA L fd j).length = L.length
  | [], L => rfl
  | x :: fd, L => by
    have := setA_len j fd (L.set x.toNat (j : Int))
    rw [List.length_set] at this
    exact this
def ldF (ed : Nat → List Int) (ip : Nat → Bool) (n : Nat) : Nat → Nat → List Bool → List Int → List Int
  | 0, _, _, L => L
  | f + 1, j, s, L => if ip j = true then ldF ed ip n f (j + 1) (spF ed (tot ed s n + 2) [(j : Int)] s []).2 (setA L (spF ed (tot ed s n + 2) [(j : Int)] s []).1 j) else ldF ed ip n f (j + 1) s L
def LdTo (w : World) (n : Nat) (R : List Int) (e : Ending) (w' : World) : Prop := ∃ g, e = .returned (.slice (some ⟨g, 0, none⟩) n n) ∧ w.heap.size ≤ g ∧ Blk w' g 3 (cellsL .i64 R) ∧ R.length = n ∧ Below w.heap.size w w'
theorem fault_in {w : World} {g k : Nat} {L : List Int} (h : Blk w g 3 (cellsL .i64 L)) (hk : k < L.length) : ∃ x, w.cell? ⟨g, k, none⟩ = some (.int .i64 x) := by
  refine ⟨L[k], ?_⟩
  rw [h.cell, cellsL_at .i64 L k hk]
  simp [List.getD, hk]
set_option maxRecDepth 100000 in
set_option maxHeartbeats 16000000 in
theorem leads_any (b cc ce gs gq gb B n : Nat) (ac ae : Option Addr) (enc : Bool) (C : List In) (E : List Int) (S : List St) (Q : List Bool) (vs : List Value) (U : List (List Int)) (w : World) (hn : C.length = n) (hUl : U.length = n) (hn9 : n ≤ 1048576) (he : Hid (∀ k, k < n → Stn n (uA U k))) (hT : Hid (∀ s, tot (uA U) s n ≤ 65 * n))
    (hC : Hid (CeOk enc C E)) (hK : Hid (BkR w B gb vs U)) (h : Hid (PtS w b cc ce gs gq ac ae enc C E S Q (.slice (some ⟨gb, 0, none⟩) n n))) :
    Calls Tryz.prog 40 #[.pointer (some ⟨b, 0, none⟩)] w fun e w' => LdTo w n (ldF (uA U) (idleP C E S Q) n n 0 (List.replicate n false) (List.replicate n 1048576)) e w' := by
  obtain ⟨ed, hed⟩ : ∃ ed, uA U = ed := ⟨_, rfl⟩
  have HSp : Hid (∀ (wx : World) (gn k : Nat) (s : List Bool), Below w.heap.size w wx → k < n → s.length = n → w.heap.size ≤ gn → Blk wx gn 4 (s.map Value.bool) → Calls Tryz.prog 41 #[.int .i64 (k : Int), .func (.func 59) #[.pointer (some ⟨b, 0, none⟩)] #[], .slice (some ⟨gn, 0, none⟩) n n] wx fun e w' => SpTo wx gn n (spF ed (tot ed s n + 2) [(k : Int)] s []) e w') := hide_ (fun wx gn k s h1 h2 h3 h4 h5 => by
    rw [← hed]
    exact spBack b cc ce gs gq gb B n k gn ac ae enc C E S Q vs U w hUl hn9 he.out hT.out hK.out h.out wx s h1 h2 h3 h4 h5)
  have HId : Hid (∀ (k : Nat) (w' : World), k < n → Below w.heap.size w w' → Calls Tryz.prog 43 #[.pointer (some ⟨b, 0, none⟩), .int .i64 (k : Int)] w' fun e w'' => e = .returned (.bool (idleP C E S Q k)) ∧ Below w'.heap.size w' w'') := hide_ (fun k w' hk hB => idle_any b cc ce gs gq ac ae enc C E S Q _ k w' (by omega) hC (hide_ (h.out.later hB)))
  have HSo : Hid (∀ (k : Nat) (s : List Bool), k < n → s.length = n → Stn n (spF ed (tot ed s n + 2) [(k : Int)] s []).1 ∧ (spF ed (tot ed s n + 2) [(k : Int)] s []).2.length = n ∧ (spF ed (tot ed s n + 2) [(k : Int)] s []).1.length ≤ 1 + 65 * n) := hide_ (fun k s hk hs => by
    have h1 := spF_ok (ed := ed) (by rw [← hed]; exact he.out) (tot ed s n + 2) [(k : Int)] s [] (fun y hy => by rw [List.mem_singleton] at hy; omega) hs (fun y hy => by cases hy)
    have h2 := hT.out s
    rw [hed] at h2
    refine ⟨h1.1, h1.2.1, ?_⟩
    have h3 := h1.2.2
    simp only [List.length_nil, List.length_singleton] at h3
    omega)
  rw [hed]
  obtain ⟨R, hR⟩ : ∃ R, ldF ed (idleP C E S Q) n n 0 (List.replicate n false) (List.replicate n 1048576) = R := ⟨_, rfl⟩
  rw [hR]
  have HR := hide_ hR
  obtain ⟨ip, hip⟩ : ∃ ip, idleP C E S Q = ip := ⟨_, rfl⟩
  rw [hip] at HR HId
  obtain ⟨-, -, -, c3, -, -⟩ := h.out.cells
  rw [hn] at c3
  have Hb := hide_ h.out.blk.lt
  obtain ⟨w1, hw1⟩ : ∃ wx, w.alloc (.cells #[.int .i64 1048576] 3) = wx := ⟨_, rfl⟩
  have hB1 : Below w.heap.size w w1 := by rw [← hw1]; exact below1 _ _
  have hc1 : w1.cell? ⟨w.heap.size, 0, none⟩ = some (.int .i64 1048576) := by rw [← hw1, (Blk.newA w #[.int .i64 1048576] 3).cell]; rfl
  have hz1 : w.heap.size < w1.heap.size := by rw [← hw1]; simp
  have d3 := (hB1.cell (p := ⟨b, 3, none⟩) Hb.out).trans c3
  have HRp := hide_ (repeat_any n w.heap.size 1048576 w1 hn9 hc1 hz1)
  have HB1 := hide_ hB1
  have Hz1 := hide_ hz1
  clear hR hed hip hB1 hc1 hz1 h hK
  go_enter Tryz.func40, Tryz.ntmps40
  go_wp2_with fail
  refine HRp.out.mono ?_
  rintro e w2 ⟨rfl, hK2, hB2⟩
  have HB2 := hide_ (below_to HB1.out hB2)
  have HK2 := hide_ hK2
  have e3 := (hB2.cell (p := ⟨b, 3, none⟩) (Nat.lt_trans Hb.out Hz1.out)).trans d3
  obtain ⟨gl, hgl⟩ : ∃ gl, w1.heap.size = gl := ⟨_, rfl⟩
  rw [hgl] at HK2 Hz1
  obtain ⟨w3, hmk, hK3, hB3⟩ : ∃ w3, (Instr.makeSlice 43 (.int .i64 (n : Int)) (.int .i64 (n : Int))).run Tryz.prog w2 = .ok (.slice (some ⟨w2.heap.size, 0, none⟩) n n) w3 ∧ Blk w3 w2.heap.size 4 ((List.replicate n false).map Value.bool) ∧ Below w2.heap.size w2 w3 := ⟨_, makeBo n (by omega) w2, newBo w2 n, below1 _ _⟩
  have f3 := (hB3.cell (p := ⟨b, 3, none⟩) (Nat.lt_of_lt_of_le Hb.out HB2.out.size)).trans e3
  obtain ⟨gn, hgn⟩ : ∃ gn, w2.heap.size = gn := ⟨_, rfl⟩
  have Hgn : Hid (w.heap.size ≤ gn) := hide_ (by rw [← hgn]; exact HB2.out.size)
  have Hgl : Hid (w.heap.size ≤ gl) := hide_ (Nat.le_of_lt Hz1.out)
  have Hne : Hid (gl ≠ gn) := hide_ (fun e => by have := HK2.out.lt; omega)
  have HK3 : Hid (Blk w3 gn 4 ((List.replicate n false).map Value.bool)) := hide_ (by rw [← hgn]; exact hK3)
  have HL3 := hide_ (HK2.out.later hB3)
  have HB3 := hide_ (below_to HB2.out hB3)
  rw [hgn] at hmk
  rw [hgl]
  clear hK2 hB2 hK3 hB3 HRp HK2 HB2 HB1 hgl
  go_wp2_with fail
  clear hmk c3 d3 e3 f3 hgn
  go_loopw [26] (fun x26 wr => ∃ (j : Nat) (s : List Bool) (L : List Int), j ≤ n ∧ x26 = .int .i64 (j : Int) ∧ Hid (ldF ed ip n (n - j) j s L = R) ∧ Hid (s.length = n) ∧ Hid (L.length = n) ∧ Hid (Blk wr gn 4 (s.map Value.bool)) ∧ Hid (Blk wr gl 3 (cellsL .i64 L)) ∧ Hid (Below w.heap.size w wr)) (fun x26 _ => n - (intOf x26).toNat)
  case atStart => exact ⟨0, _, _, by omega, rfl, hide_ (by rw [Nat.sub_zero]; exact HR.out), hide_ (by simp), hide_ (by simp), HK3, HL3, HB3⟩
  case round =>
    clear HR HK3 HL3 HB3
    obtain ⟨j, s, L, hj, rfl, HRj, Hsl, HLl, HKj, HLj, HBj⟩ := hrel
    generalize wr = wq at *
    by_cases hlt : j < n
    · have hlt' : (j : Int) < (n : Int) := by omega
      have hrj := HRj.out
      rw [show n - j = (n - (j + 1)) + 1 by omega, ldF] at hrj
      have HRj2 := hide_ hrj
      obtain ⟨d, hd⟩ : ∃ d, ip j = d := ⟨_, rfl⟩
      have HIj := hide_ (HId.out j wq hlt HBj.out)
      rw [hd] at HIj
      have Hd := hide_ hd
      clear hrj HRj hd
      go_wp2_with fail
      refine HIj.out.mono ?_
      rintro e w4 ⟨rfl, hB4⟩
      have HB4 := hide_ (below_to HBj.out hB4)
      have HK4 := hide_ (HKj.out.later hB4)
      have HL4 := hide_ (HLj.out.later hB4)
      clear hB4 HIj HBj HKj HLj
      cases d
      · have HR3 : Hid (ldF ed ip n (n - (j + 1)) (j + 1) s L = R) := hide_ (by
          have h1 := HRj2.out
          rw [if_neg (by rw [Hd.out]; simp)] at h1
          exact h1)
        clear HRj2
        go_wp2_with fail
        go_roundw
        case rel => exact ⟨j + 1, s, L, by omega, by go_num, HR3, Hsl, HLl, HK4, HL4, HB4⟩
        case measure => simp [intOf]; omega
      · obtain ⟨RR, hRR⟩ : ∃ RR, spF ed (tot ed s n + 2) [(j : Int)] s [] = RR := ⟨_, rfl⟩
        have HR3 : Hid (ldF ed ip n (n - (j + 1)) (j + 1) RR.2 (setA L RR.1 j) = R) := hide_ (by
          have h1 := HRj2.out
          rw [if_pos Hd.out, hRR] at h1
          exact h1)
        have HSj := hide_ (HSp.out w4 gn j s HB4.out hlt Hsl.out Hgn.out HK4.out)
        have HSoj := hide_ (HSo.out j s hlt Hsl.out)
        rw [hRR] at HSj HSoj
        clear HRj2 hRR
        go_wp2_with fail
        refine HSj.out.mono ?_
        rintro e w5 hT5
        obtain ⟨v5, rfl, hO5, hK5, hl5, hU5⟩ := hT5
        obtain ⟨av, cv, ev⟩ := hO5.slice
        subst ev
        have HO5 := hide_ hO5
        have HK5 := hide_ hK5
        have Hl5 := hide_ hl5
        have HL5 := hide_ (HL4.out.upd hU5 (fun e => Hne.out e))
        have HB5 := hide_ (below_to2 HB4.out hU5 (fun q e => by rw [e]; exact Hgn.out))
        have hfl : RR.1.length ≤ 1 + 65 * n := HSoj.out.2.2
        have HOl : Hid (∀ q, (Value.slice av RR.1.length cv).ownBlock = some q → q ≠ gl ∧ q ≠ gn) := hide_ (fun q e => ⟨fun e2 => by
          have h1 := (hO5.lies e).1
          have h2 := HL4.out.lt
          omega, fun e2 => by
          have h1 := (hO5.lies e).1
          have h2 := HK4.out.lt
          omega⟩)
        clear hO5 hK5 hl5 hU5 HSj HL4 HK4 HB4
        go_wp2_with fail
        go_loopw [39] (fun x39 wr => ∃ (i : Nat) (L2 : List Int), i ≤ RR.1.length ∧ x39 = .int .i64 (i : Int) ∧ Hid (setA L2 (RR.1.drop i) j = setA L RR.1 j) ∧ Hid (L2.length = n) ∧ Hid (Blk wr gn 4 (RR.2.map Value.bool)) ∧ Hid (Blk wr gl 3 (cellsL .i64 L2)) ∧ Hid (IOwn wr w4.heap.size (.slice av RR.1.length cv) RR.1) ∧ Hid (Below w.heap.size w wr)) (fun x39 _ => RR.1.length - (intOf x39).toNat)
        case atStart => exact ⟨0, L, by omega, rfl, hide_ rfl, HLl, HK5, HL5, HO5, HB5⟩
        case round =>
          clear HK5 HL5 HO5 HB5
          obtain ⟨i, L2, hi, rfl, HRi, HL2l, HKi, HLi, HOi, HBi⟩ := hrel
          generalize wr = wp at *
          by_cases hil : i < RR.1.length
          · have hil' : (i : Int) < (RR.1.length : Int) := by omega
            obtain ⟨g, c, hv, hcv, hgB, hgL⟩ := HOi.out.open (by omega)
            injection hv with hv1 hv2 hv3
            subst hv1
            obtain ⟨cy, -⟩ := HOi.out.cellH (i := i) hil
            obtain ⟨y0, y1⟩ := HSoj.out.1 _ (hAt_mem (l := RR.1) (i := i) hil)
            obtain ⟨k, hk⟩ := Int.eq_ofNat_of_zero_le y0
            rw [hk] at cy y1
            have hkn : (k : Int) < (n : Int) := y1
            have HRi2 : Hid (setA (L2.set k (j : Int)) (RR.1.drop (i + 1)) j = setA L RR.1 j) := hide_ (by
              have h1 := HRi.out
              rw [List.drop_eq_getElem_cons hil] at h1
              have h2 : RR.1[i] = (k : Int) := by
                rw [← hk]
                simp [hAt, List.getD, hil]
              rw [h2] at h1
              unfold setA at h1 ⊢
              rw [List.foldl_cons, Int.toNat_natCast] at h1
              exact h1)
            obtain ⟨x, cx⟩ := fault_in HLi.out (k := k) (by rw [HL2l.out]; omega)
            have zx := HLi.out.frozen k
            obtain ⟨w6, hw6⟩ : ∃ wx, wp.setCell ⟨gl, k, none⟩ (.int .i64 (j : Int)) = wx := ⟨_, rfl⟩
            have hU6 : Upd (fun q => q = gl) wp w6 := by rw [← hw6]; exact (Upd.refl _ wp).set _ _ (.inl rfl)
            have HL6 : Hid (Blk w6 gl 3 (cellsL .i64 (L2.set k (j : Int)))) := hide_ (by
              rw [← hw6, ← cellsL_set]
              exact HLi.out.set k _)
            have HK6 := hide_ (HKi.out.upd hU6 (fun e => Hne.out e.symm))
            have HO6 := hide_ (HOi.out.upd hU6 (fun q e e2 => (HOl.out q e).1 e2))
            have HB6 := hide_ (below_to2 HBi.out hU6 (fun q e => by rw [e]; exact Hgl.out))
            clear hv2 hv3 hcv hgB hgL y0 y1 hk HRi HLi HKi HOi HBi hU6
            go_wp2_with fail
            try rw [hw6]
            clear hw6
            go_roundw
            case rel => exact ⟨i + 1, _, by omega, by go_num, HRi2, hide_ (by rw [List.length_set]; exact HL2l.out), HK6, HL6, HO6, HB6⟩
            case measure => simp [intOf]; omega
          · have hil' : ¬ ((i : Int) < (RR.1.length : Int)) := by omega
            have HR5 : Hid (ldF ed ip n (n - (j + 1)) (j + 1) RR.2 L2 = R) := hide_ (by
              have h1 := HRi.out
              rw [List.drop_eq_nil_of_le (by omega)] at h1
              have h2 : L2 = setA L RR.1 j := h1
              rw [h2]
              exact HR3.out)
            clear HR3 HRi HOi
            go_wp2_with fail
            go_roundw
            case rel => exact ⟨j + 1, RR.2, L2, by omega, by go_num, HR5, Hl5, HL2l, HKi, HLi, HBi⟩
            case measure => simp [intOf]; omega
    · have hlt' : ¬ ((j : Int) < (n : Int)) := by omega
      have HX : Hid (LdTo w n R (.returned (.slice (some ⟨gl, 0, none⟩) n n)) wq) := hide_ (by
        have h1 := HRj.out
        rw [show n - j = 0 by omega, ldF] at h1
        rw [← h1]
        exact ⟨gl, rfl, Hgl.out, HLj.out, HLl.out, HBj.out⟩)
      go_wp2_with fail
      go_ret
      exact HX.out
end Go.Proofs.YtjamfbpdepahnaaGreat
