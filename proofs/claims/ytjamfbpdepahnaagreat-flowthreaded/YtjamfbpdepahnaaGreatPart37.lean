import Derived.Test.YtjamfbpdepahnaaGreatPart35
import Derived.RangeFuncNested
import Derived.RangeFuncBound
import Derived.RangeFuncCalls
import Derived.RangeFuncLeaves
import Derived.Shelf.Abstract
import Derived.Shelf.RegionOpen
import Derived.OwnWalkIn
import Derived.TacticsInMore
import Derived.LoopNIn
import Derived.LoopIn
namespace Go.Proofs.YtjamfbpdepahnaaGreat
open Go.RowKit Go.Shelf
set_option linter.unusedVariables false
set_option linter.unusedSimpArgs false
attribute [local go_sem] Oper.semAt_some
theorem fnF_ok {ed : Nat → List Int} {n : Nat} (he : ∀ k, k < n → Stn n (ed k)) : ∀ (f : Nat) (wk : List Int) (s : List Bool) (o : List Int), Stm n wk → s.length = n → Stn n o → Stn n (fnF ed f wk s o).2 ∧ (fnF ed f wk s o).1.length = n ∧ (fnF ed f wk s o).2.length + tot (ed1 ed) (fnF ed f wk s o).1 n ≤ o.length + wk.length + tot (ed1 ed) s n
  | 0, wk, s, o, hw, hs, ho => ⟨ho, hs, by simp [fnF] <;> omega⟩
  | f + 1, wk, s, o, hw, hs, ho => by
    unfold fnF
    by_cases h0 : wk = []
    · rw [if_pos h0]
      exact ⟨ho, hs, by simp <;> omega⟩
    rw [if_neg h0]
    have hl : 0 < wk.length := List.length_pos_iff.2 h0
    have hb := hw _ (hAt_mem (l := wk) (i := wk.length - 1) (by omega))
    have ht : (wk.take (wk.length - 1)).length = wk.length - 1 := by simp
    split
    · rename_i hneg
      obtain ⟨b1, b2, b3⟩ := fnF_ok he f (wk.take (wk.length - 1)) s (o ++ [-hAt wk (wk.length - 1) - 1]) (hw.take _) hs (fun y hy => by
        rcases List.mem_append.1 hy with hy | hy
        · exact ho y hy
        · rw [List.mem_singleton] at hy
          rw [hy]
          omega)
      refine ⟨b1, b2, ?_⟩
      rw [List.length_append, List.length_singleton] at b3
      omega
    split
    · obtain ⟨b1, b2, b3⟩ := fnF_ok he f (wk.take (wk.length - 1)) s o (hw.take _) hs ho
      exact ⟨b1, b2, by omega⟩
    · rename_i hneg hq
      have hk : (hAt wk (wk.length - 1)).toNat < n := by omega
      have hq : qAt s (hAt wk (wk.length - 1)).toNat = false := by simpa using hq
      have h3 := tot_set (ed1 ed) s _ (by omega) hq n hk
      have e1 : (ed1 ed (hAt wk (wk.length - 1)).toNat).length = (ed (hAt wk (wk.length - 1)).toNat).length + 1 := by simp [ed1]
      obtain ⟨b1, b2, b3⟩ := fnF_ok he f (wk.take (wk.length - 1) ++ [-hAt wk (wk.length - 1) - 1] ++ ed (hAt wk (wk.length - 1)).toNat) (s.set (hAt wk (wk.length - 1)).toNat true) o (((hw.take _).app (fun y hy => by rw [List.mem_singleton] at hy; omega)).app (he _ hk).stm) (by simp [hs]) ho
      refine ⟨b1, b2, ?_⟩
      rw [List.length_append, List.length_append, List.length_singleton] at b3
      omega
theorem fnO_ok {ed : Nat → List Int} {S : List St} {n : Nat} (he : ∀ k, k < n → Stn n (ed k)) : ∀ (f j : Nat) (s : List Bool) (o : List Int), j + f ≤ n → s.length = n → Stn n o → Stn n (fnO ed S n f j s o) ∧ (fnO ed S n f j s o).length ≤ o.length + f + tot (ed1 ed) s n
  | 0, j, s, o, _, _, ho => ⟨ho, by simp [fnO] <;> omega⟩
  | f + 1, j, s, o, hj, hs, ho => by
    unfold fnO
    split
    · obtain ⟨a1, a2, a3⟩ := fnF_ok he (tot (ed1 ed) s n + 2) [(j : Int)] s o (fun y hy => by rw [List.mem_singleton] at hy; omega) hs ho
      obtain ⟨b1, b2⟩ := fnO_ok (S := S) he f (j + 1) _ _ (by omega) a2 a1
      refine ⟨b1, ?_⟩
      rw [List.length_singleton] at a3
      omega
    · obtain ⟨b1, b2⟩ := fnO_ok (S := S) he f (j + 1) s o (by omega) hs ho
      exact ⟨b1, by omega⟩
def setB (r : List Bool) (fd : List Int) : List Bool := fd.foldl (fun r x => r.set x.toNat true) r
theorem setB_len : ∀ (fd : List Int) (r : List Bool), (setB r fd).length = r.length
  | [], r => rfl
  | x :: fd, r => by
    have := setB_len fd (r.set x.toNat true)
    rw [List.length_set] at this
    exact this
def rgS (ed : Nat → List Int) (n : Nat) (p : List Bool × List Bool) (x : Int) : List Bool × List Bool :=
  (if (spF ed (tot ed p.2 n + 2) [x] p.2 []).1.length = 1 ∧ ¬ x ∈ ed x.toNat then p.1 else setB p.1 (spF ed (tot ed p.2 n + 2) [x] p.2 []).1, (spF ed (tot ed p.2 n + 2) [x] p.2 []).2)
def rgF (ed : Nat → List Int) (n : Nat) (o : List Int) : List Bool := (o.reverse.foldl (rgS ed n) (List.replicate n false, List.replicate n false)).1
def dnI (n : Nat) : (k : Nat) → k ≤ n → List (Fin n)
  | 0, _ => []
  | k + 1, h => dnI n k (by omega) ++ [⟨n - 1 - k, by omega⟩]
theorem dnI_len (n : Nat) : ∀ (k : Nat) (h : k ≤ n), (dnI n k h).length = k
  | 0, _ => rfl
  | k + 1, h => by rw [dnI, List.length_append, dnI_len n k]; rfl
def encI (N : List Int) (i : Fin N.length) : Array Value := #[.int .i64 (i.val : Int), .int .i64 (N.getD i.val 0)]
def vlF (N : List Int) (pre : List (Fin N.length)) : List Int := pre.map (fun i => N.getD i.val 0)
theorem vlF_dn (N : List Int) : ∀ (k : Nat) (h : k ≤ N.length), vlF N (dnI N.length k h) = (N.drop (N.length - k)).reverse
  | 0, _ => by
    rw [Nat.sub_zero, List.drop_eq_nil_of_le (by simp)]
    rfl
  | k + 1, h => by
    have e := vlF_dn N k (by omega)
    have hlt : N.length - (k + 1) < N.length := by omega
    rw [List.drop_eq_getElem_cons hlt, show N.length - (k + 1) + 1 = N.length - k by omega, List.reverse_cons, ← e]
    unfold vlF
    rw [dnI, List.map_append]
    have hi : N.length - 1 - k = N.length - (k + 1) := by omega
    simp only [List.map_cons, List.map_nil, hi]
    congr 2
    simp [List.getD, hlt]
theorem vlF_all (N : List Int) : vlF N (dnI N.length N.length (Nat.le_refl _)) = N.reverse := by
  rw [vlF_dn, Nat.sub_self, List.drop_zero]
def KpG (b c : Nat) (W W' : World) : Prop := W.heap.size ≤ W'.heap.size ∧ (b < W.heap.size → W'.heap[b]? = W.heap[b]?) ∧ (c < W.heap.size → W'.heap[c]? = W.heap[c]?)
theorem KpG.refl (b c : Nat) (W : World) : KpG b c W W := ⟨Nat.le_refl _, fun _ => rfl, fun _ => rfl⟩
theorem KpG.t {b c : Nat} {A B C : World} (h : KpG b c A B) (k : KpG b c B C) : KpG b c A C :=
  ⟨Nat.le_trans h.1 k.1, fun hb => (k.2.1 (Nat.lt_of_lt_of_le hb h.1)).trans (h.2.1 hb), fun hb => (k.2.2 (Nat.lt_of_lt_of_le hb h.1)).trans (h.2.2 hb)⟩
theorem KpG.b {b c : Nat} {w : World} (hb : b < w.heap.size) (hc : c < w.heap.size) (W : World) (l : Nat) (o o' : Obj) (hl : w.heap.size ≤ l) (h : W.heap[l]? = some o) (h1 : o.isCells = false) (h2 : o.isWalk = false) : KpG b c W (W.putObj l o') :=
  ⟨by simp, fun _ => World.putObj_heap_other (by omega), fun _ => World.putObj_heap_other (by omega)⟩
set_option maxRecDepth 100000 in
set_option maxHeartbeats 4000000 in
theorem back1I_in (n : Nat) (hn : 1 ≤ n) (l Bs b cap : Nat) (va : Option Addr) (N : List Int) (hN : N.length ≤ 1954687338267) (hva : 0 < N.length → va = some ⟨b, 0, none⟩) (J Jx : List (Fin N.length) → World → Prop)
    (hY : ∀ pre x W, J pre W → pre.length < N.length → YieldAt Fence.wide (n - 1) Tryz.prog l (encI N x) W fun e W' =>
      (e = .returned (.bool true) ∧ J (pre ++ [x]) W' ∧ KpG Bs b W W') ∨ (e = .returned (.bool false) ∧ Jx (pre ++ [x]) W'))
    (W : World) (hBs : Blk W Bs 23 [.slice va N.length cap]) (ys : List Value) (hb : 0 < N.length → Blk W b 3 ys) (hc : ∀ (i : Nat) (x : Int), N[i]? = some x → ys[i]? = some (.int .i64 x)) (h0 : J [] W) :
    CallsIn Fence.wide n Tryz.prog 82 #[.func (.yield l) #[] #[], .pointer (some ⟨Bs, 0, none⟩)] W fun e W' => (∃ v, e = .returned v) ∧
      ((∃ ys, ys = dnI N.length N.length (Nat.le_refl _) ∧ J ys W') ∨ (∃ pre, True ∧ Jx pre W')) := by
  have s0 := hBs.cell 0
  simp at s0
  refine callsIn_of_wp Tryz.func82 rfl trivial ?_ rfl
  simp only [Tryz.ntmps82, List.size_toArray, List.length_cons, List.length_nil, Nat.reduceAdd, Nat.reduceSub, Array.replicate_succ, Array.replicate_zero, List.push_toArray, List.append_toArray, List.nil_append, List.cons_append]
  gi_wp2
  clear s0
  gi_loopw [3] (fun i wr => ∃ (k : Nat) (hk : k ≤ N.length), i = .int .i64 ((N.length : Int) - 1 - (k : Int)) ∧ J (dnI N.length k hk) wr ∧ Hid (KpG Bs b W wr))
    (fun i _ => (intOf i + 1).toNat)
  case atStart => exact ⟨0, Nat.zero_le _, by simp, h0, hide_ (KpG.refl _ _ _)⟩
  case round =>
    obtain ⟨k, hk, rfl, hJs, HK⟩ := hrel
    have hkb : Blk wr Bs 23 [.slice va N.length cap] := hBs.of_eq (HK.out.2.1 hBs.lt)
    have s0 := hkb.cell 0
    simp at s0
    by_cases hlt : k < N.length
    · have hm : N.length - 1 - k < N.length := by omega
      have hx : N[N.length - 1 - k]? = some (N[N.length - 1 - k]'hm) := List.getElem?_eq_getElem hm
      have hxe : N.getD (N.length - 1 - k) 0 = N[N.length - 1 - k]'hm := by simp [List.getD, hm]
      obtain ⟨fn, tmps, assign, body, hy, hR⟩ := hY _ ⟨N.length - 1 - k, hm⟩ wr hJs (by rw [dnI_len]; exact hlt)
      unfold encI at hy
      dsimp only at hy
      rw [hxe] at hy
      have hbk := hb (by omega)
      have hbw : Blk wr b 3 ys := hbk.of_eq (HK.out.2.2 hbk.lt)
      have i0 := (hbw.cell (N.length - 1 - k)).trans (hc _ _ hx)
      generalize N[N.length - 1 - k]'hm = x at *
      obtain ⟨m, hmm⟩ : ∃ m : Nat, N.length - 1 - k = m := ⟨_, rfl⟩
      have hmi : (N.length : Int) - 1 - (k : Int) = (m : Int) := by omega
      have hdn : dnI N.length (k + 1) hlt = dnI N.length k hk ++ [⟨N.length - 1 - k, hm⟩] := rfl
      have HD := hide_ hdn
      have hva2 := hva (by omega)
      rw [hva2] at s0
      clear hdn hx hxe hva2
      rw [hmi]
      rw [hmm] at hy i0
      have hml : (m : Int) < N.length := by omega
      gi_wp2
      refine hR.mono ?_
      rintro e W3 (⟨rfl, hJ3, hk3⟩ | ⟨rfl, hJx3⟩)
      · gi_wp2
        go_roundw
        case rel => exact ⟨k + 1, hlt, by congr 1 <;> omega, by rw [HD.out]; exact hJ3, hide_ (HK.out.t hk3)⟩
        case measure => simp [intOf] <;> omega
      · gi_wp2
        refine bodyPost_ret (results_none rfl _ _ _) rfl ?_
        exact ⟨⟨_, rfl⟩, .inr ⟨_, trivial, hJx3⟩⟩
    · obtain rfl : k = N.length := by omega
      have hmi : (N.length : Int) - 1 - (N.length : Int) = -1 := by omega
      rw [hmi]
      gi_wp2
      go_end0
      exact ⟨⟨_, rfl⟩, .inl ⟨_, rfl, hJs⟩⟩
set_option maxRecDepth 100000 in
set_option maxHeartbeats 4000000 in
theorem backI_any (va : Option Addr) (n cap : Nat) (w : World) :
    Calls Tryz.prog 57 #[.slice va n cap] w fun e w' => e = .returned (.func (.func 82) #[] #[.pointer (some ⟨w.heap.size, 0, none⟩)]) ∧ w' = w.alloc (.cells #[.slice va n cap] 23) := by
  have hmf : ∀ (fn : Fn) (first cap : Array Value) (w : World), (Instr.makeFunc fn first cap).run Tryz.prog w = .ok (.func fn first cap) w := fun _ _ _ _ => rfl
  go_enter Tryz.func57, Tryz.ntmps57
  go_wp2
  go_ret
  exact ⟨rfl, rfl⟩
theorem backI_stops (n : Nat) (hn : 1 ≤ n) (Bs b cap : Nat) (va : Option Addr) (N : List Int) (hN : N.length ≤ 1954687338267) (hva : 0 < N.length → va = some ⟨b, 0, none⟩) (w : World) (hBs : Blk w Bs 23 [.slice va N.length cap]) (ys : List Value) (hb : 0 < N.length → Blk w b 3 ys) (hc : ∀ (i : Nat) (x : Int), N[i]? = some x → ys[i]? = some (.int .i64 x)) :
    SeqStopsK Fence.wide n Tryz.prog 82 #[.pointer (some ⟨Bs, 0, none⟩)] (encI N) (KpG Bs b) (fun ys => ys = dnI N.length N.length (Nat.le_refl _)) (fun _ => True) N.length w := fun l J Jx W hW _ _ hY h0 =>
  back1I_in n hn l Bs b cap va N hN hva J Jx hY W (hBs.later hW) ys (fun h => (hb h).later hW) hc h0
end Go.Proofs.YtjamfbpdepahnaaGreat
namespace Go.Proofs.YtjamfbpdepahnaaGreat
open Go.RowKit Go.Shelf
set_option linter.unusedVariables false
set_option linter.unusedSimpArgs false
attribute [local go_sem] Oper.semAt_some
def RgTo (w : World) (n : Nat) (R : List Bool) (e : Ending) (w' : World) : Prop := ∃ g, e = .returned (.slice (some ⟨g, 0, none⟩) n n) ∧ w.heap.size ≤ g ∧ Blk w' g 4 (R.map Value.bool) ∧ R.length = n ∧ Below w.heap.size w w'
def RgI (W0 W : World) (gr gn n : Nat) (st : List Bool × List Bool) : Prop := st.1.length = n ∧ st.2.length = n ∧ Upd (fun k => k = gr ∨ k = gn) W0 W ∧ Blk W gr 4 (st.1.map Value.bool) ∧ Blk W gn 4 (st.2.map Value.bool)
theorem RgI.grown {W0 X Y : World} {gr gn n : Nat} {st : List Bool × List Bool} {row : Option Nat} (h : RgI W0 X gr gn n st) (hg : X.grownBy Y row) (hr : ∀ r, row = some r → W0.heap.size ≤ r ∧ ∃ o : Obj, X.heap[r]? = some o ∧ o.isCells = false) : RgI W0 Y gr gn n st := by
  have nb : ∀ k t ys, Blk X k t ys → ¬ row = some k := fun k t ys hb e => by
    obtain ⟨-, o, h1, h2⟩ := hr k e
    unfold Blk at hb
    rw [hb] at h1
    simp only [Option.some.injEq] at h1
    subst h1
    cases h2
  have hu : Upd (fun k => row = some k) X Y := (Upd.refl _ X).grown hg (fun k e => .inl e)
  exact ⟨h.1, h.2.1, h.2.2.1.grown hg (fun k e => .inr (hr k e).1), h.2.2.2.1.upd hu (nb _ _ _ h.2.2.2.1), h.2.2.2.2.upd hu (nb _ _ _ h.2.2.2.2)⟩
theorem rgI_own {β : Type} (W0 : World) (gr gn n : Nat) (f : β → List Bool × List Bool) : OwnFrom W0.heap.size (fun s W => RgI W0 W gr gn n (f s)) := fun s X Y row hs hg hr => hs.grown hg hr
theorem rg_round {W W' : World} {gr gn Bs go B0 : Nat} (hu : Upd (fun k => k = gr ∨ k = gn) W W') (h1 : gr < B0) (h2 : gn < B0) (h3 : Bs ≠ gr) (h4 : Bs ≠ gn) (h5 : go ≠ gr) (h6 : go ≠ gn) : KeepsFrom B0 W W' ∧ KpG Bs go W W' := by
  refine ⟨⟨hu.size, fun k o hk ho hc => (hu.block k (Array.getElem?_eq_some_iff.1 ho).1 (fun e => by omega)).trans ho⟩, hu.size, fun hb => hu.block Bs hb (fun e => by omega), fun hb => hu.block go hb (fun e => by omega)⟩
set_option maxRecDepth 100000 in
set_option maxHeartbeats 16000000 in
theorem rings_any (b cc ce gs gq gb B n : Nat) (ac ae : Option Addr) (enc : Bool) (C : List In) (E : List Int) (S : List St) (Q : List Bool) (vs : List Value) (U : List (List Int)) (w : World) (hn : C.length = n) (hUl : U.length = n) (hn9 : n ≤ 1048576) (hcc : C.length ≤ cc) (hcl : cc ≤ 9223372036854775807) (he : Hid (∀ k, k < n → Stn n (uA U k))) (hT : Hid (∀ s, tot (uA U) s n ≤ 65 * n))
    (hC : Hid (CeOk enc C E)) (hI : Hid (∀ k, k < n → cameP S k = true → Inn C k ∧ ∀ y ∈ waysP C k, cameP S y.toNat = true)) (hK : Hid (BkR w B gb vs U)) (h : Hid (PtS w b cc ce gs gq ac ae enc C E S Q (.slice (some ⟨gb, 0, none⟩) n n))) :
    Calls Tryz.prog 39 #[.pointer (some ⟨b, 0, none⟩)] w fun e w' => RgTo w n (rgF (uA U) n (fnO (edB C E S Q) S n n 0 (List.replicate n false) [])) e w' := by
  obtain ⟨ed, hed⟩ : ∃ ed, uA U = ed := ⟨_, rfl⟩
  have HSp : Hid (∀ (wx : World) (gn k : Nat) (s : List Bool), Below w.heap.size w wx → k < n → s.length = n → w.heap.size ≤ gn → Blk wx gn 4 (s.map Value.bool) → Calls Tryz.prog 41 #[.int .i64 (k : Int), .func (.func 59) #[.pointer (some ⟨b, 0, none⟩)] #[], .slice (some ⟨gn, 0, none⟩) n n] wx fun e w' => SpTo wx gn n (spF ed (tot ed s n + 2) [(k : Int)] s []) e w') := hide_ (fun wx gn k s h1 h2 h3 h4 h5 => by
    rw [← hed]
    exact spBack b cc ce gs gq gb B n k gn ac ae enc C E S Q vs U w hUl hn9 he.out hT.out hK.out h.out wx s h1 h2 h3 h4 h5)
  have HSo : Hid (∀ (k : Nat) (s : List Bool), k < n → s.length = n → Stn n (spF ed (tot ed s n + 2) [(k : Int)] s []).1 ∧ (spF ed (tot ed s n + 2) [(k : Int)] s []).2.length = n ∧ (spF ed (tot ed s n + 2) [(k : Int)] s []).1.length ≤ 1 + 65 * n) := hide_ (fun k s hk hs => by
    have h1 := spF_ok (ed := ed) (by rw [← hed]; exact he.out) (tot ed s n + 2) [(k : Int)] s [] (fun y hy => by rw [List.mem_singleton] at hy; omega) hs (fun y hy => by cases hy)
    have h2 := hT.out s
    rw [hed] at h2
    refine ⟨h1.1, h1.2.1, ?_⟩
    have h3 := h1.2.2
    simp only [List.length_nil, List.length_singleton] at h3
    omega)
  have HFn : Hid (∀ wx, Below w.heap.size w wx → Calls Tryz.prog 58 #[.pointer (some ⟨b, 0, none⟩)] wx fun e w' => FnTo wx (fnO (edB C E S Q) S n n 0 (List.replicate n false) []) e w') := hide_ (fun wx hB => finished_any b cc ce gs gq n ac ae enc C E S Q _ wx hn hn9 hcc hcl hC hI (hide_ (h.out.later hB)))
  have hord := fnO_ok (ed := edB C E S Q) (S := S) (n := n) (fun k hk y hy => by
    unfold edB at hy
    split at hy
    · rename_i hc
      have h1 := (hI.out k hk hc).1 y (bare_sub hy)
      rw [hn] at h1
      exact h1
    · cases hy) n 0 (List.replicate n false) [] (by omega) (by simp) (fun y hy => by cases hy)
  have hordT : tot (ed1 (edB C E S Q)) (List.replicate n false) n ≤ 65 * n := tot_bound _ n (fun k hk => by
    have h1 : (edB C E S Q k).length ≤ 64 := by
      unfold edB
      split
      · exact bare_len (E := E) hC.out.cd (by omega) S Q
      · simp
    simp [ed1]
    omega)
  rw [hed]
  obtain ⟨O, hO⟩ : ∃ O, fnO (edB C E S Q) S n n 0 (List.replicate n false) [] = O := ⟨_, rfl⟩
  rw [hO] at HFn hord ⊢
  have HO0 : Hid (Stn n O ∧ O.length ≤ 66 * n) := hide_ ⟨hord.1, by have := hord.2; simp only [List.length_nil] at this; omega⟩
  have HUl := hide_ hUl
  have Hed := hide_ hed
  clear hord hordT hO hed hUl
  obtain ⟨-, -, -, c3, -, c5⟩ := h.out.cells
  rw [hn] at c3
  have Hb := hide_ h.out.blk.lt
  have HKb := hK
  have Hpt := h
  obtain ⟨w1, hw1⟩ : ∃ wx, w.alloc (.cells #[.pointer (some ⟨b, 0, none⟩)] 105) = wx := ⟨_, rfl⟩
  have hB1 : Below w.heap.size w w1 := by rw [← hw1]; exact below1 _ _
  have hK1 : Blk w1 w.heap.size 105 [.pointer (some ⟨b, 0, none⟩)] := by rw [← hw1]; exact Blk.newA _ _ _
  have hz1 : w1.heap.size = w.heap.size + 1 := by rw [← hw1]; simp
  obtain ⟨w2, hmk2, hK2, hB2, hz2⟩ : ∃ w2, (Instr.makeSlice 43 (.int .i64 (n : Int)) (.int .i64 (n : Int))).run Tryz.prog w1 = .ok (.slice (some ⟨w1.heap.size, 0, none⟩) n n) w2 ∧ Blk w2 w1.heap.size 4 ((List.replicate n false).map Value.bool) ∧ Below w1.heap.size w1 w2 ∧ w2.heap.size = w1.heap.size + 1 := ⟨_, makeBo n (by omega) w1, newBo w1 n, below1 _ _, by simp⟩
  obtain ⟨w3, hw3⟩ : ∃ wx, w2.alloc (.cells #[.slice (some ⟨w1.heap.size, 0, none⟩) n n] 43) = wx := ⟨_, rfl⟩
  have hB3 : Below w2.heap.size w2 w3 := by rw [← hw3]; exact below1 _ _
  have hK3 : Blk w3 w2.heap.size 43 [.slice (some ⟨w1.heap.size, 0, none⟩) n n] := by rw [← hw3]; exact Blk.newA _ _ _
  have hz3 : w3.heap.size = w2.heap.size + 1 := by rw [← hw3]; simp
  obtain ⟨w4, hmk4, hK4, hB4, hz4⟩ : ∃ w4, (Instr.makeSlice 43 (.int .i64 (n : Int)) (.int .i64 (n : Int))).run Tryz.prog w3 = .ok (.slice (some ⟨w3.heap.size, 0, none⟩) n n) w4 ∧ Blk w4 w3.heap.size 4 ((List.replicate n false).map Value.bool) ∧ Below w3.heap.size w3 w4 ∧ w4.heap.size = w3.heap.size + 1 := ⟨_, makeBo n (by omega) w3, newBo w3 n, below1 _ _, by simp⟩
  obtain ⟨w5, hw5⟩ : ∃ wx, w4.alloc (.cells #[.slice (some ⟨w3.heap.size, 0, none⟩) n n] 43) = wx := ⟨_, rfl⟩
  have hB5 : Below w4.heap.size w4 w5 := by rw [← hw5]; exact below1 _ _
  have hK5 : Blk w5 w4.heap.size 43 [.slice (some ⟨w3.heap.size, 0, none⟩) n n] := by rw [← hw5]; exact Blk.newA _ _ _
  have hz5 : w5.heap.size = w4.heap.size + 1 := by rw [← hw5]; simp
  obtain ⟨q, hq⟩ : ∃ q, w.heap.size = q := ⟨_, rfl⟩
  have e1 : w1.heap.size = q + 1 := by omega
  have e2 : w2.heap.size = q + 1 + 1 := by omega
  have e3 : w3.heap.size = q + 1 + 1 + 1 := by omega
  have e4 : w4.heap.size = q + 1 + 1 + 1 + 1 := by omega
  have e5 : w5.heap.size = q + 1 + 1 + 1 + 1 + 1 := by omega
  have d1 : w1.cell? ⟨b, 3, none⟩ = some (.slice (some ⟨gs, 0, none⟩) n n) := (hB1.cell (p := ⟨b, 3, none⟩) Hb.out).trans c3
  have HBw3 := below_to (below_to hB1 hB2) hB3
  have HBw5 := below_to (below_to HBw3 hB4) hB5
  have d3 : w3.cell? ⟨b, 3, none⟩ = some (.slice (some ⟨gs, 0, none⟩) n n) := (HBw3.cell (p := ⟨b, 3, none⟩) Hb.out).trans c3
  have k1a := hK1.cell 0
  have k1b := (hK1.later (below_to hB2 hB3)).cell 0
  have k1c := (((hK1.later (below_to hB2 hB3)).later hB4).later hB5).cell 0
  simp only [List.getElem?_cons_zero] at k1a k1b k1c
  have HP5 : Hid (Blk w5 w.heap.size 105 [.pointer (some ⟨b, 0, none⟩)] ∧ Blk w5 w2.heap.size 43 [.slice (some ⟨w1.heap.size, 0, none⟩) n n] ∧ Blk w5 w4.heap.size 43 [.slice (some ⟨w3.heap.size, 0, none⟩) n n] ∧ Blk w5 w1.heap.size 4 ((List.replicate n false).map Value.bool) ∧ Blk w5 w3.heap.size 4 ((List.replicate n false).map Value.bool)) := hide_
    ⟨((hK1.later (below_to hB2 hB3)).later hB4).later hB5, (hK3.later hB4).later hB5, hK5, ((hK2.later hB3).later hB4).later hB5, hK4.later hB5⟩
  have HB5 := hide_ HBw5
  rw [hq, e1, e3] at HP5
  rw [e1] at hmk2 hw3
  rw [e3] at hmk4 hw5
  rw [hq] at k1a k1b k1c
  have Hq := hide_ hq
  have He5 := hide_ e5
  clear hK1 hK2 hK3 hK4 hK5 hB1 hB2 hB3 hB4 hB5 hz1 hz2 hz3 hz4 hz5 HBw3 HBw5 e1 e2 e3 e4 e5 hK h
  refine (callsIn_wide (n := 6)).1 ?_
  refine callsIn_of_wp_marks Tryz.func39 rfl trivial ?_ rfl
  simp only [Tryz.ntmps39, List.size_toArray, List.length_cons, List.length_nil, Nat.reduceAdd, Nat.reduceSub, Array.replicate_succ, Array.replicate_zero, List.push_toArray, List.append_toArray, List.nil_append, List.cons_append]
  gi_wp2
  refine ⟨trivial, ?_⟩
  refine (callsIn_wide.2 (HFn.out w5 HB5.out)).mono ?_
  rintro e w6 ⟨v6, rfl, hO6, hB6⟩
  obtain ⟨av, cv, ev6⟩ := hO6.slice
  subst ev6
  gi_wp2
  refine ⟨trivial, ?_⟩
  refine (callsIn_wide.2 (backI_any _ _ _ _)).mono ?_
  rintro e w7 ⟨rfl, rfl⟩
  gi_wp2
  obtain ⟨W0, hW0⟩ : ∃ W0, w6.alloc (.cells #[.slice av O.length cv] 23) = W0 := ⟨_, rfl⟩
  have hB0 : Below w6.heap.size w6 W0 := by rw [← hW0]; exact below1 _ _
  have hKB : Blk W0 w6.heap.size 23 [.slice av O.length cv] := by rw [← hW0]; exact Blk.newA _ _ _
  rw [hW0]
  have hB60 := below_to hB6 hB0
  have hz6 : w5.heap.size ≤ w6.heap.size := hB6.size
  have hz0 : w6.heap.size < W0.heap.size := hKB.lt
  obtain ⟨go, ys, hva, hgo, hgo5, hbk, hcs⟩ : ∃ (go : Nat) (ys : List Value), (0 < O.length → av = some ⟨go, 0, none⟩) ∧ go < W0.heap.size ∧ w5.heap.size ≤ go ∧ (0 < O.length → Blk W0 go 3 ys) ∧ (∀ (i : Nat) (x : Int), O[i]? = some x → ys[i]? = some (.int .i64 x)) := by
    by_cases h0 : 0 < O.length
    · obtain ⟨g, cap, ys, e, hb, -, -, -, hty, hbl⟩ := own_blk hO6 h0
      injection e with e1 e2 e3
      have hbl0 := hbl.later hB0
      refine ⟨g, ys, fun _ => e1, hbl0.lt, hb, fun _ => hbl0, fun i x hx => ?_⟩
      have hil : i < O.length := (List.getElem?_eq_some_iff.1 hx).1
      have h1 : (ys.take O.length)[i]? = some (.int .i64 x) := by
        rw [hty]
        unfold cellsL
        rw [List.getElem?_map, hx]
        rfl
      rw [List.getElem?_take_of_lt hil] at h1
      exact h1
    · refine ⟨w6.heap.size, [], fun h => absurd h h0, hz0, hz6, fun h => absurd h h0, fun i x hx => ?_⟩
      have hil : i < O.length := (List.getElem?_eq_some_iff.1 hx).1
      omega
  obtain ⟨Bs, hBs⟩ : ∃ Bs, w6.heap.size = Bs := ⟨_, rfl⟩
  rw [hBs] at hKB hz0 hz6 ⊢
  obtain ⟨q2, hq2⟩ : ∃ q2, w2.heap.size = q2 := ⟨_, rfl⟩
  obtain ⟨q4, hq4⟩ : ∃ q4, w4.heap.size = q4 := ⟨_, rfl⟩
  rw [hq2, hq4] at HP5 ⊢
  obtain ⟨gr, hgr⟩ : ∃ gr, q + 1 = gr := ⟨_, rfl⟩
  obtain ⟨gn, hgn⟩ : ∃ gn, gr + 1 + 1 = gn := ⟨_, rfl⟩
  rw [hgr] at HP5 ⊢
  rw [hgn] at HP5 ⊢
  have hP5 := HP5.out
  have hgn5 := hP5.2.2.2.2.lt
  have hgr5 := hP5.2.2.2.1.lt
  have HgW0 : Hid (w.heap.size ≤ gr ∧ w.heap.size ≤ gn) := hide_ (by have := Hq.out; omega)
  have Hne : Hid (gr ≠ gn) := hide_ (by omega)
  have HgB : Hid (gr < W0.heap.size ∧ gn < W0.heap.size ∧ Bs ≠ gr ∧ Bs ≠ gn ∧ go ≠ gr ∧ go ≠ gn) := hide_ ⟨by omega, by omega, by omega, by omega, by omega, by omega⟩
  have HBW : Hid (Below w.heap.size w W0) := hide_ (below_to HB5.out hB60)
  have HI0 : Hid (RgI W0 W0 gr gn n ((vlF O []).foldl (rgS ed n) (List.replicate n false, List.replicate n false))) := hide_ ⟨by simp [vlF], by simp [vlF], Upd.refl _ _, (hP5.2.2.2.1).later hB60, (hP5.2.2.2.2).later hB60⟩
  have hq2g : q2 ≠ gr ∧ q2 ≠ gn := ⟨fun e => absurd (blk_type (e ▸ hP5.2.1) hP5.2.2.2.1) (by decide), fun e => absurd (blk_type (e ▸ hP5.2.1) hP5.2.2.2.2) (by decide)⟩
  have hq4g : q4 ≠ gr ∧ q4 ≠ gn := ⟨fun e => absurd (blk_type (e ▸ hP5.2.2.1) hP5.2.2.2.1) (by decide), fun e => absurd (blk_type (e ▸ hP5.2.2.1) hP5.2.2.2.2) (by decide)⟩
  have hq0g : q ≠ gr ∧ q ≠ gn := ⟨fun e => absurd (blk_type (e ▸ hP5.1) hP5.2.2.2.1) (by decide), fun e => absurd (blk_type (e ▸ hP5.1) hP5.2.2.2.2) (by decide)⟩
  have HBx0 : Hid (∀ W, Upd (fun k => k = gr ∨ k = gn) W0 W → W.cell? ⟨q, 0, none⟩ = some (.pointer (some ⟨b, 0, none⟩)) ∧ W.cell? ⟨q2, 0, none⟩ = some (.slice (some ⟨gr, 0, none⟩) n n) ∧ W.cell? ⟨q4, 0, none⟩ = some (.slice (some ⟨gn, 0, none⟩) n n)) := hide_ (fun W hu =>
    ⟨((hP5.1.later hB60).upd hu (fun e => by omega)).cell 0, ((hP5.2.1.later hB60).upd hu (fun e => by omega)).cell 0, ((hP5.2.2.1.later hB60).upd hu (fun e => by omega)).cell 0⟩)
  have hONl : O.length ≤ 1954687338267 := by have := HO0.out.2; omega
  clear hP5 hgn5 hgr5 HP5 hB6 hB0 hB60 hW0 hz6 hq2g hq4g hq0g hO6 hgo5 c3 d1 d3 k1a k1b k1c hmk2 hmk4 hw1 hw3 hw5 hq2 hq4 hgr hgn hBs hq HFn hC hI
  refine wpIn_rangeFunc_ownH rfl (by decide) (gf := 82) (lb := #[.pointer (some ⟨Bs, 0, none⟩)]) rfl trivial (enters_of Tryz.func82 (by kernel_rfl) rfl)
    (backI_stops 5 (by decide) Bs go cv av O hONl hva W0 hKB ys hbk hcs) KpG.t (KpG.b hz0 hgo) (Below.refl _ _) (fun _ => rfl)
    (fun pre W => RgI W0 W gr gn n ((vlF O pre).foldl (rgS ed n) (List.replicate n false, List.replicate n false)))
    (fun _ _ _ => False)
    (rgI_own W0 gr gn n (fun pre => (vlF O pre).foldl (rgS ed n) (List.replicate n false, List.replicate n false)))
    (fun _ _ _ _ _ hs _ _ => hs)
    HI0.out
    (fun x a' W => a' = { tmps := #[.pointer (some ⟨b, 0, none⟩), .pointer (some ⟨q, 0, none⟩), .slice none 0 0, .pointer (some ⟨q2, 0, none⟩), .pointer (some ⟨q4, 0, none⟩), undef, .int .i64 (O.getD x.val 0), undef, undef, undef, .pointer (some ⟨b, 0, none⟩), .pointer (some ⟨b, 0, none⟩), .pointer (some ⟨b, 3, none⟩), .slice (some ⟨gs, 0, none⟩) n n, .int .i64 (n : Int), .slice (some ⟨gr, 0, none⟩) n n, .pointer (some ⟨b, 0, none⟩), .pointer (some ⟨b, 0, none⟩), .pointer (some ⟨b, 3, none⟩), .slice (some ⟨gs, 0, none⟩) n n, .int .i64 (n : Int), .slice (some ⟨gn, 0, none⟩) n n, .pointer (some ⟨b, 0, none⟩), .slice av O.length cv, .func (.func 82) #[] #[.pointer (some ⟨Bs, 0, none⟩)], .int .i64 (x.val : Int), .int .i64 (O.getD x.val 0), undef, undef, undef, undef, undef, undef, undef, undef, undef, undef, undef, undef, undef, undef, undef, undef, undef, undef, undef, undef, undef, undef, undef, undef, undef, undef, undef, undef, undef, undef, undef], defers := [] })
    (fun x a' _ X Y row hs hg hr => hs)
    ?assign ?body ?done ?stop
  case assign =>
    rintro l pre x W K hI hK
    simp only [encI] at hK ⊢
    generalize O.getD x.val 0 = y at *
    gi_wp2
    exact hK _ _ (KeepsFrom.refl _ _) (KpG.refl _ _ _) hI rfl
  case body =>
    rintro l pre x a' W hl ⟨r, hr2⟩ hI rfl hlt
    have hx : O.getD x.val 0 ∈ O := by
      have e : O.getD x.val 0 = O[x.val]'x.isLt := by simp [List.getD]
      rw [e]; exact List.getElem_mem _
    obtain ⟨y0, y1⟩ := HO0.out.1 _ hx
    have HNx : Hid ((vlF O (pre ++ [x])).foldl (rgS ed n) (List.replicate n false, List.replicate n false) = rgS ed n ((vlF O pre).foldl (rgS ed n) (List.replicate n false, List.replicate n false)) (O.getD x.val 0)) := hide_ (by
      unfold vlF
      rw [List.map_append, List.foldl_append]
      rfl)
    obtain ⟨st, hst⟩ : ∃ st, (vlF O pre).foldl (rgS ed n) (List.replicate n false, List.replicate n false) = st := ⟨_, rfl⟩
    rw [hst] at HNx hI
    generalize O.getD x.val 0 = y at *
    obtain ⟨k, rfl⟩ := Int.eq_ofNat_of_zero_le y0
    have hkn : k < n := by omega
    have hkn' : (k : Int) < (n : Int) := by omega
    obtain ⟨hl1, hl2, hU, hKr, hKn⟩ := hI
    have Hl1 := hide_ hl1
    have HU0 := hide_ hU
    have hBW : Below w.heap.size w W := below_to2 HBW.out hU (fun q e => by have := HgW0.out; omega)
    have HSj := hide_ (HSp.out W gn k st.2 hBW hkn hl2 HgW0.out.2 hKn)
    have HSoj := hide_ (HSo.out k st.2 hkn hl2)
    obtain ⟨RR, hRR⟩ : ∃ RR, spF ed (tot ed st.2 n + 2) [(k : Int)] st.2 [] = RR := ⟨_, rfl⟩
    rw [hRR] at HSj HSoj
    have hrg : rgS ed n st (k : Int) = (if RR.1.length = 1 ∧ ¬ (k : Int) ∈ ed k then st.1 else setB st.1 RR.1, RR.2) := by
      unfold rgS
      rw [hRR, Int.toNat_natCast]
    rw [hrg] at HNx
    clear hrg
    have HBx : Hid (∀ W', Upd (fun k => k = gr ∨ k = gn) W W' → W'.cell? ⟨q, 0, none⟩ = some (.pointer (some ⟨b, 0, none⟩)) ∧ W'.cell? ⟨q2, 0, none⟩ = some (.slice (some ⟨gr, 0, none⟩) n n) ∧ W'.cell? ⟨q4, 0, none⟩ = some (.slice (some ⟨gn, 0, none⟩) n n)) := hide_ (fun W' hu => HBx0.out W' (hU.to hu))
    obtain ⟨m1, -, m3⟩ := HBx.out W (Upd.refl _ _)
    have HKr := hide_ hKr
    have HBWh := hide_ hBW
    have HgW : Hid (gr < W.heap.size) := hide_ hKr.lt
    clear hst hx y0 y1 hl1 hl2 hU hKr hKn hBW hRR hr2 HI0 hbk hcs hKB HBx0 HSp HSo HO0 hva
    gi_wp2
    refine ⟨trivial, ?_⟩
    refine (CallsIn.inRound l (callsIn_wide.2 HSj.out)).mono ?_
    rintro e w8 hT8
    obtain ⟨v8, rfl, hO8, hK8, hl8, hU8⟩ := hT8
    obtain ⟨a8, c8, ev8⟩ := hO8.slice
    subst ev8
    have HO8 := hide_ hO8
    have HK8 := hide_ hK8
    have HL8 := hide_ (HKr.out.upd hU8 (fun e => Hne.out e))
    have HU8 : Hid (Upd (fun k => k = gr ∨ k = gn) W w8) := hide_ (hU8.mono (fun k _ e => .inr e))
    have hB8 := below_to2 HBWh.out hU8 (fun q e => by rw [e]; exact HgW0.out.2)
    have hfl : RR.1.length ≤ 1 + 65 * n := HSoj.out.2.2
    have n1 := (HBx.out w8 HU8.out).1
    have HBk8 := hide_ (HKb.out.later hB8)
    have HPt8 := hide_ (Hpt.out.later hB8)
    clear hO8 hK8 hl8 hU8 HSj m1 m3 HKr hB8
    by_cases h1 : RR.1.length = 1
    · obtain ⟨-, -, -, -, -, c5'⟩ := HPt8.out.cells
      obtain ⟨vk, hvk⟩ : ∃ vk, vs[k]? = some vk := ⟨_, List.getElem?_eq_getElem (by rw [HBk8.out.len, HUl.out]; exact hkn)⟩
      have cvk := (HBk8.out.blk.cell k).trans hvk
      obtain ⟨ak, ck, evk, hrk, hnk, -⟩ := (HBk8.out.own k vk hvk).row
      subst evk
      obtain ⟨d, hd⟩ : ∃ d, decide ((k : Int) ∈ ed k) = d := ⟨_, rfl⟩
      have HCt : Hid (Calls Tryz.prog 60 #[.slice ak (uA U k).length ck, .int .i64 (k : Int)] w8 fun e w' => e = .returned (.bool d) ∧ w8 = w') := hide_ (by
        have h2 := containsI_any ak _ ck (uA U k) (k : Int) w8 rfl (by
          have h3 := tot_set (uA U) (List.replicate n false) k (by simp; omega) (qAt_new n k) n hkn
          have h4 := hT.out (List.replicate n false)
          omega) (hide_ hrk)
        rw [Hed.out, hd] at h2
        rw [Hed.out]
        exact h2)
      have Hd := hide_ hd
      have H1 := hide_ h1
      clear hvk hrk hnk hd
      cases d
      · have HX : Hid (KeepsFrom W0.heap.size W w8 ∧ KpG Bs go W w8 ∧ RgI W0 w8 gr gn n ((vlF O (pre ++ [x])).foldl (rgS ed n) (List.replicate n false, List.replicate n false))) := hide_ (by
          obtain ⟨k1, k2⟩ := rg_round HU8.out HgB.out.1 HgB.out.2.1 HgB.out.2.2.1 HgB.out.2.2.2.1 HgB.out.2.2.2.2.1 HgB.out.2.2.2.2.2
          refine ⟨k1, k2, ?_⟩
          rw [HNx.out, if_pos ⟨H1.out, of_decide_eq_false Hd.out⟩]
          exact ⟨Hl1.out, HSoj.out.2.1, HU0.out.to HU8.out, HL8.out, HK8.out⟩)
        rw [h1]
        gi_wp2
        refine ⟨trivial, ?_⟩
        refine (CallsIn.inRound l (callsIn_wide.2 HCt.out)).mono ?_
        rintro e w9 ⟨rfl, rfl⟩
        gi_wp2
        exact HX.out
      · rw [if_neg (fun e => e.2 (of_decide_eq_true Hd.out))] at HNx
        have h1' : ((RR.1.length : Int) == 1) = true := by rw [h1]; rfl
        clear h1
        gi_wp2
        refine ⟨trivial, ?_⟩
        refine (CallsIn.inRound l (callsIn_wide.2 HCt.out)).mono ?_
        rintro e w9 ⟨rfl, rfl⟩
        gi_wp2
        gi_loopw [49] (fun x49 wr => ∃ (i : Nat) (r2 : List Bool), i ≤ RR.1.length ∧ x49 = .int .i64 (i : Int) ∧ Hid (setB r2 (RR.1.drop i) = setB st.1 RR.1) ∧ Hid (r2.length = n) ∧ Hid (Blk wr gn 4 (RR.2.map Value.bool)) ∧ Hid (Blk wr gr 4 (r2.map Value.bool)) ∧ Hid (IOwn wr W.heap.size (.slice a8 RR.1.length c8) RR.1) ∧ Hid (Upd (fun k => k = gr ∨ k = gn) W wr)) (fun x49 _ => RR.1.length - (intOf x49).toNat)
        case atStart => exact ⟨0, st.1, by omega, rfl, hide_ rfl, Hl1, HK8, HL8, HO8, HU8⟩
        case round =>
          clear HK8 HL8 HO8 HU8
          obtain ⟨i, r2, hi, rfl, HRi, Hr2l, HKi, HLi, HOi, HUi⟩ := hrel
          generalize wr = wp at *
          by_cases hil : i < RR.1.length
          · have hil' : (i : Int) < (RR.1.length : Int) := by omega
            obtain ⟨g, c, hv, hcv, hgB, hgL⟩ := HOi.out.open (by omega)
            injection hv with hv1 hv2 hv3
            subst hv1
            obtain ⟨cy, -⟩ := HOi.out.cellH (i := i) hil
            obtain ⟨y0, y1⟩ := HSoj.out.1 _ (hAt_mem (l := RR.1) (i := i) hil)
            obtain ⟨m, hm⟩ := Int.eq_ofNat_of_zero_le y0
            rw [hm] at cy y1
            have hmn : (m : Int) < (n : Int) := y1
            have HRi2 : Hid (setB (r2.set m true) (RR.1.drop (i + 1)) = setB st.1 RR.1) := hide_ (by
              have h1 := HRi.out
              rw [List.drop_eq_getElem_cons hil] at h1
              have h2 : RR.1[i] = (m : Int) := by
                rw [← hm]
                simp [hAt, List.getD, hil]
              rw [h2] at h1
              unfold setB at h1 ⊢
              rw [List.foldl_cons, Int.toNat_natCast] at h1
              exact h1)
            have cx := bAt HLi.out (k := m) (by rw [Hr2l.out]; omega)
            have zx := HLi.out.frozen m
            have cb := (HBx.out wp HUi.out).2.1
            obtain ⟨w9, hw9⟩ : ∃ wx, wp.setCell ⟨gr, m, none⟩ (.bool true) = wx := ⟨_, rfl⟩
            have hU9 : Upd (fun k => k = gr) wp w9 := by rw [← hw9]; exact (Upd.refl _ wp).set _ _ (.inl rfl)
            have HL9 : Hid (Blk w9 gr 4 ((r2.set m true).map Value.bool)) := hide_ (by
              rw [← hw9]
              exact bset HLi.out)
            have HK9 := hide_ (HKi.out.upd hU9 (fun e => Hne.out e.symm))
            have HO9 := hide_ (HOi.out.upd hU9 (fun q e e2 => by
              have h1 := (HOi.out.lies e).1
              have h2 := HgW.out
              omega))
            have HU9 : Hid (Upd (fun k => k = gr ∨ k = gn) W w9) := hide_ (HUi.out.to (hU9.mono (fun k _ e => .inl e)))
            clear hv2 hv3 hcv hgB hgL y0 y1 hm HRi HLi HKi HOi HUi hU9
            gi_wp2
            try rw [hw9]
            clear hw9
            go_roundw
            case rel => exact ⟨i + 1, _, by omega, by go_num, HRi2, hide_ (by rw [List.length_set]; exact Hr2l.out), HK9, HL9, HO9, HU9⟩
            case measure => simp [intOf]; omega
          · have hil' : ¬ ((i : Int) < (RR.1.length : Int)) := by omega
            have HX : Hid (KeepsFrom W0.heap.size W wp ∧ KpG Bs go W wp ∧ RgI W0 wp gr gn n ((vlF O (pre ++ [x])).foldl (rgS ed n) (List.replicate n false, List.replicate n false))) := hide_ (by
              have h1 := HRi.out
              rw [List.drop_eq_nil_of_le (by omega)] at h1
              have h2 : r2 = setB st.1 RR.1 := h1
              obtain ⟨k1, k2⟩ := rg_round HUi.out HgB.out.1 HgB.out.2.1 HgB.out.2.2.1 HgB.out.2.2.2.1 HgB.out.2.2.2.2.1 HgB.out.2.2.2.2.2
              refine ⟨k1, k2, ?_⟩
              rw [HNx.out, ← h2]
              exact ⟨Hr2l.out, HSoj.out.2.1, HU0.out.to HUi.out, HLi.out, HKi.out⟩)
            gi_wp2
            exact HX.out
    · rw [if_neg (fun e => h1 e.1)] at HNx
      have h1' : ((RR.1.length : Int) == 1) = false := by
        rw [beq_eq_false_iff_ne]
        omega
      clear h1
      gi_wp2
      refine ⟨trivial, ?_⟩
      gi_wp2
      gi_loopw [49] (fun x49 wr => ∃ (i : Nat) (r2 : List Bool), i ≤ RR.1.length ∧ x49 = .int .i64 (i : Int) ∧ Hid (setB r2 (RR.1.drop i) = setB st.1 RR.1) ∧ Hid (r2.length = n) ∧ Hid (Blk wr gn 4 (RR.2.map Value.bool)) ∧ Hid (Blk wr gr 4 (r2.map Value.bool)) ∧ Hid (IOwn wr W.heap.size (.slice a8 RR.1.length c8) RR.1) ∧ Hid (Upd (fun k => k = gr ∨ k = gn) W wr)) (fun x49 _ => RR.1.length - (intOf x49).toNat)
      case atStart => exact ⟨0, st.1, by omega, rfl, hide_ rfl, Hl1, HK8, HL8, HO8, HU8⟩
      case round =>
        clear HK8 HL8 HO8 HU8
        obtain ⟨i, r2, hi, rfl, HRi, Hr2l, HKi, HLi, HOi, HUi⟩ := hrel
        generalize wr = wp at *
        by_cases hil : i < RR.1.length
        · have hil' : (i : Int) < (RR.1.length : Int) := by omega
          obtain ⟨g, c, hv, hcv, hgB, hgL⟩ := HOi.out.open (by omega)
          injection hv with hv1 hv2 hv3
          subst hv1
          obtain ⟨cy, -⟩ := HOi.out.cellH (i := i) hil
          obtain ⟨y0, y1⟩ := HSoj.out.1 _ (hAt_mem (l := RR.1) (i := i) hil)
          obtain ⟨m, hm⟩ := Int.eq_ofNat_of_zero_le y0
          rw [hm] at cy y1
          have hmn : (m : Int) < (n : Int) := y1
          have HRi2 : Hid (setB (r2.set m true) (RR.1.drop (i + 1)) = setB st.1 RR.1) := hide_ (by
            have h1 := HRi.out
            rw [List.drop_eq_getElem_cons hil] at h1
            have h2 : RR.1[i] = (m : Int) := by
              rw [← hm]
              simp [hAt, List.getD, hil]
            rw [h2] at h1
            unfold setB at h1 ⊢
            rw [List.foldl_cons, Int.toNat_natCast] at h1
            exact h1)
          have cx := bAt HLi.out (k := m) (by rw [Hr2l.out]; omega)
          have zx := HLi.out.frozen m
          have cb := (HBx.out wp HUi.out).2.1
          obtain ⟨w9, hw9⟩ : ∃ wx, wp.setCell ⟨gr, m, none⟩ (.bool true) = wx := ⟨_, rfl⟩
          have hU9 : Upd (fun k => k = gr) wp w9 := by rw [← hw9]; exact (Upd.refl _ wp).set _ _ (.inl rfl)
          have HL9 : Hid (Blk w9 gr 4 ((r2.set m true).map Value.bool)) := hide_ (by
            rw [← hw9]
            exact bset HLi.out)
          have HK9 := hide_ (HKi.out.upd hU9 (fun e => Hne.out e.symm))
          have HO9 := hide_ (HOi.out.upd hU9 (fun q e e2 => by
            have h1 := (HOi.out.lies e).1
            have h2 := HgW.out
            omega))
          have HU9 : Hid (Upd (fun k => k = gr ∨ k = gn) W w9) := hide_ (HUi.out.to (hU9.mono (fun k _ e => .inl e)))
          clear hv2 hv3 hcv hgB hgL y0 y1 hm HRi HLi HKi HOi HUi hU9
          gi_wp2
          try rw [hw9]
          clear hw9
          go_roundw
          case rel => exact ⟨i + 1, _, by omega, by go_num, HRi2, hide_ (by rw [List.length_set]; exact Hr2l.out), HK9, HL9, HO9, HU9⟩
          case measure => simp [intOf]; omega
        · have hil' : ¬ ((i : Int) < (RR.1.length : Int)) := by omega
          have HX : Hid (KeepsFrom W0.heap.size W wp ∧ KpG Bs go W wp ∧ RgI W0 wp gr gn n ((vlF O (pre ++ [x])).foldl (rgS ed n) (List.replicate n false, List.replicate n false))) := hide_ (by
            have h1 := HRi.out
            rw [List.drop_eq_nil_of_le (by omega)] at h1
            have h2 : r2 = setB st.1 RR.1 := h1
            obtain ⟨k1, k2⟩ := rg_round HUi.out HgB.out.1 HgB.out.2.1 HgB.out.2.2.1 HgB.out.2.2.2.1 HgB.out.2.2.2.2.1 HgB.out.2.2.2.2.2
            refine ⟨k1, k2, ?_⟩
            rw [HNx.out, ← h2]
            exact ⟨Hr2l.out, HSoj.out.2.1, HU0.out.to HUi.out, HLi.out, HKi.out⟩)
          gi_wp2
          exact HX.out
  case done =>
    rintro D zs W hD rfl hI hKD
    have m2 := (HBx0.out W hI.2.2.1).2.1
    have HX : Hid (RgTo w n (rgF ed n O) (.returned (.slice (some ⟨gr, 0, none⟩) n n)) (W.putObj D (.deferred none))) := hide_ (by
      have h2 := hI.grown (grownBy_putObj' W D (.deferred none)) (fun r e => by cases e; exact ⟨hD, _, hKD, rfl⟩)
      rw [vlF_all] at h2
      exact ⟨gr, rfl, HgW0.out.1, h2.2.2.2.1, h2.1, below_to2 HBW.out h2.2.2.1 (fun q e => by have := HgW0.out; omega)⟩)
    gi_wp2
    refine ⟨by simp, .inl ⟨_, _, rfl, run_takeDeferred hKD, ?_⟩⟩
    refine ⟨_, results_tmp rfl _ _ _, ?_⟩
    exact HX.out
  case stop =>
    rintro D c pre W hD _ h _
    exact h.elim
end Go.Proofs.YtjamfbpdepahnaaGreat
