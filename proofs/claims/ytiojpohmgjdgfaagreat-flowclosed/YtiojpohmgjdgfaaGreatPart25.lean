import Derived.Test.YtiojpohmgjdgfaaGreatPart23
import Derived.RangeFuncNested
import Derived.RangeFuncBound
import Derived.RangeFuncCalls
import Derived.RangeFuncLeaves
import Derived.Shelf.Abstract
import Derived.Shelf.RegionOpen
import Derived.OwnWalkIn
import Derived.TacticsInMore
import Derived.LoopNIn
import Derived.LoopIn

/- sound: slices.Backward over integers; finished's bounds, plain; rings, plain. -/
namespace Go.Proofs.YtiojpohmgjdgfaaGreat
open Go.RowKit Go.Shelf
set_option linter.unusedVariables false
set_option linter.unusedSimpArgs false
attribute [local go_sem] Oper.semAt_some

theorem fnF_ok {ed : Nat → List Int} {n : Nat} (he : ∀ k, k < n → Stn n (ed k)) : ∀ (f : Nat) (wk : List Int) (s : List Bool) (o : List Int), Stm n wk → s.length = n → Stn n o → Stn n (fnF ed f wk s o).2 ∧ (fnF ed f wk s o).1.length = n ∧ (fnF ed f wk s o).2.length + tot (ed1 ed) (fnF ed f wk s o).1 n ≤ o.length + wk.length + tot (ed1 ed) s n
  | 0, wk, s, o, hw, hs, ho => ⟨ho, hs, by simp [fnF] <;> omega⟩
  | f + 1, wk, s, o, hw, hs, ho => by
    unfold fnF
    by_cases h0 : wk = []
    · rw [if_pos h0]
      exact ⟨ho, hs, by simp <;> omega⟩
    rw [if_neg h0]
    have hl : 0 < wk.length := List.length_pos_iff.2 h0
    have hb := hw _ (hAt_mem (l := wk) (i := wk.length - 1) (by omega))
    have ht : (wk.take (wk.length - 1)).length = wk.length - 1 := by simp
    split
    · rename_i hneg
      obtain ⟨b1, b2, b3⟩ := fnF_ok he f (wk.take (wk.length - 1)) s (o ++ [-hAt wk (wk.length - 1) - 1]) (hw.take _) hs (fun y hy => by
        rcases List.mem_append.1 hy with hy | hy
        · exact ho y hy
        · rw [List.mem_singleton] at hy
          rw [hy]
          omega)
      refine ⟨b1, b2, ?_⟩
      rw [List.length_append, List.length_singleton] at b3
      omega
    split
    · obtain ⟨b1, b2, b3⟩ := fnF_ok he f (wk.take (wk.length - 1)) s o (hw.take _) hs ho
      exact ⟨b1, b2, by omega⟩
    · rename_i hneg hq
      have hk : (hAt wk (wk.length - 1)).toNat < n := by omega
      have hq : qAt s (hAt wk (wk.length - 1)).toNat = false := by simpa using hq
      have h3 := tot_set (ed1 ed) s _ (by omega) hq n hk
      have e1 : (ed1 ed (hAt wk (wk.length - 1)).toNat).length = (ed (hAt wk (wk.length - 1)).toNat).length + 1 := by simp [ed1]
      obtain ⟨b1, b2, b3⟩ := fnF_ok he f (wk.take (wk.length - 1) ++ [-hAt wk (wk.length - 1) - 1] ++ ed (hAt wk (wk.length - 1)).toNat) (s.set (hAt wk (wk.length - 1)).toNat true) o (((hw.take _).app (fun y hy => by rw [List.mem_singleton] at hy; omega)).app (he _ hk).stm) (by simp [hs]) ho
      refine ⟨b1, b2, ?_⟩
      rw [List.length_append, List.length_append, List.length_singleton] at b3
      omega
theorem fnO_ok {ed : Nat → List Int} {S : List St} {n : Nat} (he : ∀ k, k < n → Stn n (ed k)) : ∀ (f j : Nat) (s : List Bool) (o : List Int), j + f ≤ n → s.length = n → Stn n o → Stn n (fnO ed S n f j s o) ∧ (fnO ed S n f j s o).length ≤ o.length + f + tot (ed1 ed) s n
  | 0, j, s, o, _, _, ho => ⟨ho, by simp [fnO] <;> omega⟩
  | f + 1, j, s, o, hj, hs, ho => by
    unfold fnO
    split
    · obtain ⟨a1, a2, a3⟩ := fnF_ok he (tot (ed1 ed) s n + 2) [(j : Int)] s o (fun y hy => by rw [List.mem_singleton] at hy; omega) hs ho
      obtain ⟨b1, b2⟩ := fnO_ok (S := S) he f (j + 1) _ _ (by omega) a2 a1
      refine ⟨b1, ?_⟩
      rw [List.length_singleton] at a3
      omega
    · obtain ⟨b1, b2⟩ := fnO_ok (S := S) he f (j + 1) s o (by omega) hs ho
      exact ⟨b1, by omega⟩
def setB (r : List Bool) (fd : List Int) : List Bool := fd.foldl (fun r x => r.set x.toNat true) r
theorem setB_len : ∀ (fd : List Int) (r : List Bool), (setB r fd).length = r.length
  | [], r => rfl
  | x :: fd, r => by
    have := setB_len fd (r.set x.toNat true)
    rw [List.length_set] at this
    exact this
/-- One instruction, last finished first: the rings, what is seen. -/
def rgS (ed : Nat → List Int) (n : Nat) (p : List Bool × List Bool) (x : Int) : List Bool × List Bool :=
  (if (spF ed (tot ed p.2 n + 2) [x] p.2 []).1.length = 1 ∧ ¬ x ∈ ed x.toNat then p.1 else setB p.1 (spF ed (tot ed p.2 n + 2) [x] p.2 []).1, (spF ed (tot ed p.2 n + 2) [x] p.2 []).2)
def rgF (ed : Nat → List Int) (n : Nat) (o : List Int) : List Bool := (o.reverse.foldl (rgS ed n) (List.replicate n false, List.replicate n false)).1
/-- The numbers from n - 1 down, k of them. -/
def dnI (n : Nat) : (k : Nat) → k ≤ n → List (Fin n)
  | 0, _ => []
  | k + 1, h => dnI n k (by omega) ++ [⟨n - 1 - k, by omega⟩]
theorem dnI_len (n : Nat) : ∀ (k : Nat) (h : k ≤ n), (dnI n k h).length = k
  | 0, _ => rfl
  | k + 1, h => by rw [dnI, List.length_append, dnI_len n k]; rfl
def encI (N : List Int) (i : Fin N.length) : Array Value := #[.int .i64 (i.val : Int), .int .i64 (N.getD i.val 0)]
def vlF (N : List Int) (pre : List (Fin N.length)) : List Int := pre.map (fun i => N.getD i.val 0)
theorem vlF_dn (N : List Int) : ∀ (k : Nat) (h : k ≤ N.length), vlF N (dnI N.length k h) = (N.drop (N.length - k)).reverse
  | 0, _ => by
    rw [Nat.sub_zero, List.drop_eq_nil_of_le (by simp)]
    rfl
  | k + 1, h => by
    have e := vlF_dn N k (by omega)
    have hlt : N.length - (k + 1) < N.length := by omega
    rw [List.drop_eq_getElem_cons hlt, show N.length - (k + 1) + 1 = N.length - k by omega, List.reverse_cons, ← e]
    unfold vlF
    rw [dnI, List.map_append]
    have hi : N.length - 1 - k = N.length - (k + 1) := by omega
    simp only [List.map_cons, List.map_nil, hi]
    congr 2
    simp [List.getD, hlt]
theorem vlF_all (N : List Int) : vlF N (dnI N.length N.length (Nat.le_refl _)) = N.reverse := by
  rw [vlF_dn, Nat.sub_self, List.drop_zero]
/-- What a round keeps: two blocks. -/
def KpG (b c : Nat) (W W' : World) : Prop := W.heap.size ≤ W'.heap.size ∧ (b < W.heap.size → W'.heap[b]? = W.heap[b]?) ∧ (c < W.heap.size → W'.heap[c]? = W.heap[c]?)
theorem KpG.refl (b c : Nat) (W : World) : KpG b c W W := ⟨Nat.le_refl _, fun _ => rfl, fun _ => rfl⟩
theorem KpG.t {b c : Nat} {A B C : World} (h : KpG b c A B) (k : KpG b c B C) : KpG b c A C :=
  ⟨Nat.le_trans h.1 k.1, fun hb => (k.2.1 (Nat.lt_of_lt_of_le hb h.1)).trans (h.2.1 hb), fun hb => (k.2.2 (Nat.lt_of_lt_of_le hb h.1)).trans (h.2.2 hb)⟩
theorem KpG.b {b c : Nat} {w : World} (hb : b < w.heap.size) (hc : c < w.heap.size) (W : World) (l : Nat) (o o' : Obj) (hl : w.heap.size ≤ l) (h : W.heap[l]? = some o) (h1 : o.isCells = false) (h2 : o.isWalk = false) : KpG b c W (W.putObj l o') :=
  ⟨by simp, fun _ => World.putObj_heap_other (by omega), fun _ => World.putObj_heap_other (by omega)⟩
set_option maxRecDepth 100000 in
set_option maxHeartbeats 4000000 in
theorem back1I_in (n : Nat) (hn : 1 ≤ n) (l Bs b cap : Nat) (va : Option Addr) (N : List Int) (hN : N.length ≤ 1954687338267) (hva : 0 < N.length → va = some ⟨b, 0, none⟩) (J Jx : List (Fin N.length) → World → Prop)
    (hY : ∀ pre x W, J pre W → pre.length < N.length → YieldAt Fence.wide (n - 1) Tryz.prog l (encI N x) W fun e W' =>
      (e = .returned (.bool true) ∧ J (pre ++ [x]) W' ∧ KpG Bs b W W') ∨ (e = .returned (.bool false) ∧ Jx (pre ++ [x]) W'))
    (W : World) (hBs : Blk W Bs 23 [.slice va N.length cap]) (ys : List Value) (hb : 0 < N.length → Blk W b 3 ys) (hc : ∀ (i : Nat) (x : Int), N[i]? = some x → ys[i]? = some (.int .i64 x)) (h0 : J [] W) :
    CallsIn Fence.wide n Tryz.prog 155 #[.func (.yield l) #[] #[], .pointer (some ⟨Bs, 0, none⟩)] W fun e W' => (∃ v, e = .returned v) ∧
      ((∃ ys, ys = dnI N.length N.length (Nat.le_refl _) ∧ J ys W') ∨ (∃ pre, True ∧ Jx pre W')) := by
  have s0 := hBs.cell 0
  simp at s0
  refine callsIn_of_wp Tryz.func155 rfl trivial ?_ rfl
  simp only [Tryz.ntmps155, List.size_toArray, List.length_cons, List.length_nil, Nat.reduceAdd, Nat.reduceSub, Array.replicate_succ, Array.replicate_zero, List.push_toArray, List.append_toArray, List.nil_append, List.cons_append]
  gi_wp2
  clear s0
  gi_loopw [3] (fun i wr => ∃ (k : Nat) (hk : k ≤ N.length), i = .int .i64 ((N.length : Int) - 1 - (k : Int)) ∧ J (dnI N.length k hk) wr ∧ Hid (KpG Bs b W wr))
    (fun i _ => (intOf i + 1).toNat)
  case atStart => exact ⟨0, Nat.zero_le _, by simp, h0, hide_ (KpG.refl _ _ _)⟩
  case round =>
    obtain ⟨k, hk, rfl, hJs, HK⟩ := hrel
    have hkb : Blk wr Bs 23 [.slice va N.length cap] := hBs.of_eq (HK.out.2.1 hBs.lt)
    have s0 := hkb.cell 0
    simp at s0
    by_cases hlt : k < N.length
    · have hm : N.length - 1 - k < N.length := by omega
      have hx : N[N.length - 1 - k]? = some (N[N.length - 1 - k]'hm) := List.getElem?_eq_getElem hm
      have hxe : N.getD (N.length - 1 - k) 0 = N[N.length - 1 - k]'hm := by simp [List.getD, hm]
      obtain ⟨fn, tmps, assign, body, hy, hR⟩ := hY _ ⟨N.length - 1 - k, hm⟩ wr hJs (by rw [dnI_len]; exact hlt)
      unfold encI at hy
      dsimp only at hy
      rw [hxe] at hy
      have hbk := hb (by omega)
      have hbw : Blk wr b 3 ys := hbk.of_eq (HK.out.2.2 hbk.lt)
      have i0 := (hbw.cell (N.length - 1 - k)).trans (hc _ _ hx)
      generalize N[N.length - 1 - k]'hm = x at *
      obtain ⟨m, hmm⟩ : ∃ m : Nat, N.length - 1 - k = m := ⟨_, rfl⟩
      have hmi : (N.length : Int) - 1 - (k : Int) = (m : Int) := by omega
      have hdn : dnI N.length (k + 1) hlt = dnI N.length k hk ++ [⟨N.length - 1 - k, hm⟩] := rfl
      have HD := hide_ hdn
      have hva2 := hva (by omega)
      rw [hva2] at s0
      clear hdn hx hxe hva2
      rw [hmi]
      rw [hmm] at hy i0
      have hml : (m : Int) < N.length := by omega
      gi_wp2
      refine hR.mono ?_
      rintro e W3 (⟨rfl, hJ3, hk3⟩ | ⟨rfl, hJx3⟩)
      · gi_wp2
        go_roundw
        case rel => exact ⟨k + 1, hlt, by congr 1 <;> omega, by rw [HD.out]; exact hJ3, hide_ (HK.out.t hk3)⟩
        case measure => simp [intOf] <;> omega
      · gi_wp2
        refine bodyPost_ret (results_none rfl _ _ _) rfl ?_
        exact ⟨⟨_, rfl⟩, .inr ⟨_, trivial, hJx3⟩⟩
    · obtain rfl : k = N.length := by omega
      have hmi : (N.length : Int) - 1 - (N.length : Int) = -1 := by omega
      rw [hmi]
      gi_wp2
      go_end0
      exact ⟨⟨_, rfl⟩, .inl ⟨_, rfl, hJs⟩⟩
set_option maxRecDepth 100000 in
set_option maxHeartbeats 4000000 in
theorem backI_any (va : Option Addr) (n cap : Nat) (w : World) :
    Calls Tryz.prog 120 #[.slice va n cap] w fun e w' => e = .returned (.func (.func 155) #[] #[.pointer (some ⟨w.heap.size, 0, none⟩)]) ∧ w' = w.alloc (.cells #[.slice va n cap] 23) := by
  have hmf : ∀ (fn : Fn) (first cap : Array Value) (w : World), (Instr.makeFunc fn first cap).run Tryz.prog w = .ok (.func fn first cap) w := fun _ _ _ _ => rfl
  go_enter Tryz.func120, Tryz.ntmps120
  go_wp2
  go_ret
  exact ⟨rfl, rfl⟩
theorem backI_stops (n : Nat) (hn : 1 ≤ n) (Bs b cap : Nat) (va : Option Addr) (N : List Int) (hN : N.length ≤ 1954687338267) (hva : 0 < N.length → va = some ⟨b, 0, none⟩) (w : World) (hBs : Blk w Bs 23 [.slice va N.length cap]) (ys : List Value) (hb : 0 < N.length → Blk w b 3 ys) (hc : ∀ (i : Nat) (x : Int), N[i]? = some x → ys[i]? = some (.int .i64 x)) :
    SeqStopsK Fence.wide n Tryz.prog 155 #[.pointer (some ⟨Bs, 0, none⟩)] (encI N) (KpG Bs b) (fun ys => ys = dnI N.length N.length (Nat.le_refl _)) (fun _ => True) N.length w := fun l J Jx W hW _ _ hY h0 =>
  back1I_in n hn l Bs b cap va N hN hva J Jx hY W (hBs.later hW) ys (fun h => (hb h).later hW) hc h0
theorem blkI_own {β : Type} (g : Nat) (t : TypeId) (f : β → List Value) : Own (fun s W => Blk W g t (f s)) := fun s X Y row hs hg hrow =>
  hs.of_eq (hg.block g hs.lt (fun e => by
    obtain ⟨o, h1, h2⟩ := hrow g e.symm
    unfold Blk at hs
    rw [hs] at h1
    simp only [Option.some.injEq] at h1
    subst h1
    cases h2))
end Go.Proofs.YtiojpohmgjdgfaaGreat

/- sound: rings, the walk. -/
namespace Go.Proofs.YtiojpohmgjdgfaaGreat
open Go.RowKit Go.Shelf
set_option linter.unusedVariables false
set_option linter.unusedSimpArgs false
attribute [local go_sem] Oper.semAt_some

/-- What rings answers. -/
def RgTo (w : World) (n : Nat) (R : List Bool) (e : Ending) (w' : World) : Prop := ∃ g, e = .returned (.slice (some ⟨g, 0, none⟩) n n) ∧ w.heap.size ≤ g ∧ Blk w' g 4 (R.map Value.bool) ∧ R.length = n ∧ Below w.heap.size w w'
/-- rings under way: what has turned since its range began. -/
def RgI (W0 W : World) (gr gn n : Nat) (st : List Bool × List Bool) : Prop := st.1.length = n ∧ st.2.length = n ∧ Upd (fun k => k = gr ∨ k = gn) W0 W ∧ Blk W gr 4 (st.1.map Value.bool) ∧ Blk W gn 4 (st.2.map Value.bool)
theorem RgI.grown {W0 X Y : World} {gr gn n : Nat} {st : List Bool × List Bool} {row : Option Nat} (h : RgI W0 X gr gn n st) (hg : X.grownBy Y row) (hr : ∀ r, row = some r → W0.heap.size ≤ r ∧ ∃ o : Obj, X.heap[r]? = some o ∧ o.isCells = false) : RgI W0 Y gr gn n st := by
  have nb : ∀ k t ys, Blk X k t ys → ¬ row = some k := fun k t ys hb e => by
    obtain ⟨-, o, h1, h2⟩ := hr k e
    unfold Blk at hb
    rw [hb] at h1
    simp only [Option.some.injEq] at h1
    subst h1
    cases h2
  have hu : Upd (fun k => row = some k) X Y := (Upd.refl _ X).grown hg (fun k e => .inl e)
  exact ⟨h.1, h.2.1, h.2.2.1.grown hg (fun k e => .inr (hr k e).1), h.2.2.2.1.upd hu (nb _ _ _ h.2.2.2.1), h.2.2.2.2.upd hu (nb _ _ _ h.2.2.2.2)⟩
theorem rgI_own {β : Type} (W0 : World) (gr gn n : Nat) (f : β → List Bool × List Bool) : OwnFrom W0.heap.size (fun s W => RgI W0 W gr gn n (f s)) := fun s X Y row hs hg hr => hs.grown hg hr
theorem rg_round {W W' : World} {gr gn Bs go B0 : Nat} (hu : Upd (fun k => k = gr ∨ k = gn) W W') (h1 : gr < B0) (h2 : gn < B0) (h3 : Bs ≠ gr) (h4 : Bs ≠ gn) (h5 : go ≠ gr) (h6 : go ≠ gn) : KeepsFrom B0 W W' ∧ KpG Bs go W W' := by
  refine ⟨⟨hu.size, fun k o hk ho hc => (hu.block k (Array.getElem?_eq_some_iff.1 ho).1 (fun e => by omega)).trans ho⟩, hu.size, fun hb => hu.block Bs hb (fun e => by omega), fun hb => hu.block go hb (fun e => by omega)⟩
set_option maxRecDepth 100000 in
set_option maxHeartbeats 16000000 in
theorem rings_any (b cc ce gs gq gb B n : Nat) (ac ae : Option Addr) (enc : Bool) (C : List In) (E : List Int) (S : List St) (Q : List Bool) (vs : List Value) (U : List (List Int)) (w : World) (hn : C.length = n) (hUl : U.length = n) (hn9 : n ≤ 1048576) (hcc : C.length ≤ cc) (hcl : cc ≤ 9223372036854775807) (he : Hid (∀ k, k < n → Stn n (uA U k))) (hT : Hid (∀ s, tot (uA U) s n ≤ 65 * n))
    (hC : Hid (CeOk enc C E)) (hI : Hid (∀ k, k < n → cameP S k = true → Inn C k ∧ ∀ y ∈ waysP C k, cameP S y.toNat = true)) (hK : Hid (BkR w B gb vs U)) (h : Hid (PtS w b cc ce gs gq ac ae enc C E S Q (.slice (some ⟨gb, 0, none⟩) n n))) :
    Calls Tryz.prog 84 #[.pointer (some ⟨b, 0, none⟩)] w fun e w' => RgTo w n (rgF (uA U) n (fnO (edB C E S Q) S n n 0 (List.replicate n false) [])) e w' := by
  obtain ⟨ed, hed⟩ : ∃ ed, uA U = ed := ⟨_, rfl⟩
  have HSp : Hid (∀ (wx : World) (gn k : Nat) (s : List Bool), Below w.heap.size w wx → k < n → s.length = n → w.heap.size ≤ gn → Blk wx gn 4 (s.map Value.bool) → Calls Tryz.prog 86 #[.int .i64 (k : Int), .func (.func 122) #[.pointer (some ⟨b, 0, none⟩)] #[], .slice (some ⟨gn, 0, none⟩) n n] wx fun e w' => SpTo wx gn n (spF ed (tot ed s n + 2) [(k : Int)] s []) e w') := hide_ (fun wx gn k s h1 h2 h3 h4 h5 => by
    rw [← hed]
    exact spBack b cc ce gs gq gb B n k gn ac ae enc C E S Q vs U w hUl hn9 he.out hT.out hK.out h.out wx s h1 h2 h3 h4 h5)
  have HSo : Hid (∀ (k : Nat) (s : List Bool), k < n → s.length = n → Stn n (spF ed (tot ed s n + 2) [(k : Int)] s []).1 ∧ (spF ed (tot ed s n + 2) [(k : Int)] s []).2.length = n ∧ (spF ed (tot ed s n + 2) [(k : Int)] s []).1.length ≤ 1 + 65 * n) := hide_ (fun k s hk hs => by
    have h1 := spF_ok (ed := ed) (by rw [← hed]; exact he.out) (tot ed s n + 2) [(k : Int)] s [] (fun y hy => by rw [List.mem_singleton] at hy; omega) hs (fun y hy => by cases hy)
    have h2 := hT.out s
    rw [hed] at h2
    refine ⟨h1.1, h1.2.1, ?_⟩
    have h3 := h1.2.2
    simp only [List.length_nil, List.length_singleton] at h3
    omega)
  have HFn : Hid (∀ wx, Below w.heap.size w wx → Calls Tryz.prog 121 #[.pointer (some ⟨b, 0, none⟩)] wx fun e w' => FnTo wx (fnO (edB C E S Q) S n n 0 (List.replicate n false) []) e w') := hide_ (fun wx hB => finished_any b cc ce gs gq n ac ae enc C E S Q _ wx hn hn9 hcc hcl hC hI (hide_ (h.out.later hB)))
  have hord := fnO_ok (ed := edB C E S Q) (S := S) (n := n) (fun k hk y hy => by
    unfold edB at hy
    split at hy
    · rename_i hc
      have h1 := (hI.out k hk hc).1 y (bare_sub hy)
      rw [hn] at h1
      exact h1
    · cases hy) n 0 (List.replicate n false) [] (by omega) (by simp) (fun y hy => by cases hy)
  have hordT : tot (ed1 (edB C E S Q)) (List.replicate n false) n ≤ 65 * n := tot_bound _ n (fun k hk => by
    have h1 : (edB C E S Q k).length ≤ 64 := by
      unfold edB
      split
      · exact bare_len (E := E) hC.out.cd (by omega) S Q
      · simp
    simp [ed1]
    omega)
  rw [hed]
  obtain ⟨O, hO⟩ : ∃ O, fnO (edB C E S Q) S n n 0 (List.replicate n false) [] = O := ⟨_, rfl⟩
  rw [hO] at HFn hord ⊢
  have HO0 : Hid (Stn n O ∧ O.length ≤ 66 * n) := hide_ ⟨hord.1, by have := hord.2; simp only [List.length_nil] at this; omega⟩
  have HUl := hide_ hUl
  have Hed := hide_ hed
  clear hord hordT hO hed hUl
  obtain ⟨-, -, -, c3, -, c5⟩ := h.out.cells
  rw [hn] at c3
  have Hb := hide_ h.out.blk.lt
  have HKb := hK
  have Hpt := h
  obtain ⟨w1, hw1⟩ : ∃ wx, w.alloc (.cells #[.pointer (some ⟨b, 0, none⟩)] 154) = wx := ⟨_, rfl⟩
  have hB1 : Below w.heap.size w w1 := by rw [← hw1]; exact below1 _ _
  have hK1 : Blk w1 w.heap.size 154 [.pointer (some ⟨b, 0, none⟩)] := by rw [← hw1]; exact Blk.newA _ _ _
  have hz1 : w1.heap.size = w.heap.size + 1 := by rw [← hw1]; simp
  obtain ⟨w2, hmk2, hK2, hB2, hz2⟩ : ∃ w2, (Instr.makeSlice 28 (.int .i64 (n : Int)) (.int .i64 (n : Int))).run Tryz.prog w1 = .ok (.slice (some ⟨w1.heap.size, 0, none⟩) n n) w2 ∧ Blk w2 w1.heap.size 4 ((List.replicate n false).map Value.bool) ∧ Below w1.heap.size w1 w2 ∧ w2.heap.size = w1.heap.size + 1 := ⟨_, makeBo n (by omega) w1, newBo w1 n, below1 _ _, by simp⟩
  obtain ⟨w3, hw3⟩ : ∃ wx, w2.alloc (.cells #[.slice (some ⟨w1.heap.size, 0, none⟩) n n] 28) = wx := ⟨_, rfl⟩
  have hB3 : Below w2.heap.size w2 w3 := by rw [← hw3]; exact below1 _ _
  have hK3 : Blk w3 w2.heap.size 28 [.slice (some ⟨w1.heap.size, 0, none⟩) n n] := by rw [← hw3]; exact Blk.newA _ _ _
  have hz3 : w3.heap.size = w2.heap.size + 1 := by rw [← hw3]; simp
  obtain ⟨w4, hmk4, hK4, hB4, hz4⟩ : ∃ w4, (Instr.makeSlice 28 (.int .i64 (n : Int)) (.int .i64 (n : Int))).run Tryz.prog w3 = .ok (.slice (some ⟨w3.heap.size, 0, none⟩) n n) w4 ∧ Blk w4 w3.heap.size 4 ((List.replicate n false).map Value.bool) ∧ Below w3.heap.size w3 w4 ∧ w4.heap.size = w3.heap.size + 1 := ⟨_, makeBo n (by omega) w3, newBo w3 n, below1 _ _, by simp⟩
  obtain ⟨w5, hw5⟩ : ∃ wx, w4.alloc (.cells #[.slice (some ⟨w3.heap.size, 0, none⟩) n n] 28) = wx := ⟨_, rfl⟩
  have hB5 : Below w4.heap.size w4 w5 := by rw [← hw5]; exact below1 _ _
  have hK5 : Blk w5 w4.heap.size 28 [.slice (some ⟨w3.heap.size, 0, none⟩) n n] := by rw [← hw5]; exact Blk.newA _ _ _
  have hz5 : w5.heap.size = w4.heap.size + 1 := by rw [← hw5]; simp
  obtain ⟨q, hq⟩ : ∃ q, w.heap.size = q := ⟨_, rfl⟩
  have e1 : w1.heap.size = q + 1 := by omega
  have e2 : w2.heap.size = q + 1 + 1 := by omega
  have e3 : w3.heap.size = q + 1 + 1 + 1 := by omega
  have e4 : w4.heap.size = q + 1 + 1 + 1 + 1 := by omega
  have e5 : w5.heap.size = q + 1 + 1 + 1 + 1 + 1 := by omega
  have d1 : w1.cell? ⟨b, 3, none⟩ = some (.slice (some ⟨gs, 0, none⟩) n n) := (hB1.cell (p := ⟨b, 3, none⟩) Hb.out).trans c3
  have HBw3 := below_to (below_to hB1 hB2) hB3
  have HBw5 := below_to (below_to HBw3 hB4) hB5
  have d3 : w3.cell? ⟨b, 3, none⟩ = some (.slice (some ⟨gs, 0, none⟩) n n) := (HBw3.cell (p := ⟨b, 3, none⟩) Hb.out).trans c3
  have k1a := hK1.cell 0
  have k1b := (hK1.later (below_to hB2 hB3)).cell 0
  have k1c := (((hK1.later (below_to hB2 hB3)).later hB4).later hB5).cell 0
  simp only [List.getElem?_cons_zero] at k1a k1b k1c
  have HP5 : Hid (Blk w5 w.heap.size 154 [.pointer (some ⟨b, 0, none⟩)] ∧ Blk w5 w2.heap.size 28 [.slice (some ⟨w1.heap.size, 0, none⟩) n n] ∧ Blk w5 w4.heap.size 28 [.slice (some ⟨w3.heap.size, 0, none⟩) n n] ∧ Blk w5 w1.heap.size 4 ((List.replicate n false).map Value.bool) ∧ Blk w5 w3.heap.size 4 ((List.replicate n false).map Value.bool)) := hide_
    ⟨((hK1.later (below_to hB2 hB3)).later hB4).later hB5, (hK3.later hB4).later hB5, hK5, ((hK2.later hB3).later hB4).later hB5, hK4.later hB5⟩
  have HB5 := hide_ HBw5
  rw [hq, e1, e3] at HP5
  rw [e1] at hmk2 hw3
  rw [e3] at hmk4 hw5
  rw [hq] at k1a k1b k1c
  have Hq := hide_ hq
  have He5 := hide_ e5
  clear hK1 hK2 hK3 hK4 hK5 hB1 hB2 hB3 hB4 hB5 hz1 hz2 hz3 hz4 hz5 HBw3 HBw5 e1 e2 e3 e4 e5 hK h
  refine (callsIn_wide (n := 6)).1 ?_
  refine callsIn_of_wp_marks Tryz.func84 rfl trivial ?_ rfl
  simp only [Tryz.ntmps84, List.size_toArray, List.length_cons, List.length_nil, Nat.reduceAdd, Nat.reduceSub, Array.replicate_succ, Array.replicate_zero, List.push_toArray, List.append_toArray, List.nil_append, List.cons_append]
  gi_wp2
  refine ⟨trivial, ?_⟩
  refine (callsIn_wide.2 (HFn.out w5 HB5.out)).mono ?_
  rintro e w6 ⟨v6, rfl, hO6, hB6⟩
  obtain ⟨av, cv, ev6⟩ := hO6.slice
  subst ev6
  gi_wp2
  refine ⟨trivial, ?_⟩
  refine (callsIn_wide.2 (backI_any _ _ _ _)).mono ?_
  rintro e w7 ⟨rfl, rfl⟩
  gi_wp2
  obtain ⟨W0, hW0⟩ : ∃ W0, w6.alloc (.cells #[.slice av O.length cv] 23) = W0 := ⟨_, rfl⟩
  have hB0 : Below w6.heap.size w6 W0 := by rw [← hW0]; exact below1 _ _
  have hKB : Blk W0 w6.heap.size 23 [.slice av O.length cv] := by rw [← hW0]; exact Blk.newA _ _ _
  rw [hW0]
  have hB60 := below_to hB6 hB0
  have hz6 : w5.heap.size ≤ w6.heap.size := hB6.size
  have hz0 : w6.heap.size < W0.heap.size := hKB.lt
  obtain ⟨go, ys, hva, hgo, hgo5, hbk, hcs⟩ : ∃ (go : Nat) (ys : List Value), (0 < O.length → av = some ⟨go, 0, none⟩) ∧ go < W0.heap.size ∧ w5.heap.size ≤ go ∧ (0 < O.length → Blk W0 go 3 ys) ∧ (∀ (i : Nat) (x : Int), O[i]? = some x → ys[i]? = some (.int .i64 x)) := by
    by_cases h0 : 0 < O.length
    · obtain ⟨g, cap, ys, e, hb, -, -, -, hty, hbl⟩ := own_blk hO6 h0
      injection e with e1 e2 e3
      have hbl0 := hbl.later hB0
      refine ⟨g, ys, fun _ => e1, hbl0.lt, hb, fun _ => hbl0, fun i x hx => ?_⟩
      have hil : i < O.length := (List.getElem?_eq_some_iff.1 hx).1
      have h1 : (ys.take O.length)[i]? = some (.int .i64 x) := by
        rw [hty]
        unfold cellsL
        rw [List.getElem?_map, hx]
        rfl
      rw [List.getElem?_take_of_lt hil] at h1
      exact h1
    · refine ⟨w6.heap.size, [], fun h => absurd h h0, hz0, hz6, fun h => absurd h h0, fun i x hx => ?_⟩
      have hil : i < O.length := (List.getElem?_eq_some_iff.1 hx).1
      omega
  obtain ⟨Bs, hBs⟩ : ∃ Bs, w6.heap.size = Bs := ⟨_, rfl⟩
  rw [hBs] at hKB hz0 hz6 ⊢
  obtain ⟨q2, hq2⟩ : ∃ q2, w2.heap.size = q2 := ⟨_, rfl⟩
  obtain ⟨q4, hq4⟩ : ∃ q4, w4.heap.size = q4 := ⟨_, rfl⟩
  rw [hq2, hq4] at HP5 ⊢
  obtain ⟨gr, hgr⟩ : ∃ gr, q + 1 = gr := ⟨_, rfl⟩
  obtain ⟨gn, hgn⟩ : ∃ gn, gr + 1 + 1 = gn := ⟨_, rfl⟩
  rw [hgr] at HP5 ⊢
  rw [hgn] at HP5 ⊢
  have hP5 := HP5.out
  have hgn5 := hP5.2.2.2.2.lt
  have hgr5 := hP5.2.2.2.1.lt
  have HgW0 : Hid (w.heap.size ≤ gr ∧ w.heap.size ≤ gn) := hide_ (by have := Hq.out; omega)
  have Hne : Hid (gr ≠ gn) := hide_ (by omega)
  have HgB : Hid (gr < W0.heap.size ∧ gn < W0.heap.size ∧ Bs ≠ gr ∧ Bs ≠ gn ∧ go ≠ gr ∧ go ≠ gn) := hide_ ⟨by omega, by omega, by omega, by omega, by omega, by omega⟩
  have HBW : Hid (Below w.heap.size w W0) := hide_ (below_to HB5.out hB60)
  have HI0 : Hid (RgI W0 W0 gr gn n ((vlF O []).foldl (rgS ed n) (List.replicate n false, List.replicate n false))) := hide_ ⟨by simp [vlF], by simp [vlF], Upd.refl _ _, (hP5.2.2.2.1).later hB60, (hP5.2.2.2.2).later hB60⟩
  have hq2g : q2 ≠ gr ∧ q2 ≠ gn := ⟨fun e => absurd (blk_type (e ▸ hP5.2.1) hP5.2.2.2.1) (by decide), fun e => absurd (blk_type (e ▸ hP5.2.1) hP5.2.2.2.2) (by decide)⟩
  have hq4g : q4 ≠ gr ∧ q4 ≠ gn := ⟨fun e => absurd (blk_type (e ▸ hP5.2.2.1) hP5.2.2.2.1) (by decide), fun e => absurd (blk_type (e ▸ hP5.2.2.1) hP5.2.2.2.2) (by decide)⟩
  have hq0g : q ≠ gr ∧ q ≠ gn := ⟨fun e => absurd (blk_type (e ▸ hP5.1) hP5.2.2.2.1) (by decide), fun e => absurd (blk_type (e ▸ hP5.1) hP5.2.2.2.2) (by decide)⟩
  have HBx0 : Hid (∀ W, Upd (fun k => k = gr ∨ k = gn) W0 W → W.cell? ⟨q, 0, none⟩ = some (.pointer (some ⟨b, 0, none⟩)) ∧ W.cell? ⟨q2, 0, none⟩ = some (.slice (some ⟨gr, 0, none⟩) n n) ∧ W.cell? ⟨q4, 0, none⟩ = some (.slice (some ⟨gn, 0, none⟩) n n)) := hide_ (fun W hu =>
    ⟨((hP5.1.later hB60).upd hu (fun e => by omega)).cell 0, ((hP5.2.1.later hB60).upd hu (fun e => by omega)).cell 0, ((hP5.2.2.1.later hB60).upd hu (fun e => by omega)).cell 0⟩)
  have hONl : O.length ≤ 1954687338267 := by have := HO0.out.2; omega
  clear hP5 hgn5 hgr5 HP5 hB6 hB0 hB60 hW0 hz6 hq2g hq4g hq0g hO6 hgo5 c3 d1 d3 k1a k1b k1c hmk2 hmk4 hw1 hw3 hw5 hq2 hq4 hgr hgn hBs hq HFn hC hI
  refine wpIn_rangeFunc_ownH rfl (by decide) (gf := 155) (lb := #[.pointer (some ⟨Bs, 0, none⟩)]) rfl trivial (enters_of Tryz.func155 (by kernel_rfl) rfl)
    (backI_stops 5 (by decide) Bs go cv av O hONl hva W0 hKB ys hbk hcs) KpG.t (KpG.b hz0 hgo) (Below.refl _ _) (fun _ => rfl)
    (fun pre W => RgI W0 W gr gn n ((vlF O pre).foldl (rgS ed n) (List.replicate n false, List.replicate n false)))
    (fun _ _ _ => False)
    (rgI_own W0 gr gn n (fun pre => (vlF O pre).foldl (rgS ed n) (List.replicate n false, List.replicate n false)))
    (fun _ _ _ _ _ hs _ _ => hs)
    HI0.out
    (fun x a' W => a' = { tmps := #[.pointer (some ⟨b, 0, none⟩), .pointer (some ⟨q, 0, none⟩), .slice none 0 0, .pointer (some ⟨q2, 0, none⟩), .pointer (some ⟨q4, 0, none⟩), undef, .int .i64 (O.getD x.val 0), undef, undef, undef, .pointer (some ⟨b, 0, none⟩), .pointer (some ⟨b, 0, none⟩), .pointer (some ⟨b, 3, none⟩), .slice (some ⟨gs, 0, none⟩) n n, .int .i64 (n : Int), .slice (some ⟨gr, 0, none⟩) n n, .pointer (some ⟨b, 0, none⟩), .pointer (some ⟨b, 0, none⟩), .pointer (some ⟨b, 3, none⟩), .slice (some ⟨gs, 0, none⟩) n n, .int .i64 (n : Int), .slice (some ⟨gn, 0, none⟩) n n, .pointer (some ⟨b, 0, none⟩), .slice av O.length cv, .func (.func 155) #[] #[.pointer (some ⟨Bs, 0, none⟩)], .int .i64 (x.val : Int), .int .i64 (O.getD x.val 0), undef, undef, undef, undef, undef, undef, undef, undef, undef, undef, undef, undef, undef, undef, undef, undef, undef, undef, undef, undef, undef, undef, undef, undef, undef, undef, undef, undef, undef, undef, undef], defers := [] })
    (fun x a' _ X Y row hs hg hr => hs)
    ?assign ?body ?done ?stop
  case assign =>
    rintro l pre x W K hI hK
    simp only [encI] at hK ⊢
    generalize O.getD x.val 0 = y at *
    gi_wp2
    exact hK _ _ (KeepsFrom.refl _ _) (KpG.refl _ _ _) hI rfl
  case body =>
    rintro l pre x a' W hl ⟨r, hr2⟩ hI rfl hlt
    have hx : O.getD x.val 0 ∈ O := by
      have e : O.getD x.val 0 = O[x.val]'x.isLt := by simp [List.getD]
      rw [e]; exact List.getElem_mem _
    obtain ⟨y0, y1⟩ := HO0.out.1 _ hx
    have HNx : Hid ((vlF O (pre ++ [x])).foldl (rgS ed n) (List.replicate n false, List.replicate n false) = rgS ed n ((vlF O pre).foldl (rgS ed n) (List.replicate n false, List.replicate n false)) (O.getD x.val 0)) := hide_ (by
      unfold vlF
      rw [List.map_append, List.foldl_append]
      rfl)
    obtain ⟨st, hst⟩ : ∃ st, (vlF O pre).foldl (rgS ed n) (List.replicate n false, List.replicate n false) = st := ⟨_, rfl⟩
    rw [hst] at HNx hI
    generalize O.getD x.val 0 = y at *
    obtain ⟨k, rfl⟩ := Int.eq_ofNat_of_zero_le y0
    have hkn : k < n := by omega
    have hkn' : (k : Int) < (n : Int) := by omega
    obtain ⟨hl1, hl2, hU, hKr, hKn⟩ := hI
    have Hl1 := hide_ hl1
    have HU0 := hide_ hU
    have hBW : Below w.heap.size w W := below_to2 HBW.out hU (fun q e => by have := HgW0.out; omega)
    have HSj := hide_ (HSp.out W gn k st.2 hBW hkn hl2 HgW0.out.2 hKn)
    have HSoj := hide_ (HSo.out k st.2 hkn hl2)
    obtain ⟨RR, hRR⟩ : ∃ RR, spF ed (tot ed st.2 n + 2) [(k : Int)] st.2 [] = RR := ⟨_, rfl⟩
    rw [hRR] at HSj HSoj
    have hrg : rgS ed n st (k : Int) = (if RR.1.length = 1 ∧ ¬ (k : Int) ∈ ed k then st.1 else setB st.1 RR.1, RR.2) := by
      unfold rgS
      rw [hRR, Int.toNat_natCast]
    rw [hrg] at HNx
    clear hrg
    have HBx : Hid (∀ W', Upd (fun k => k = gr ∨ k = gn) W W' → W'.cell? ⟨q, 0, none⟩ = some (.pointer (some ⟨b, 0, none⟩)) ∧ W'.cell? ⟨q2, 0, none⟩ = some (.slice (some ⟨gr, 0, none⟩) n n) ∧ W'.cell? ⟨q4, 0, none⟩ = some (.slice (some ⟨gn, 0, none⟩) n n)) := hide_ (fun W' hu => HBx0.out W' (hU.to hu))
    obtain ⟨m1, -, m3⟩ := HBx.out W (Upd.refl _ _)
    have HKr := hide_ hKr
    have HBWh := hide_ hBW
    have HgW : Hid (gr < W.heap.size) := hide_ hKr.lt
    clear hst hx y0 y1 hl1 hl2 hU hKr hKn hBW hRR hr2 HI0 hbk hcs hKB HBx0 HSp HSo HO0 hva
    gi_wp2
    refine ⟨trivial, ?_⟩
    refine (CallsIn.inRound l (callsIn_wide.2 HSj.out)).mono ?_
    rintro e w8 hT8
    obtain ⟨v8, rfl, hO8, hK8, hl8, hU8⟩ := hT8
    obtain ⟨a8, c8, ev8⟩ := hO8.slice
    subst ev8
    have HO8 := hide_ hO8
    have HK8 := hide_ hK8
    have HL8 := hide_ (HKr.out.upd hU8 (fun e => Hne.out e))
    have HU8 : Hid (Upd (fun k => k = gr ∨ k = gn) W w8) := hide_ (hU8.mono (fun k _ e => .inr e))
    have hB8 := below_to2 HBWh.out hU8 (fun q e => by rw [e]; exact HgW0.out.2)
    have hfl : RR.1.length ≤ 1 + 65 * n := HSoj.out.2.2
    have n1 := (HBx.out w8 HU8.out).1
    have HBk8 := hide_ (HKb.out.later hB8)
    have HPt8 := hide_ (Hpt.out.later hB8)
    clear hO8 hK8 hl8 hU8 HSj m1 m3 HKr hB8
    by_cases h1 : RR.1.length = 1
    · obtain ⟨-, -, -, -, -, c5'⟩ := HPt8.out.cells
      obtain ⟨vk, hvk⟩ : ∃ vk, vs[k]? = some vk := ⟨_, List.getElem?_eq_getElem (by rw [HBk8.out.len, HUl.out]; exact hkn)⟩
      have cvk := (HBk8.out.blk.cell k).trans hvk
      obtain ⟨ak, ck, evk, hrk, hnk, -⟩ := (HBk8.out.own k vk hvk).row
      subst evk
      obtain ⟨d, hd⟩ : ∃ d, decide ((k : Int) ∈ ed k) = d := ⟨_, rfl⟩
      have HCt : Hid (Calls Tryz.prog 123 #[.slice ak (uA U k).length ck, .int .i64 (k : Int)] w8 fun e w' => e = .returned (.bool d) ∧ w8 = w') := hide_ (by
        have h2 := containsI_any ak _ ck (uA U k) (k : Int) w8 rfl (by
          have h3 := tot_set (uA U) (List.replicate n false) k (by simp; omega) (qAt_new n k) n hkn
          have h4 := hT.out (List.replicate n false)
          omega) (hide_ hrk)
        rw [Hed.out, hd] at h2
        rw [Hed.out]
        exact h2)
      have Hd := hide_ hd
      have H1 := hide_ h1
      clear hvk hrk hnk hd
      cases d
      · have HX : Hid (KeepsFrom W0.heap.size W w8 ∧ KpG Bs go W w8 ∧ RgI W0 w8 gr gn n ((vlF O (pre ++ [x])).foldl (rgS ed n) (List.replicate n false, List.replicate n false))) := hide_ (by
          obtain ⟨k1, k2⟩ := rg_round HU8.out HgB.out.1 HgB.out.2.1 HgB.out.2.2.1 HgB.out.2.2.2.1 HgB.out.2.2.2.2.1 HgB.out.2.2.2.2.2
          refine ⟨k1, k2, ?_⟩
          rw [HNx.out, if_pos ⟨H1.out, of_decide_eq_false Hd.out⟩]
          exact ⟨Hl1.out, HSoj.out.2.1, HU0.out.to HU8.out, HL8.out, HK8.out⟩)
        rw [h1]
        gi_wp2
        refine ⟨trivial, ?_⟩
        refine (CallsIn.inRound l (callsIn_wide.2 HCt.out)).mono ?_
        rintro e w9 ⟨rfl, rfl⟩
        gi_wp2
        exact HX.out
      · rw [if_neg (fun e => e.2 (of_decide_eq_true Hd.out))] at HNx
        have h1' : ((RR.1.length : Int) == 1) = true := by rw [h1]; rfl
        clear h1
        gi_wp2
        refine ⟨trivial, ?_⟩
        refine (CallsIn.inRound l (callsIn_wide.2 HCt.out)).mono ?_
        rintro e w9 ⟨rfl, rfl⟩
        gi_wp2
        gi_loopw [49] (fun x49 wr => ∃ (i : Nat) (r2 : List Bool), i ≤ RR.1.length ∧ x49 = .int .i64 (i : Int) ∧ Hid (setB r2 (RR.1.drop i) = setB st.1 RR.1) ∧ Hid (r2.length = n) ∧ Hid (Blk wr gn 4 (RR.2.map Value.bool)) ∧ Hid (Blk wr gr 4 (r2.map Value.bool)) ∧ Hid (IOwn wr W.heap.size (.slice a8 RR.1.length c8) RR.1) ∧ Hid (Upd (fun k => k = gr ∨ k = gn) W wr)) (fun x49 _ => RR.1.length - (intOf x49).toNat)
        case atStart => exact ⟨0, st.1, by omega, rfl, hide_ rfl, Hl1, HK8, HL8, HO8, HU8⟩
        case round =>
          clear HK8 HL8 HO8 HU8
          obtain ⟨i, r2, hi, rfl, HRi, Hr2l, HKi, HLi, HOi, HUi⟩ := hrel
          generalize wr = wp at *
          by_cases hil : i < RR.1.length
          · have hil' : (i : Int) < (RR.1.length : Int) := by omega
            obtain ⟨g, c, hv, hcv, hgB, hgL⟩ := HOi.out.open (by omega)
            injection hv with hv1 hv2 hv3
            subst hv1
            obtain ⟨cy, -⟩ := HOi.out.cellH (i := i) hil
            obtain ⟨y0, y1⟩ := HSoj.out.1 _ (hAt_mem (l := RR.1) (i := i) hil)
            obtain ⟨m, hm⟩ := Int.eq_ofNat_of_zero_le y0
            rw [hm] at cy y1
            have hmn : (m : Int) < (n : Int) := y1
            have HRi2 : Hid (setB (r2.set m true) (RR.1.drop (i + 1)) = setB st.1 RR.1) := hide_ (by
              have h1 := HRi.out
              rw [List.drop_eq_getElem_cons hil] at h1
              have h2 : RR.1[i] = (m : Int) := by
                rw [← hm]
                simp [hAt, List.getD, hil]
              rw [h2] at h1
              unfold setB at h1 ⊢
              rw [List.foldl_cons, Int.toNat_natCast] at h1
              exact h1)
            have cx := bAt HLi.out (k := m) (by rw [Hr2l.out]; omega)
            have zx := HLi.out.frozen m
            have cb := (HBx.out wp HUi.out).2.1
            obtain ⟨w9, hw9⟩ : ∃ wx, wp.setCell ⟨gr, m, none⟩ (.bool true) = wx := ⟨_, rfl⟩
            have hU9 : Upd (fun k => k = gr) wp w9 := by rw [← hw9]; exact (Upd.refl _ wp).set _ _ (.inl rfl)
            have HL9 : Hid (Blk w9 gr 4 ((r2.set m true).map Value.bool)) := hide_ (by
              rw [← hw9]
              exact bset HLi.out)
            have HK9 := hide_ (HKi.out.upd hU9 (fun e => Hne.out e.symm))
            have HO9 := hide_ (HOi.out.upd hU9 (fun q e e2 => by
              have h1 := (HOi.out.lies e).1
              have h2 := HgW.out
              omega))
            have HU9 : Hid (Upd (fun k => k = gr ∨ k = gn) W w9) := hide_ (HUi.out.to (hU9.mono (fun k _ e => .inl e)))
            clear hv2 hv3 hcv hgB hgL y0 y1 hm HRi HLi HKi HOi HUi hU9
            gi_wp2
            try rw [hw9]
            clear hw9
            go_roundw
            case rel => exact ⟨i + 1, _, by omega, by go_num, HRi2, hide_ (by rw [List.length_set]; exact Hr2l.out), HK9, HL9, HO9, HU9⟩
            case measure => simp [intOf]; omega
          · have hil' : ¬ ((i : Int) < (RR.1.length : Int)) := by omega
            have HX : Hid (KeepsFrom W0.heap.size W wp ∧ KpG Bs go W wp ∧ RgI W0 wp gr gn n ((vlF O (pre ++ [x])).foldl (rgS ed n) (List.replicate n false, List.replicate n false))) := hide_ (by
              have h1 := HRi.out
              rw [List.drop_eq_nil_of_le (by omega)] at h1
              have h2 : r2 = setB st.1 RR.1 := h1
              obtain ⟨k1, k2⟩ := rg_round HUi.out HgB.out.1 HgB.out.2.1 HgB.out.2.2.1 HgB.out.2.2.2.1 HgB.out.2.2.2.2.1 HgB.out.2.2.2.2.2
              refine ⟨k1, k2, ?_⟩
              rw [HNx.out, ← h2]
              exact ⟨Hr2l.out, HSoj.out.2.1, HU0.out.to HUi.out, HLi.out, HKi.out⟩)
            gi_wp2
            exact HX.out
    · rw [if_neg (fun e => h1 e.1)] at HNx
      have h1' : ((RR.1.length : Int) == 1) = false := by
        rw [beq_eq_false_iff_ne]
        omega
      clear h1
      gi_wp2
      refine ⟨trivial, ?_⟩
      gi_wp2
      gi_loopw [49] (fun x49 wr => ∃ (i : Nat) (r2 : List Bool), i ≤ RR.1.length ∧ x49 = .int .i64 (i : Int) ∧ Hid (setB r2 (RR.1.drop i) = setB st.1 RR.1) ∧ Hid (r2.length = n) ∧ Hid (Blk wr gn 4 (RR.2.map Value.bool)) ∧ Hid (Blk wr gr 4 (r2.map Value.bool)) ∧ Hid (IOwn wr W.heap.size (.slice a8 RR.1.length c8) RR.1) ∧ Hid (Upd (fun k => k = gr ∨ k = gn) W wr)) (fun x49 _ => RR.1.length - (intOf x49).toNat)
      case atStart => exact ⟨0, st.1, by omega, rfl, hide_ rfl, Hl1, HK8, HL8, HO8, HU8⟩
      case round =>
        clear HK8 HL8 HO8 HU8
        obtain ⟨i, r2, hi, rfl, HRi, Hr2l, HKi, HLi, HOi, HUi⟩ := hrel
        generalize wr = wp at *
        by_cases hil : i < RR.1.length
        · have hil' : (i : Int) < (RR.1.length : Int) := by omega
          obtain ⟨g, c, hv, hcv, hgB, hgL⟩ := HOi.out.open (by omega)
          injection hv with hv1 hv2 hv3
          subst hv1
          obtain ⟨cy, -⟩ := HOi.out.cellH (i := i) hil
          obtain ⟨y0, y1⟩ := HSoj.out.1 _ (hAt_mem (l := RR.1) (i := i) hil)
          obtain ⟨m, hm⟩ := Int.eq_ofNat_of_zero_le y0
          rw [hm] at cy y1
          have hmn : (m : Int) < (n : Int) := y1
          have HRi2 : Hid (setB (r2.set m true) (RR.1.drop (i + 1)) = setB st.1 RR.1) := hide_ (by
            have h1 := HRi.out
            rw [List.drop_eq_getElem_cons hil] at h1
            have h2 : RR.1[i] = (m : Int) := by
              rw [← hm]
              simp [hAt, List.getD, hil]
            rw [h2] at h1
            unfold setB at h1 ⊢
            rw [List.foldl_cons, Int.toNat_natCast] at h1
            exact h1)
          have cx := bAt HLi.out (k := m) (by rw [Hr2l.out]; omega)
          have zx := HLi.out.frozen m
          have cb := (HBx.out wp HUi.out).2.1
          obtain ⟨w9, hw9⟩ : ∃ wx, wp.setCell ⟨gr, m, none⟩ (.bool true) = wx := ⟨_, rfl⟩
          have hU9 : Upd (fun k => k = gr) wp w9 := by rw [← hw9]; exact (Upd.refl _ wp).set _ _ (.inl rfl)
          have HL9 : Hid (Blk w9 gr 4 ((r2.set m true).map Value.bool)) := hide_ (by
            rw [← hw9]
            exact bset HLi.out)
          have HK9 := hide_ (HKi.out.upd hU9 (fun e => Hne.out e.symm))
          have HO9 := hide_ (HOi.out.upd hU9 (fun q e e2 => by
            have h1 := (HOi.out.lies e).1
            have h2 := HgW.out
            omega))
          have HU9 : Hid (Upd (fun k => k = gr ∨ k = gn) W w9) := hide_ (HUi.out.to (hU9.mono (fun k _ e => .inl e)))
          clear hv2 hv3 hcv hgB hgL y0 y1 hm HRi HLi HKi HOi HUi hU9
          gi_wp2
          try rw [hw9]
          clear hw9
          go_roundw
          case rel => exact ⟨i + 1, _, by omega, by go_num, HRi2, hide_ (by rw [List.length_set]; exact Hr2l.out), HK9, HL9, HO9, HU9⟩
          case measure => simp [intOf]; omega
        · have hil' : ¬ ((i : Int) < (RR.1.length : Int)) := by omega
          have HX : Hid (KeepsFrom W0.heap.size W wp ∧ KpG Bs go W wp ∧ RgI W0 wp gr gn n ((vlF O (pre ++ [x])).foldl (rgS ed n) (List.replicate n false, List.replicate n false))) := hide_ (by
            have h1 := HRi.out
            rw [List.drop_eq_nil_of_le (by omega)] at h1
            have h2 : r2 = setB st.1 RR.1 := h1
            obtain ⟨k1, k2⟩ := rg_round HUi.out HgB.out.1 HgB.out.2.1 HgB.out.2.2.1 HgB.out.2.2.2.1 HgB.out.2.2.2.2.1 HgB.out.2.2.2.2.2
            refine ⟨k1, k2, ?_⟩
            rw [HNx.out, ← h2]
            exact ⟨Hr2l.out, HSoj.out.2.1, HU0.out.to HUi.out, HLi.out, HKi.out⟩)
          gi_wp2
          exact HX.out
  case done =>
    rintro D zs W hD rfl hI hKD
    have m2 := (HBx0.out W hI.2.2.1).2.1
    have HX : Hid (RgTo w n (rgF ed n O) (.returned (.slice (some ⟨gr, 0, none⟩) n n)) (W.putObj D (.deferred none))) := hide_ (by
      have h2 := hI.grown (grownBy_putObj' W D (.deferred none)) (fun r e => by cases e; exact ⟨hD, _, hKD, rfl⟩)
      rw [vlF_all] at h2
      exact ⟨gr, rfl, HgW0.out.1, h2.2.2.2.1, h2.1, below_to2 HBW.out h2.2.2.1 (fun q e => by have := HgW0.out; omega)⟩)
    gi_wp2
    refine ⟨by simp, .inl ⟨_, _, rfl, run_takeDeferred hKD, ?_⟩⟩
    refine ⟨_, results_tmp rfl _ _ _, ?_⟩
    exact HX.out
  case stop =>
    rintro D c pre W hD _ h _
    exact h.elim
end Go.Proofs.YtiojpohmgjdgfaaGreat

/- sound: secondLook. -/
namespace Go.Proofs.YtiojpohmgjdgfaaGreat
open Go.RowKit
set_option linter.unusedVariables false
set_option linter.unusedSimpArgs false

/-- The least of an earlier one, of what lies in a ring, and of what an idle call's next leads to. -/
def lsP (rg : List Bool) (ld : List Int) (ip : Nat → Bool) (l : Int) (x : Int) : Int :=
  if ip x.toNat = true then min (if qAt rg x.toNat = true then min l x else l) (hAt ld (x.toNat + 1)) else (if qAt rg x.toNat = true then min l x else l)
def edW (C : List In) (S : List St) (k : Nat) : List Int := if cameP S k = true then waysP C k else []
def seF (ed : Nat → List Int) (n : Nat) (rg : List Bool) (ld : List Int) (ip : Nat → Bool) : List Int → List Bool → Int
  | [], _ => 1048576
  | e :: es, s => if (spF ed (tot ed s n + 2) [e] s []).1.foldl (lsP rg ld ip) (hAt ld e.toNat) ≠ 1048576 then (spF ed (tot ed s n + 2) [e] s []).1.foldl (lsP rg ld ip) (hAt ld e.toNat) else seF ed n rg ld ip es (spF ed (tot ed s n + 2) [e] s []).2
/-- The quiet ones, the bare edges turned round. -/
def quP (C : List In) (E : List Int) (S : List St) : List Bool := quietP C E S C.length (List.replicate C.length false)
def bkP (C : List In) (E : List Int) (S : List St) : List (List Int) := revF (bareP C E S (quP C E S)) S C.length 0 (List.replicate C.length [])
def rgP (C : List In) (E : List Int) (S : List St) : List Bool := rgF (uA (bkP C E S)) C.length (fnO (edB C E S (quP C E S)) S C.length C.length 0 (List.replicate C.length false) [])
def ldP (C : List In) (E : List Int) (S : List St) : List Int := ldF (uA (bkP C E S)) (idleP C E S (quP C E S)) C.length C.length 0 (List.replicate C.length false) (List.replicate C.length 1048576)
/-- What the second look answers. -/
def secondP (C : List In) (E : List Int) (S : List St) : Int := seF (edW C S) C.length (rgP C E S) (ldP C E S) (idleP C E S (quP C E S)) E (List.replicate C.length false)
def putP (w : World) (g : Nat) (v0 v1 v2 v3 v4 v5 : Value) : World := (((((w.setCell ⟨g, 0, none⟩ v0).setCell ⟨g, 1, none⟩ v1).setCell ⟨g, 2, none⟩ v2).setCell ⟨g, 3, none⟩ v3).setCell ⟨g, 4, none⟩ v4).setCell ⟨g, 5, none⟩ v5
theorem Blk.putP {w : World} {g : Nat} {t : TypeId} {u0 u1 u2 u3 u4 u5 : Value} (h : Blk w g t [u0, u1, u2, u3, u4, u5]) (v0 v1 v2 v3 v4 v5 : Value) : Blk (Go.Proofs.YtiojpohmgjdgfaaGreat.putP w g v0 v1 v2 v3 v4 v5) g t [v0, v1, v2, v3, v4, v5] := by
  have := (((((h.set 0 v0).set 1 v1).set 2 v2).set 3 v3).set 4 v4).set 5 v5
  simpa [Go.Proofs.YtiojpohmgjdgfaaGreat.putP] using this
theorem Blk.putPo {w : World} {h : Nat} {t : TypeId} {xs : List Value} (k : Blk w h t xs) (g : Nat) (v0 v1 v2 v3 v4 v5 : Value) (e : h ≠ g) : Blk (Go.Proofs.YtiojpohmgjdgfaaGreat.putP w g v0 v1 v2 v3 v4 v5) h t xs := by
  unfold Go.Proofs.YtiojpohmgjdgfaaGreat.putP
  exact (((((k.other _ _ e).other _ _ e).other _ _ e).other _ _ e).other _ _ e).other _ _ e
theorem below_putP {B : Nat} {w w' : World} (h : Below B w w') (g : Nat) (v0 v1 v2 v3 v4 v5 : Value) (hb : B ≤ g) : Below B w (putP w' g v0 v1 v2 v3 v4 v5) := by
  unfold putP
  exact below_set (below_set (below_set (below_set (below_set (below_set h _ _ _ hb) _ _ _ hb) _ _ _ hb) _ _ _ hb) _ _ _ hb) _ _ _ hb
theorem PtX.setB {w0 w : World} {b cc ce gs gq : Nat} {ac ae : Option Addr} {enc : Bool} {C : List In} {E : List Int} {S : List St} {Q : List Bool} {vb : Value} (h : PtX w0 w b cc ce gs gq ac ae enc C E S Q vb) (u : Value) : PtX w0 (w.setCell ⟨b, 5, none⟩ u) b cc ce gs gq ac ae enc C E S Q u ∧ Upd (fun q => q = b) w (w.setCell ⟨b, 5, none⟩ u) := by
  have hu : Upd (fun q => q = b) w (w.setCell ⟨b, 5, none⟩ u) := (Upd.refl _ w).set _ _ (.inl rfl)
  have ho := below_to2 h.old hu (fun q e => by rw [e]; exact h.hb)
  have hbs : gs ≠ b := fun e => absurd (blk_type (e ▸ h.p.st) h.p.blk) (by decide)
  have hbq : gq ≠ b := fun e => h.bq e.symm
  exact ⟨⟨⟨h.p.blk.set 5 u, h.code0.later ho, h.ent0.later ho, h.p.st.upd hu hbs, h.p.len, h.p.qt.upd hu hbq, h.p.qlen⟩, ho, h.code0, h.ent0, h.hq, h.hb⟩, hu⟩
theorem idle_next {C : List In} {E : List Int} {S : List St} {Q : List Bool} {k : Nat} (hi : cameP S k = true → Inn C k) (h : idleP C E S Q k = true) : k + 1 < C.length := by
  unfold idleP at h
  simp only [Bool.and_eq_true, beq_iff_eq] at h
  have h1 := hi h.2.1 ((k : Int) + 1) (by
    unfold waysP
    rw [if_neg (by omega), if_neg (by omega), if_neg (by omega), if_neg (by omega)]
    simp)
  omega
theorem enBr (args : Array Value) (w : World) : (callFunc 83 args).run Tryz.prog w = .ok (.enter 83 args) w := by kernel_rfl
theorem enWy (args : Array Value) (w : World) : (callFunc 87 args).run Tryz.prog w = .ok (.enter 87 args) w := by kernel_rfl
/-- What secondLook answers. -/
def SlTo (w : World) (r : Int) (e : Ending) (w' : World) : Prop := e = .returned (.int .i64 r) ∧ Below w.heap.size w w'
set_option maxRecDepth 100000 in
set_option maxHeartbeats 16000000 in
theorem secondLook_any (enc : Bool) (ac ae : Option Addr) (cc ce gs : Nat) (C : List In) (E : List Int) (S : List St) (w : World) (hcc : C.length ≤ cc) (hcl : cc ≤ 9223372036854775807) (hce : E.length ≤ ce) (hK : Hid (Chk enc C E)) (hr : Hid (IRow w ac C)) (he : Hid (Row .i64 w ae E)) (hS : Hid (Blk w gs 126 (cellsG stc S))) (hSl : S.length = C.length)
    (hI : Hid (∀ k, k < C.length → cameP S k = true → Inn C k ∧ ∀ y ∈ waysP C k, cameP S y.toNat = true)) (hEc : Hid (∀ e ∈ E, cameP S e.toNat = true)) :
    Calls Tryz.prog 51 #[.agg #[.bool enc, .slice ac C.length cc, .slice ae E.length ce], .slice (some ⟨gs, 0, none⟩) C.length C.length] w fun e w' => SlTo w (secondP C E S) e w' := by
  have HCe := hide_ hK.out.ceok
  obtain ⟨n, hn⟩ : ∃ n, C.length = n := ⟨_, rfl⟩
  have hn9 : n ≤ 1048576 := by have := hK.out.nc; omega
  have hEl : (E.length : Int) ≤ 1048576 := by have := hK.out.ne; omega
  obtain ⟨R, hR⟩ : ∃ R, secondP C E S = R := ⟨_, rfl⟩
  obtain ⟨Q, hQ⟩ : ∃ Q, quP C E S = Q := ⟨_, rfl⟩
  obtain ⟨U, hU⟩ : ∃ U, bkP C E S = U := ⟨_, rfl⟩
  obtain ⟨RG, hRG⟩ : ∃ RG, rgP C E S = RG := ⟨_, rfl⟩
  obtain ⟨LD, hLD⟩ : ∃ LD, ldP C E S = LD := ⟨_, rfl⟩
  have hR2 := hR
  unfold secondP at hR2
  rw [hRG, hLD, hQ, hn] at hR2
  have hRG2 := hRG
  unfold rgP at hRG2
  rw [hU, hQ, hn] at hRG2
  have hLD2 := hLD
  unfold ldP at hLD2
  rw [hU, hQ, hn] at hLD2
  have hU2 := hU
  unfold bkP at hU2
  rw [hQ, hn] at hU2
  have hQ2 := hQ
  unfold quP at hQ2
  rw [hn] at hQ2
  obtain ⟨rU, rS, rM⟩ := revF_ok (ed := bareP C E S Q) (S := S) (n := n) (fun k hk hc => by rw [← hn]; exact bare_in HCe.out (by omega) (hI.out k (by omega) hc).1 S Q) (fun k hk => Nat.le_trans (bare_len (E := E) HCe.out.cd (by omega) S Q) (by omega)) n 0 (List.replicate n []) (by omega) (by simp) (usr_new _ _ _)
  rw [hU2] at rU rS rM
  rw [sum_new] at rS
  have HT : Hid (∀ s, tot (uA U) s n ≤ 65 * n) := hide_ (fun q => by
    have h1 := tot_sum U q n (by omega)
    rw [List.take_of_length_le (by omega)] at h1
    omega)
  have HeU : Hid (∀ k, k < n → Stn n (uA U k)) := hide_ (fun k _ y hy => by
    obtain ⟨j, hj, e, -, -⟩ := rM k y hy
    rw [e]
    omega)
  have HeW : Hid (∀ k, k < n → Stn n (edW C S k)) := hide_ (fun k hk y hy => by
    unfold edW at hy
    split at hy
    · rename_i hc
      have h1 := (hI.out k (by omega) hc).1 y hy
      rw [hn] at h1
      exact h1
    · cases hy)
  have HtW : Hid (∀ s, tot (edW C S) s n ≤ 64 * n) := hide_ (fun s => tot_bound s n (fun k hk => by
    unfold edW
    split
    · exact ways_len HCe.out.cd (by omega)
    · simp))
  have HcW : Hid (∀ k, k < n → cameP S k = true → ∀ y ∈ edW C S k, cameP S y.toNat = true) := hide_ (fun k hk hc y hy => by
    unfold edW at hy
    rw [if_pos hc] at hy
    exact (hI.out k (by omega) hc).2 y hy)
  have HEn : Hid (∀ (i : Nat), i < E.length → 0 ≤ E.getD i 0 ∧ E.getD i 0 < (n : Int) ∧ cameP S (E.getD i 0).toNat = true) := hide_ (fun i hi => by
    have h1 := HCe.out.ent i hi
    have h2 : E.getD i 0 ∈ E := by
      have e : E.getD i 0 = E[i] := by simp [List.getD, hi]
      rw [e]
      exact List.getElem_mem hi
    rw [hn] at h1
    exact ⟨h1.1, h1.2, hEc.out _ h2⟩)
  have hI2 : Hid (∀ k, k < n → cameP S k = true → Inn C k ∧ ∀ y ∈ waysP C k, cameP S y.toNat = true) := hide_ (fun k hk => hI.out k (by omega))
  have HI1 : Hid (∀ k, k < n → cameP S k = true → Inn C k) := hide_ (fun k hk hc => (hI.out k (by omega) hc).1)
  have HR := hide_ hR2
  have HQ := hide_ hQ2
  have HUe := hide_ hU2
  have HRG := hide_ hRG2
  have HLD := hide_ hLD2
  have HUl := hide_ rU
  have Hn := hide_ hn
  have hccn : n ≤ cc := by omega
  rw [hR]
  rw [hn]
  clear hR hR2 hQ hQ2 hU hU2 hRG hRG2 hLD hLD2 rU rS rM hK
  obtain ⟨w1, hw1⟩ : ∃ wx, w.alloc (.cells #[.bool enc, .slice ac n cc, .slice ae E.length ce] 25) = wx := ⟨_, rfl⟩
  have hB1 : Below w.heap.size w w1 := by rw [← hw1]; exact below1 _ _
  have K1 : Blk w1 w.heap.size 25 [.bool enc, .slice ac n cc, .slice ae E.length ce] := by rw [← hw1]; exact Blk.newA w _ _
  have HS1 : Hid (∀ w3, Below w1.heap.size w1 w3 → (fun w' => w'.cell? ⟨w.heap.size, 0, none⟩ = some (.bool enc) ∧ w'.cell? ⟨w.heap.size, 1, none⟩ = some (.slice ac n cc) ∧ w'.cell? ⟨w.heap.size, 2, none⟩ = some (.slice ae E.length ce)) w3) := hide_ (fun w3 hB => by
    have k := K1.later hB
    exact ⟨by rw [k.cell 0]; rfl, by rw [k.cell 1]; rfl, by rw [k.cell 2]; rfl⟩)
  have HB1 := hide_ hB1
  have HK1 := hide_ K1
  have hn10 : n ≤ 1000000000 := by omega
  clear hB1 K1 hn
  go_enter Tryz.func51, Tryz.ntmps51
  go_upto_region 1 with fail
  try rw [hw1]
  clear hw1
  go_cut [5] from 14 to 19 (fun x5 wc => ∃ (b gq : Nat) (w3 : World), w3 = wc ∧ x5 = .pointer (some ⟨b, 0, none⟩) ∧ Hid (Blk w3 b 110 [.bool enc, .slice ac n cc, .slice ae E.length ce, .slice (some ⟨gs, 0, none⟩) n n, .slice (some ⟨gq, 0, none⟩) n n, .slice none 0 0]) ∧ Hid (Blk w3 gq 4 ((List.replicate n false).map Value.bool)) ∧ Hid (Below w1.heap.size w1 w3) ∧ Hid (w1.heap.size ≤ b) ∧ Hid (w1.heap.size ≤ gq))
  case first =>
    refine wp_region_last 7 (fun w' => w'.cell? ⟨w.heap.size, 0, none⟩ = some (.bool enc) ∧ w'.cell? ⟨w.heap.size, 1, none⟩ = some (.slice ac n cc) ∧ w'.cell? ⟨w.heap.size, 2, none⟩ = some (.slice ae E.length ce)) (by kernel_rfl) (HS1.out _ (Below.refl _ _).drew) (fun hHeld => ?_)
    obtain ⟨wz0, hz0⟩ : ∃ wx, w1.drew = wx := ⟨_, rfl⟩
    rw [hz0] at hHeld ⊢
    have HBz0 : Hid (Below w1.heap.size w1 wz0) := hide_ (by rw [← hz0]; exact (Below.refl _ _).drew)
    have hSz0 := hHeld
    clear hz0
    refine wpAnyF_take [7] (by kernel_rfl) (i := 0) (v := ?vp1) rfl (by kernel_rfl) (by kernel_rfl) (by kernel_rfl) (fun _ _ _ h => h) (Or.inl ⟨by kernel_rfl, ?hyp1⟩) hHeld ?restp1
    case hyp1 => intro w' hSw; (try dsimp only at hSw); go_simp; try with_reducible rfl
    simp only [Act.put]
    try dsimp only
    refine wpAnyF_take [7] (by kernel_rfl) (i := 1) (v := ?vp2) rfl (by kernel_rfl) (by kernel_rfl) (by kernel_rfl) (fun _ _ _ h => h) (Or.inl ⟨by kernel_rfl, ?hyp2⟩) hHeld ?restp2
    case hyp2 => intro w' hSw; (try dsimp only at hSw); go_simp; try with_reducible rfl
    simp only [Act.put]
    try dsimp only
    refine wpAnyF_take [7] (by kernel_rfl) (i := 2) (v := ?vp3) rfl (by kernel_rfl) (by kernel_rfl) (by kernel_rfl) (fun _ _ _ h => h) (Or.inl ⟨by kernel_rfl, ?hyp3⟩) hHeld ?restp3
    case hyp3 => intro w' hSw; (try dsimp only at hSw); go_simp; try with_reducible rfl
    simp only [Act.put]
    try dsimp only
    refine wpAnyF_take [7] (by kernel_rfl) (i := 3) (v := ?vp4) rfl (by kernel_rfl) (by kernel_rfl) (by kernel_rfl) (fun _ _ _ h => h) (Or.inl ⟨by kernel_rfl, ?hyp4⟩) hHeld ?restp4
    case hyp4 => intro w' hSw; (try dsimp only at hSw); go_simp; try with_reducible rfl
    simp only [Act.put]
    try dsimp only
    refine wpAnyF_ready (rs := [4, 6]) (by kernel_rfl) (by simp) ?_
    refine AllReadyF.cons rfl (fun K hK => ?_) ?_
    · have hmk := makeBo n hn10 wz0
      go_simp
      clear hmk
      obtain ⟨wz1, hz⟩ : ∃ wx, wz0.alloc (.cells (madeCells #[.bool false] n) 4) = wx := ⟨_, rfl⟩
      obtain ⟨gq, ha⟩ : ∃ a, wz0.heap.size = a := ⟨_, rfl⟩
      have hbz : Below wz0.heap.size wz0 wz1 := by rw [← hz]; exact below1 _ _
      have KQ_1 : Hid (Blk wz1 gq 4 ((List.replicate n false).map Value.bool)) := hide_ (by rw [← hz, ← ha]; exact newBo _ _)
      have HGq : Hid (w1.heap.size ≤ gq) := hide_ (by have := HBz0.out.size; omega)
      have HBz1 := hide_ (below_to HBz0.out hbz)
      have hSz1 := HS1.out wz1 HBz1.out
      rw [hz, ha]
      clear hbz hz ha
      refine hK.out _ _ (hSz1) (fun hHeld => ?_)
      clear hK K
      refine wpAnyF_take [7] (by kernel_rfl) (i := 5) (v := ?vp5) rfl (by kernel_rfl) (by kernel_rfl) (by kernel_rfl) (fun _ _ _ h => h) (Or.inl ⟨by kernel_rfl, ?hyp5⟩) hHeld ?restp5
      case hyp5 => intro w' hSw; (try dsimp only at hSw); go_simp; try with_reducible rfl
      simp only [Act.put]
      try dsimp only
      refine wpAnyF_ready (rs := [6]) (by kernel_rfl) (by simp) ?_
      refine AllReadyF.cons rfl (fun K hK => ?_) AllReadyF.nil
      go_simp
      obtain ⟨wz2, hz⟩ : ∃ wx, wz1.alloc (.cells #[.bool false, .slice none 0 0, .slice none 0 0, .slice none 0 0, .slice none 0 0, .slice none 0 0] 110) = wx := ⟨_, rfl⟩
      obtain ⟨b, ha⟩ : ∃ a, wz1.heap.size = a := ⟨_, rfl⟩
      have hbz : Below wz1.heap.size wz1 wz2 := by rw [← hz]; exact below1 _ _
      have KB_2 : Hid (Blk wz2 b 110 [.bool false, .slice none 0 0, .slice none 0 0, .slice none 0 0, .slice none 0 0, .slice none 0 0]) := hide_ (by rw [← hz, ← ha]; exact Blk.newA _ _ _)
      have HGb : Hid (w1.heap.size ≤ b) := hide_ (by have := HBz1.out.size; omega)
      have HBz2 := hide_ (below_to HBz1.out hbz)
      have KQ_2 := hide_ (KQ_1.out.later hbz)
      have hSz2 := HS1.out wz2 HBz2.out
      rw [hz, ha]
      clear hbz hz ha
      refine hK.out _ _ (hSz2) (fun hHeld => ?_)
      clear hK K
      refine wpAnyF_ready (rs := [7]) (by kernel_rfl) (by simp) ?_
      refine AllReadyF.last rfl (fun K hK => ?_)
      have pb := fun i => KB_2.out.cell i
      have p0 := pb 0; have p1 := pb 1; have p2 := pb 2; have p3 := pb 3; have p4 := pb 4; have p5 := pb 5
      simp at p0 p1 p2 p3 p4 p5
      have zb := fun i => KB_2.out.frozen i
      clear pb
      go_simp
      refine hK.out _ _ ?_
      clear hK K
      refine wpAnyF_done (by kernel_rfl) ?_ _
      obtain ⟨w3, hz⟩ : ∃ wx, putP wz2 b (.bool enc) (.slice ac n cc) (.slice ae E.length ce) (.slice (some ⟨gs, 0, none⟩) n n) (.slice (some ⟨gq, 0, none⟩) n n) (.slice none 0 0) = wx := ⟨_, rfl⟩
      have KB3 : Hid (Blk w3 b 110 [.bool enc, .slice ac n cc, .slice ae E.length ce, .slice (some ⟨gs, 0, none⟩) n n, .slice (some ⟨gq, 0, none⟩) n n, .slice none 0 0]) := hide_ (by rw [← hz]; exact KB_2.out.putP _ _ _ _ _ _)
      have KQ3 : Hid (Blk w3 gq 4 ((List.replicate n false).map Value.bool)) := hide_ (by rw [← hz]; exact KQ_2.out.putPo _ _ _ _ _ _ _ (fun e => absurd (blk_type (e ▸ KQ_2.out) KB_2.out) (by decide)))
      have HB3 : Hid (Below w1.heap.size w1 w3) := hide_ (by rw [← hz]; exact below_putP HBz2.out _ _ _ _ _ _ _ HGb.out)
      unfold putP at hz
      rw [hz]
      clear hz
      go_wp2_with fail
      go_meet
      case rel => exact ⟨b, gq, _, rfl, rfl, KB3, KQ3, HB3, HGb, HGq⟩
    refine AllReadyF.cons rfl (fun K hK => ?_) AllReadyF.nil
    go_simp
    obtain ⟨wz1, hz⟩ : ∃ wx, wz0.alloc (.cells #[.bool false, .slice none 0 0, .slice none 0 0, .slice none 0 0, .slice none 0 0, .slice none 0 0] 110) = wx := ⟨_, rfl⟩
    obtain ⟨b, ha⟩ : ∃ a, wz0.heap.size = a := ⟨_, rfl⟩
    have hbz : Below wz0.heap.size wz0 wz1 := by rw [← hz]; exact below1 _ _
    have KB_1 : Hid (Blk wz1 b 110 [.bool false, .slice none 0 0, .slice none 0 0, .slice none 0 0, .slice none 0 0, .slice none 0 0]) := hide_ (by rw [← hz, ← ha]; exact Blk.newA _ _ _)
    have HGb : Hid (w1.heap.size ≤ b) := hide_ (by have := HBz0.out.size; omega)
    have HBz1 := hide_ (below_to HBz0.out hbz)
    have hSz1 := HS1.out wz1 HBz1.out
    rw [hz, ha]
    clear hbz hz ha
    refine hK.out _ _ (hSz1) (fun hHeld => ?_)
    clear hK K
    refine wpAnyF_ready (rs := [4]) (by kernel_rfl) (by simp) ?_
    refine AllReadyF.cons rfl (fun K hK => ?_) AllReadyF.nil
    have hmk := makeBo n hn10 wz1
    go_simp
    clear hmk
    obtain ⟨wz2, hz⟩ : ∃ wx, wz1.alloc (.cells (madeCells #[.bool false] n) 4) = wx := ⟨_, rfl⟩
    obtain ⟨gq, ha⟩ : ∃ a, wz1.heap.size = a := ⟨_, rfl⟩
    have hbz : Below wz1.heap.size wz1 wz2 := by rw [← hz]; exact below1 _ _
    have KQ_2 : Hid (Blk wz2 gq 4 ((List.replicate n false).map Value.bool)) := hide_ (by rw [← hz, ← ha]; exact newBo _ _)
    have HGq : Hid (w1.heap.size ≤ gq) := hide_ (by have := HBz1.out.size; omega)
    have HBz2 := hide_ (below_to HBz1.out hbz)
    have KB_2 := hide_ (KB_1.out.later hbz)
    have hSz2 := HS1.out wz2 HBz2.out
    rw [hz, ha]
    clear hbz hz ha
    refine hK.out _ _ (hSz2) (fun hHeld => ?_)
    clear hK K
    refine wpAnyF_take [7] (by kernel_rfl) (i := 5) (v := ?vp6) rfl (by kernel_rfl) (by kernel_rfl) (by kernel_rfl) (fun _ _ _ h => h) (Or.inl ⟨by kernel_rfl, ?hyp6⟩) hHeld ?restp6
    case hyp6 => intro w' hSw; (try dsimp only at hSw); go_simp; try with_reducible rfl
    simp only [Act.put]
    try dsimp only
    refine wpAnyF_ready (rs := [7]) (by kernel_rfl) (by simp) ?_
    refine AllReadyF.last rfl (fun K hK => ?_)
    have pb := fun i => KB_2.out.cell i
    have p0 := pb 0; have p1 := pb 1; have p2 := pb 2; have p3 := pb 3; have p4 := pb 4; have p5 := pb 5
    simp at p0 p1 p2 p3 p4 p5
    have zb := fun i => KB_2.out.frozen i
    clear pb
    go_simp
    refine hK.out _ _ ?_
    clear hK K
    refine wpAnyF_done (by kernel_rfl) ?_ _
    obtain ⟨w3, hz⟩ : ∃ wx, putP wz2 b (.bool enc) (.slice ac n cc) (.slice ae E.length ce) (.slice (some ⟨gs, 0, none⟩) n n) (.slice (some ⟨gq, 0, none⟩) n n) (.slice none 0 0) = wx := ⟨_, rfl⟩
    have KB3 : Hid (Blk w3 b 110 [.bool enc, .slice ac n cc, .slice ae E.length ce, .slice (some ⟨gs, 0, none⟩) n n, .slice (some ⟨gq, 0, none⟩) n n, .slice none 0 0]) := hide_ (by rw [← hz]; exact KB_2.out.putP _ _ _ _ _ _)
    have KQ3 : Hid (Blk w3 gq 4 ((List.replicate n false).map Value.bool)) := hide_ (by rw [← hz]; exact KQ_2.out.putPo _ _ _ _ _ _ _ (fun e => absurd (blk_type (e ▸ KQ_2.out) KB_2.out) (by decide)))
    have HB3 : Hid (Below w1.heap.size w1 w3) := hide_ (by rw [← hz]; exact below_putP HBz2.out _ _ _ _ _ _ _ HGb.out)
    unfold putP at hz
    rw [hz]
    clear hz
    go_wp2_with fail
    go_meet
    case rel => exact ⟨b, gq, _, rfl, rfl, KB3, KQ3, HB3, HGb, HGq⟩
  case rest =>
  obtain ⟨b, gq, w3, rfl, rfl, KB3, KQ3, HB3, HGb, HGq⟩ := hcut
  have HBw3 := hide_ (below_to HB1.out HB3.out)
  have HX3 : Hid (PtX w w3 b cc ce gs gq ac ae enc C E S (List.replicate n false) (.slice none 0 0)) := hide_ (by
    have h1 := KB3.out
    rw [← Hn.out] at h1
    exact ⟨⟨h1, hr.out.later HBw3.out, he.out.later HBw3.out, hS.out.later HBw3.out, hSl, KQ3.out, by rw [List.length_replicate, Hn.out]⟩, HBw3.out, hr.out, he.out, Nat.le_trans HB1.out.size HGq.out, Nat.le_trans HB1.out.size HGb.out⟩)
  have HK3 := hide_ (HK1.out.later HB3.out)
  have HFq := hide_ (findQuiet_any w b cc ce gs gq n ac ae enc C E S (List.replicate n false) (.slice none 0 0) w3 Hn.out hn9 (by rw [Hn.out]; exact hccn) hcl HCe HI1 HX3)
  rw [HQ.out] at HFq
  have HneK : Hid (w.heap.size ≠ gq ∧ w.heap.size ≠ b) := hide_ ⟨fun e => by have := HGq.out; have := HK1.out.lt; omega, fun e => by have := HGb.out; have := HK1.out.lt; omega⟩
  clear HX3 KB3 KQ3 HB3 hr he hS HS1
  go_wp2_with fail
  refine HFq.out.mono ?_
  rintro e w4 ⟨rfl, hX4, hU4⟩
  have HX4 := hide_ hX4
  have HK4 := hide_ (HK3.out.upd hU4 (fun e => HneK.out.1 e))
  have HRv := hide_ (reversed_any 83 (.pointer (some ⟨b, 0, none⟩)) (bareP C E S Q) b cc ce gs gq n ac ae enc C E S Q (.slice none 0 0) w4 Hn.out hn9 (hide_ hX4.p) (hide_ (fun k hk hc => by rw [← Hn.out]; exact bare_in HCe.out (by rw [Hn.out]; exact hk) (HI1.out k hk hc) S Q)) (hide_ (fun k hk => Nat.le_trans (bare_len (E := E) HCe.out.cd (by rw [Hn.out]; exact hk) S Q) (by omega))) (hide_ (fun k w' hk hc hB => bare_any b cc ce gs gq ac ae enc C E S Q (.slice none 0 0) k w' (by rw [Hn.out]; exact hk) (by rw [Hn.out]; exact hccn) hcl HCe (hide_ (hX4.p.later hB)))) enBr)
  rw [HUe.out] at HRv
  clear HFq hX4 hU4 HK3
  go_wp2_with fail
  refine HRv.out.mono ?_
  rintro e w5 ⟨gb, vs, rfl, hgb, hK5, hUl5, hB5⟩
  have hX5 := HX4.out.later hB5
  have hK5b := HK4.out.later hB5
  have cb := hX5.p.cells.2.2.2.2.2
  have zb := hX5.p.blk.frozen 5
  obtain ⟨w6, hw6⟩ : ∃ wx, w5.setCell ⟨b, 5, none⟩ (.slice (some ⟨gb, 0, none⟩) n n) = wx := ⟨_, rfl⟩
  obtain ⟨hX6, hU6⟩ := hX5.setB (.slice (some ⟨gb, 0, none⟩) n n)
  rw [hw6] at hX6 hU6
  have HBk6 := hide_ (hK5.upd hU6 (fun e => absurd (blk_type (e ▸ hK5.blk) hX5.p.blk) (by decide)) (fun i v q hv e e2 => (hK5.own i v hv).neB hX5.p.blk (by decide) (e2 ▸ e)))
  have HX6 := hide_ hX6
  have HK6 := hide_ (hK5b.upd hU6 (fun e => HneK.out.2 e))
  have HRi := hide_ (rings_any b cc ce gs gq gb w4.heap.size n ac ae enc C E S Q vs U w6 Hn.out HUl.out hn9 (by rw [Hn.out]; exact hccn) hcl HeU HT HCe hI2 HBk6 (hide_ hX6.p))
  rw [HRG.out] at HRi
  clear HRv hX5 hK5b hX6 hU6 hK5 hB5 hgb hUl5 HX4 HK4
  go_wp2_with fail
  try rw [hw6]
  clear hw6 cb zb
  refine HRi.out.mono ?_
  rintro e w7 ⟨gr, rfl, hgr, hKr, hRGl, hB7⟩
  have HX7 := hide_ (HX6.out.later hB7)
  have HBk7 := hide_ (HBk6.out.later hB7)
  have HK7 := hide_ (HK6.out.later hB7)
  have HKr7 := hide_ hKr
  have HRGl := hide_ hRGl
  have HLe := hide_ (leads_any b cc ce gs gq gb w4.heap.size n ac ae enc C E S Q vs U w7 Hn.out HUl.out hn9 HeU HT HCe HBk7 (hide_ HX7.out.p))
  rw [HLD.out] at HLe
  clear HRi hgr hKr hRGl hB7 HX6 HBk6 HK6
  go_wp2_with fail
  refine HLe.out.mono ?_
  rintro e w8 ⟨gl, rfl, hgl, hKl, hLDl, hB8⟩
  have HX8 := hide_ (HX7.out.later hB8)
  have HK8 := HK7.out.later hB8
  have HKr8 := hide_ (HKr7.out.later hB8)
  have HKl8 := hide_ hKl
  have HLDl := hide_ hLDl
  have k1 := HK8.cell 1
  simp only [List.getElem?_cons_succ, List.getElem?_cons_zero] at k1
  obtain ⟨w9, hmk, hK9, hB9⟩ : ∃ wx, (Instr.makeSlice 28 (.int .i64 (n : Int)) (.int .i64 (n : Int))).run Tryz.prog w8 = .ok (.slice (some ⟨w8.heap.size, 0, none⟩) n n) wx ∧ Blk wx w8.heap.size 4 ((List.replicate n false).map Value.bool) ∧ Below w8.heap.size w8 wx := ⟨_, makeBo n (by omega) w8, newBo w8 n, below1 _ _⟩
  obtain ⟨gn, hgn⟩ : ∃ gn, w8.heap.size = gn := ⟨_, rfl⟩
  rw [hgn] at hmk hK9
  have k2 := (HK8.later hB9).cell 2
  simp only [List.getElem?_cons_succ, List.getElem?_cons_zero] at k2
  have HX9 := hide_ (HX8.out.later hB9)
  have HKr9 := hide_ (HKr8.out.later hB9)
  have HKl9 := hide_ (HKl8.out.later hB9)
  have HK9 := hide_ hK9
  have Hgne : Hid (gn ≠ b ∧ gn ≠ gs ∧ gn ≠ gq ∧ gn ≠ gr ∧ gn ≠ gl ∧ w.heap.size ≤ gn) := hide_ (by
    have e1 := HX8.out.p.blk.lt
    have e2 := HX8.out.p.st.lt
    have e3 := HX8.out.p.qt.lt
    have e4 := HKr8.out.lt
    have e5 := HKl8.out.lt
    have e6 := HX8.out.old.size
    exact ⟨by omega, by omega, by omega, by omega, by omega, by omega⟩)
  clear HLe hgl hKl hLDl hB8 HX7 HBk7 HK7 HKr7 HX8 HK8 HKr8 HKl8 hK9 hB9 hgn
  go_wp2_with fail
  clear hmk k1 k2
  have HWd : Hid (∀ W, Upd (fun q => q = gn) w9 W → PtX w W b cc ce gs gq ac ae enc C E S Q (.slice (some ⟨gb, 0, none⟩) n n) ∧ Blk W gr 4 (RG.map Value.bool) ∧ Blk W gl 3 (cellsL .i64 LD)) := hide_ (fun W hu =>
    ⟨HX9.out.upd hu (fun q e => by rw [e]; exact Hgne.out.2.2.2.2.2) (fun e => Hgne.out.1 e.symm) (fun e => Hgne.out.2.1 e.symm) (fun e => Hgne.out.2.2.1 e.symm), HKr9.out.upd hu (fun e => Hgne.out.2.2.2.1 e.symm), HKl9.out.upd hu (fun e => Hgne.out.2.2.2.2.1 e.symm)⟩)
  obtain ⟨ed, hed⟩ : ∃ ed, edW C S = ed := ⟨_, rfl⟩
  obtain ⟨ip, hip⟩ : ∃ ip, idleP C E S Q = ip := ⟨_, rfl⟩
  have HSp : Hid (∀ (W : World) (k : Nat) (s : List Bool), Upd (fun q => q = gn) w9 W → k < n → cameP S k = true → s.length = n → Blk W gn 4 (s.map Value.bool) → Calls Tryz.prog 86 #[.int .i64 (k : Int), .func (.func 87) #[.pointer (some ⟨b, 0, none⟩)] #[], .slice (some ⟨gn, 0, none⟩) n n] W fun e w' => SpTo W gn n (spF ed (tot ed s n + 2) [(k : Int)] s []) e w') := hide_ (fun W k s hu hk hck hs hKs => by
    rw [← hed]
    refine spread_gen (fun k => cameP S k = true) 87 (.pointer (some ⟨b, 0, none⟩)) (edW C S) n k gn s W hn9 hk hck HcW hs HeW (hide_ (by have := HtW.out s; omega)) (hide_ hKs) (hide_ (fun j w' hj hcj hu2 => ?_)) enWy
    refine (pways_any b cc ce gs gq ac ae enc C E S Q _ j w' (by rw [Hn.out]; exact hj) (by rw [Hn.out]; exact hccn) hcl (hide_ HCe.out.cd) (hide_ (HWd.out w' (hu.to hu2)).1.p)).mono ?_
    rintro e w'' ⟨v, rfl, HO, HB⟩
    obtain ⟨a, c, ev, hrv, hnv, -⟩ := HO.out.row
    subst ev
    have e1 : edW C S j = waysP C j := by unfold edW; rw [if_pos hcj]
    rw [e1]
    exact ⟨a, c, rfl, hide_ hnv, hide_ hrv, HB⟩)
  have HSo : Hid (∀ (k : Nat) (s : List Bool), k < n → s.length = n → Stn n (spF ed (tot ed s n + 2) [(k : Int)] s []).1 ∧ (spF ed (tot ed s n + 2) [(k : Int)] s []).2.length = n ∧ (spF ed (tot ed s n + 2) [(k : Int)] s []).1.length ≤ 1 + 64 * n) := hide_ (fun k s hk hs => by
    have h1 := spF_ok (ed := ed) (by rw [← hed]; exact HeW.out) (tot ed s n + 2) [(k : Int)] s [] (fun y hy => by rw [List.mem_singleton] at hy; omega) hs (fun y hy => by cases hy)
    have h2 := HtW.out s
    rw [hed] at h2
    refine ⟨h1.1, h1.2.1, ?_⟩
    have h3 := h1.2.2
    simp only [List.length_nil, List.length_singleton] at h3
    omega)
  have HId : Hid (∀ (W : World) (k : Nat), Upd (fun q => q = gn) w9 W → k < n → Calls Tryz.prog 88 #[.pointer (some ⟨b, 0, none⟩), .int .i64 (k : Int)] W fun e w'' => e = .returned (.bool (ip k)) ∧ Below W.heap.size W w'') := hide_ (fun W k hu hk => by
    rw [← hip]
    exact idle_any b cc ce gs gq ac ae enc C E S Q _ k W (by rw [Hn.out]; exact hk) HCe (hide_ (HWd.out W hu).1.p))
  have Hnx : Hid (∀ k, k < n → ip k = true → k + 1 < n) := hide_ (fun k hk h => by
    rw [← hip] at h
    have h1 := idle_next (fun hc => HI1.out k hk hc) h
    rw [Hn.out] at h1
    exact h1)
  rw [hed, hip] at HR
  clear hed hip
  go_loopw [33] (fun x33 wr => ∃ (j : Nat) (s : List Bool), j ≤ E.length ∧ x33 = .int .i64 (j : Int) ∧ Hid (seF ed n RG LD ip (E.drop j) s = R) ∧ Hid (s.length = n) ∧ Hid (Blk wr gn 4 (s.map Value.bool)) ∧ Hid (Upd (fun q => q = gn) w9 wr)) (fun x33 _ => E.length - (intOf x33).toNat)
  case atStart => exact ⟨0, _, by omega, rfl, HR, hide_ (by simp), HK9, hide_ (Upd.refl _ _)⟩
  case round =>
    clear HR HK9 HX9 HKr9 HKl9
    obtain ⟨j, s, hj, rfl, HRj, Hsl, HKj, HUj⟩ := hrel
    generalize wr = wq at *
    by_cases hlt : j < E.length
    · have hlt' : (j : Int) < (E.length : Int) := by omega
      obtain ⟨hXq, hKrq, hKlq⟩ := HWd.out wq HUj.out
      obtain ⟨be, oe, hae, hbe, hcE⟩ := hXq.p.ent.open (by omega)
      have ce1 := hcE j hlt
      obtain ⟨e0, e1, e2⟩ := HEn.out j hlt
      obtain ⟨x, hx⟩ : ∃ x, E.getD j 0 = x := ⟨_, rfl⟩
      rw [hx] at e0 e1 e2 ce1
      obtain ⟨k, rfl⟩ := Int.eq_ofNat_of_zero_le e0
      rw [Int.toNat_natCast] at e2
      have hkn : k < n := by omega
      have cl : wq.cell? ⟨gl, k, none⟩ = some (.int .i64 (hAt LD k)) := by
        rw [hKlq.cell, cellsL_at .i64 LD k (by rw [HLDl.out]; exact hkn)]
        rfl
      obtain ⟨l0, hl0⟩ : ∃ l0, hAt LD k = l0 := ⟨_, rfl⟩
      rw [hl0] at cl
      obtain ⟨RR, hRR⟩ : ∃ RR, spF ed (tot ed s n + 2) [(k : Int)] s [] = RR := ⟨_, rfl⟩
      have HSj := hide_ (HSp.out wq k s HUj.out hkn e2 Hsl.out HKj.out)
      have HSoj := hide_ (HSo.out k s hkn Hsl.out)
      rw [hRR] at HSj HSoj
      obtain ⟨LL, hLL⟩ : ∃ LL, RR.1.foldl (lsP RG LD ip) l0 = LL := ⟨_, rfl⟩
      have HRj2 : Hid ((if LL ≠ 1048576 then LL else seF ed n RG LD ip (E.drop (j + 1)) RR.2) = R) := hide_ (by
        have h1 := HRj.out
        rw [List.drop_eq_getElem_cons hlt] at h1
        have h2 : E[j] = (k : Int) := by
          rw [← hx]
          simp [List.getD, hlt]
        rw [h2, seF, hRR, Int.toNat_natCast, hl0, hLL] at h1
        exact h1)
      have HLL := hide_ hLL
      subst hae
      clear hx hRR hl0 hLL HRj e0 e1 e2 hXq hKrq hKlq hcE hbe
      go_wp2_with fail
      refine HSj.out.mono ?_
      rintro e w10 hT10
      obtain ⟨v10, rfl, hO10, hK10, hl10, hU10⟩ := hT10
      obtain ⟨a10, c10, ev10⟩ := hO10.slice
      subst ev10
      have HO10 := hide_ hO10
      have HK10 := hide_ hK10
      have Hl10 := hide_ hl10
      have HU10 := hide_ (HUj.out.to hU10)
      have hfl : RR.1.length ≤ 1 + 64 * n := HSoj.out.2.2
      clear hO10 hK10 hl10 hU10 HSj ce1 cl HKj HUj
      go_wp2_with fail
      go_loopw [11, 46] (fun x11 x46 wr => ∃ (i : Nat) (l : Int), i ≤ RR.1.length ∧ x46 = .int .i64 (i : Int) ∧ x11 = .int .i64 l ∧ Hid ((RR.1.drop i).foldl (lsP RG LD ip) l = LL) ∧ Hid (Blk wr gn 4 (RR.2.map Value.bool)) ∧ Hid (IOwn wr wq.heap.size (.slice a10 RR.1.length c10) RR.1) ∧ Hid (Upd (fun q => q = gn) w9 wr)) (fun _ x46 _ => RR.1.length - (intOf x46).toNat)
      case atStart => exact ⟨0, l0, by omega, rfl, rfl, HLL, HK10, HO10, HU10⟩
      case round =>
        clear HLL HK10 HO10 HU10
        obtain ⟨i, l, hi, rfl, rfl, HRi, HKi, HOi, HUi⟩ := hrel
        generalize wr = wp at *
        by_cases hil : i < RR.1.length
        · have hil' : (i : Int) < (RR.1.length : Int) := by omega
          obtain ⟨g, c, hv, hcv, hgB, hgL⟩ := HOi.out.open (by omega)
          injection hv with hv1 hv2 hv3
          subst hv1
          obtain ⟨cy, -⟩ := HOi.out.cellH (i := i) hil
          obtain ⟨y0, y1⟩ := HSoj.out.1 _ (hAt_mem (l := RR.1) (i := i) hil)
          obtain ⟨m, hm⟩ := Int.eq_ofNat_of_zero_le y0
          rw [hm] at cy y1
          have hmn : m < n := by omega
          have hmn' : (m : Int) < (n : Int) := y1
          have hRi2 : (RR.1.drop (i + 1)).foldl (lsP RG LD ip) (lsP RG LD ip l (m : Int)) = LL := by
            have h1 := HRi.out
            rw [List.drop_eq_getElem_cons hil] at h1
            have h2 : RR.1[i] = (m : Int) := by
              rw [← hm]
              simp [hAt, List.getD, hil]
            rw [h2, List.foldl_cons] at h1
            exact h1
          obtain ⟨-, hKrp, hKlp⟩ := HWd.out wp HUi.out
          have cr := bAt hKrp (k := m) (by rw [HRGl.out]; exact hmn)
          obtain ⟨d1, hd1⟩ : ∃ d1, qAt RG m = d1 := ⟨_, rfl⟩
          rw [hd1] at cr
          obtain ⟨l1, hl1⟩ : ∃ l1, (if d1 = true then min l (m : Int) else l) = l1 := ⟨_, rfl⟩
          obtain ⟨d2, hd2⟩ : ∃ d2, ip m = d2 := ⟨_, rfl⟩
          have hls : lsP RG LD ip l (m : Int) = if d2 = true then min l1 (hAt LD (m + 1)) else l1 := by
            unfold lsP
            rw [Int.toNat_natCast, hd1, hd2, hl1]
          rw [hls] at hRi2
          have HRi2 := hide_ hRi2
          have HIj := hide_ (HId.out wp m HUi.out hmn)
          rw [hd2] at HIj
          have Hd2 := hide_ hd2
          have Hl1 := hide_ hl1
          have HKlp := hide_ hKlp
          clear hv2 hv3 hcv hgB hgL y0 y1 hm HRi hRi2 hls hd1 hd2 hl1 hKrp hKlp
          go_upto_if 53 with fail
          clear cy cr
          go_cut [11] from 53 to 56 (fun x11 wc => x11 = .int .i64 l1 ∧ wp = wc)
          case first =>
            cases d1
            · have e1 : l = l1 := by
                have h1 := Hl1.out
                rw [if_neg (by simp)] at h1
                exact h1
              subst e1
              go_wp2_with fail
              go_meet
              case rel => exact ⟨rfl, rfl⟩
            · have e1 : min l (m : Int) = l1 := by
                have h1 := Hl1.out
                rw [if_pos rfl] at h1
                exact h1
              have He1 := hide_ e1
              clear e1
              by_cases hlm : (m : Int) < l
              · have e2 : (m : Int) = l1 := by rw [← He1.out]; omega
                have He2 := hide_ e2
                clear e2
                go_wp2_with fail
                go_meet
                case rel => exact ⟨by rw [← He2.out], rfl⟩
              · have e2 : l = l1 := by rw [← He1.out]; omega
                have He2 := hide_ e2
                clear e2
                go_wp2_with fail
                go_meet
                case rel => exact ⟨by rw [← He2.out], rfl⟩
          case rest =>
          obtain ⟨rfl, rfl⟩ := hcut
          go_wp2_with fail
          refine HIj.out.mono ?_
          rintro e w11 ⟨rfl, hB11⟩
          have HK11 := hide_ (HKi.out.later hB11)
          have HO11 := hide_ (HOi.out.later hB11)
          have HU11 := hide_ (HUi.out.then hB11)
          have hKl11 := HKlp.out.later hB11
          clear hB11 HKi HOi HUi HIj HKlp
          cases d2
          · have HRi3 : Hid ((RR.1.drop (i + 1)).foldl (lsP RG LD ip) l1 = LL) := hide_ (by
              have h1 := HRi2.out
              rw [if_neg (by simp)] at h1
              exact h1)
            clear HRi2 hKl11
            go_wp2_with fail
            go_roundw
            case rel => exact ⟨i + 1, l1, by omega, by go_num, rfl, HRi3, HK11, HO11, HU11⟩
            case measure => simp [intOf]; omega
          · have hm1 : m + 1 < n := Hnx.out m hmn Hd2.out
            have hm1' : (m : Int) + 1 < (n : Int) := by omega
            have hwm : IntKind.i64.wrap ((m : Int) + 1) = (m : Int) + 1 := i64w _ (by omega)
            have cl : w11.cell? ⟨gl, m + 1, none⟩ = some (.int .i64 (hAt LD (m + 1))) := by
              rw [hKl11.cell, cellsL_at .i64 LD (m + 1) (by rw [HLDl.out]; exact hm1)]
              rfl
            obtain ⟨y, hy⟩ : ∃ y, hAt LD (m + 1) = y := ⟨_, rfl⟩
            rw [hy] at cl
            have HRi3 : Hid ((RR.1.drop (i + 1)).foldl (lsP RG LD ip) (min l1 y) = LL) := hide_ (by
              have h1 := HRi2.out
              rw [if_pos rfl, hy] at h1
              exact h1)
            clear HRi2 hKl11 hy
            by_cases hly : y < l1
            · have HRi4 : Hid ((RR.1.drop (i + 1)).foldl (lsP RG LD ip) y = LL) := hide_ (by
                have h1 := HRi3.out
                rw [show min l1 y = y by omega] at h1
                exact h1)
              clear HRi3
              go_wp2_with fail
              go_roundw
              case rel => exact ⟨i + 1, y, by omega, by go_num, rfl, HRi4, HK11, HO11, HU11⟩
              case measure => simp [intOf]; omega
            · have HRi4 : Hid ((RR.1.drop (i + 1)).foldl (lsP RG LD ip) l1 = LL) := hide_ (by
                have h1 := HRi3.out
                rw [show min l1 y = l1 by omega] at h1
                exact h1)
              clear HRi3
              go_wp2_with fail
              go_roundw
              case rel => exact ⟨i + 1, l1, by omega, by go_num, rfl, HRi4, HK11, HO11, HU11⟩
              case measure => simp [intOf]; omega
        · have hil' : ¬ ((i : Int) < (RR.1.length : Int)) := by omega
          have e1 : l = LL := by
            have h1 := HRi.out
            rw [List.drop_eq_nil_of_le (by omega)] at h1
            exact h1
          subst e1
          by_cases hLn : l = 1048576
          · have f0 : (l == 1048576) = true := by simpa using hLn
            have HR5 : Hid (seF ed n RG LD ip (E.drop (j + 1)) RR.2 = R) := hide_ (by
              have h1 := HRj2.out
              rw [if_neg (fun h => h hLn)] at h1
              exact h1)
            clear HRj2 HRi HOi
            go_wp2_with fail
            go_roundw
            case rel => exact ⟨j + 1, RR.2, by omega, by go_num, HR5, Hl10, HKi, HUi⟩
            case measure => simp [intOf]; omega
          · have f0 : (l == 1048576) = false := by simpa using hLn
            have HX : Hid (SlTo w R (.returned (.int .i64 l)) wp) := hide_ (by
              have h1 := HRj2.out
              rw [if_pos hLn] at h1
              rw [← h1]
              exact ⟨rfl, (HWd.out wp HUi.out).1.old⟩)
            clear HRj2 HRi HOi
            go_wp2_with fail
            go_ret
            exact HX.out
    · have hlt' : ¬ ((j : Int) < (E.length : Int)) := by omega
      have HX : Hid (SlTo w R (.returned (.int .i64 1048576)) wq) := hide_ (by
        have h1 := HRj.out
        rw [List.drop_eq_nil_of_le (by omega), seF] at h1
        rw [← h1]
        exact ⟨rfl, (HWd.out wq HUj.out).1.old⟩)
      go_wp2_with fail
      go_ret
      exact HX.out
end Go.Proofs.YtiojpohmgjdgfaaGreat

/- sound: verified, Verify. -/
namespace Go.Proofs.YtiojpohmgjdgfaaGreat
open Go.RowKit
set_option linter.unusedVariables false
set_option linter.unusedSimpArgs false

/-- The states behind the first look. -/
def stP (enc : Bool) (C : List In) (E : List Int) : List St := (firstP enc C E 0 (List.replicate C.length st0)).2
/-- What Verify answers. -/
def vfP (enc : Bool) (C : List In) (E : List Int) : Int × Int :=
  if (chk enc C E).1 ≠ 0 then chk enc C E else
  if (firstP enc C E 0 (List.replicate C.length st0)).1 ≠ 1048576 then (150, (firstP enc C E 0 (List.replicate C.length st0)).1) else
  if secondP C E (stP enc C E) ≠ 1048576 then (150, secondP C E (stP enc C E)) else (0, 0)
theorem firstP_all {enc : Bool} {C : List In} {E : List Int} (hK : Chk enc C E) (h : (firstP enc C E 0 (List.replicate C.length st0)).1 = 1048576) : SAll (stP enc C E) ∧ (stP enc C E).length = C.length ∧ (∀ k, k < C.length → cameP (stP enc C E) k = true → Inn C k ∧ ∀ y ∈ waysP C k, cameP (stP enc C E) y.toNat = true) ∧ ∀ e ∈ E, cameP (stP enc C E) e.toNat = true := by
  have hz : ∀ k, (stA (List.replicate C.length st0) k).pl = 0 := fun k => by
    unfold stA
    by_cases hk : k < C.length <;> simp [List.getD, hk, st0]
  have hE : ∀ e ∈ E, 0 ≤ e ∧ e < (C.length : Int) := fun e he => by
    obtain ⟨i, hi, rfl⟩ := List.mem_iff_getElem.1 he
    have := hK.ent i hi
    simpa [List.getD, hi] using this
  obtain ⟨-, h2, h3⟩ := firstP_lkd hK.win hK.cdok E 0 hE (by simp) (pnd_new _ _ (by simp)) (SAll.new _) (fun k hk hp => absurd (hz k) hp) h
  obtain ⟨d1, -, d3⟩ := firstP_cls hK.win hK.cdok E 0 hE (by simp) (pnd_new _ _ (by simp)) (SAll.new _) (fun k hk hp => absurd (hz k) hp) h
  refine ⟨h2, h3, fun k hk hc => ⟨firstP_inn hK h k hk hc, fun y hy => ?_⟩, fun e he => ?_⟩
  · have h4 : (stA (stP enc C E) k).pl ≠ 0 := by
      unfold cameP at hc
      simpa using hc
    rcases d1 k hk h4 with h5 | h5
    · cases h5
    · unfold cameP stP
      simpa using h5 y hy
  · unfold cameP stP
    simpa using d3 e he
theorem retVS {fn : Func} {p u : Tmp} (h : fn.results = #[.tmp u, .cell p 31]) {R : Ending → World → Prop} {tmps : Array Value} {g : Nat} {w : World} {x y v : Value} (hu : tmps.getD u undef = v) (hp : tmps.getD p undef = .pointer (some ⟨g, 0, none⟩)) (hK : Blk w g 31 [x, y]) (hR : R (.returned (.tuple #[v, .agg #[x, y]])) w) :
    bodyPost Tryz.prog fn R Exit.ret ⟨tmps, []⟩ w :=
  bodyPost_ret (results_tmp_cell_row h _ _ _ _ #[x, y] _ _ hp (show w.heap[g]? = some (.cells #[x, y] 31 (0, 0)) from hK) Tryz.underlying31 rfl (by show _ = some 2; kernel_rfl)) rfl (by rw [hu]; exact hR)
/-- What verified answers. -/
def VfTo (w : World) (enc : Bool) (C : List In) (E : List Int) (e : Ending) (w' : World) : Prop :=
  Below w.heap.size w w' ∧ (((vfP enc C E).1 = 0 ∧ (vfP enc C E).2 = 0 ∧ Chk enc C E ∧ SAll (stP enc C E) ∧ (stP enc C E).length = C.length ∧ ∃ g, e = .returned (.tuple #[.slice (some ⟨g, 0, none⟩) C.length C.length, .agg #[.int .i64 0, .int .i64 0]]) ∧ w.heap.size ≤ g ∧ Blk w' g 126 (cellsG stc (stP enc C E))) ∨
    ((vfP enc C E).1 ≠ 0 ∧ e = .returned (.tuple #[.slice none 0 0, .agg #[.int .i64 (vfP enc C E).1, .int .i64 (vfP enc C E).2]])))
set_option maxRecDepth 100000 in
set_option maxHeartbeats 16000000 in
theorem verified_any (enc : Bool) (ac ae : Option Addr) (cc ce : Nat) (C : List In) (E : List Int) (w : World) (hcc : C.length ≤ cc) (hcl : cc ≤ 9223372036854775807) (hCl : C.length ≤ 140737488355328) (hce : E.length ≤ ce) (hel : E.length ≤ 140737488355328) (hr : Hid (IRow w ac C)) (he : Hid (Row .i64 w ae E)) :
    Calls Tryz.prog 31 #[.agg #[.bool enc, .slice ac C.length cc, .slice ae E.length ce]] w fun e w' => VfTo w enc C E e w' := by
  obtain ⟨w1, hw1⟩ : ∃ wx, (w.alloc (.cells #[.bool enc, .slice ac C.length cc, .slice ae E.length ce] 25)).alloc (.cells #[.int .i64 0, .int .i64 0] 31) = wx := ⟨_, rfl⟩
  have hB1 : Below w.heap.size w w1 := by rw [← hw1]; exact below2 _ _ _
  obtain ⟨kp, kf⟩ := blk2 w #[.bool enc, .slice ac C.length cc, .slice ae E.length ce] #[.int .i64 0, .int .i64 0] 25 31
  rw [hw1] at kp kf
  have hgf : w.heap.size ≤ w.heap.size + 1 := by omega
  have p0 := kp.cell 0; have p1 := kp.cell 1; have p2 := kp.cell 2
  simp at p0 p1 p2
  have HCk := hide_ (check_any enc ac ae cc ce C E w1 hcc hcl hCl hce hel (hide_ (hr.out.later hB1)) (hide_ (he.out.later hB1)))
  obtain ⟨K, hK⟩ : ∃ K, chk enc C E = K := ⟨_, rfl⟩
  rw [hK] at HCk
  have HKk := hide_ hK
  have KP := hide_ kp
  have KF := hide_ kf
  have HB1 := hide_ hB1
  clear kp kf hB1 hK
  go_enter Tryz.func31, Tryz.ntmps31
  go_upto_region 1 with fail
  try rw [hw1]
  clear hw1
  go_wp2_with fail
  refine HCk.out.mono ?_
  rintro e w2 ⟨rfl, hB2⟩
  obtain ⟨w3, hw3⟩ : ∃ wx, w2.alloc (.cells #[.int .i64 K.1, .int .i64 K.2] 31) = wx := ⟨_, rfl⟩
  have hB3 : Below w2.heap.size w2 w3 := by rw [← hw3]; exact below1 _ _
  have hK3 : Blk w3 w2.heap.size 31 [.int .i64 K.1, .int .i64 K.2] := by rw [← hw3]; exact Blk.newA _ _ _
  have HB3 := hide_ (below_to (below_to HB1.out hB2) hB3)
  have HP3 := hide_ ((KP.out.later hB2).later hB3)
  have HF3 := hide_ ((KF.out.later hB2).later hB3)
  have q0 := hK3.cell 0; have q1 := hK3.cell 1
  simp at q0 q1
  clear hB2 hB3 HCk p0 p1 p2 hK3 KP KF HB1
  by_cases h0 : K.1 = 0
  · have f0 : (K.1 == 0) = true := by simpa using h0
    have HK : Hid (Chk enc C E) := hide_ (chk_ok.1 (chk_zero (by rw [HKk.out]; exact h0)))
    have HFl := hide_ (firstLook_any enc ac ae cc ce C E w3 hcc hcl hce HK (hide_ (hr.out.later HB3.out)) (hide_ (he.out.later HB3.out)))
    have p0 := HP3.out.cell 0; have p1 := HP3.out.cell 1; have p2 := HP3.out.cell 2
    simp at p0 p1 p2
    have H0 := hide_ h0
    obtain ⟨F, hF⟩ : ∃ F, firstP enc C E 0 (List.replicate C.length st0) = F := ⟨_, rfl⟩
    rw [hF] at HFl
    have HFe := hide_ hF
    clear hF h0
    go_wp2_with fail
    try rw [hw3]
    clear hw3
    refine HFl.out.mono ?_
    rintro e w4 ⟨hB4, hT⟩
    have HB4 := hide_ (below_to HB3.out hB4)
    have HP4 := hide_ (HP3.out.later hB4)
    have HF4 := hide_ (HF3.out.later hB4)
    clear q0 q1 p0 p1 p2 HFl
    have z0 := HF4.out.cell 0; have z1 := HF4.out.cell 1
    have zf := fun i => HF4.out.frozen i
    simp at z0 z1
    rcases hT with ⟨hT1, g, rfl, hg, hTl, hTb⟩ | ⟨hT1, rfl⟩
    · obtain ⟨a1, a2, a3, a4⟩ := firstP_all HK.out (by rw [HFe.out]; exact hT1)
      have hSe : stP enc C E = F.2 := by unfold stP; rw [HFe.out]
      rw [hSe] at a1 a2 a3 a4
      have HSl := hide_ (secondLook_any enc ac ae cc ce g C E F.2 w4 hcc hcl hce HK (hide_ (hr.out.later HB4.out)) (hide_ (he.out.later HB4.out)) (hide_ hTb) a2 (hide_ a3) (hide_ a4))
      obtain ⟨s, hs⟩ : ∃ s, secondP C E F.2 = s := ⟨_, rfl⟩
      rw [hs] at HSl
      have p0 := HP4.out.cell 0; have p1 := HP4.out.cell 1; have p2 := HP4.out.cell 2
      simp at p0 p1 p2
      have HTb := hide_ hTb
      have Hg : Hid (w.heap.size ≤ g) := hide_ (Nat.le_trans HB3.out.size hg)
      have Hgf : Hid (g ≠ w.heap.size + 1) := hide_ (fun e => by have h1 := HF3.out.lt; omega)
      have HAl : Hid (SAll F.2 ∧ F.2.length = C.length) := hide_ ⟨a1, a2⟩
      have HVf : Hid (vfP enc C E = if s ≠ 1048576 then (150, s) else (0, 0)) := hide_ (by
        unfold vfP
        rw [HKk.out, HFe.out, if_neg (by simp [H0.out]), if_neg (by simp [hT1]), hSe, hs])
      have HSe := hide_ hSe
      clear hT1 hg hTl hTb a1 a2 a3 a4 hs hSe hB4 z0 z1 zf
      go_wp2_with fail
      refine HSl.out.mono ?_
      rintro e w5 ⟨rfl, hB5⟩
      have HB5 := hide_ (below_to HB4.out hB5)
      have HF5 := hide_ (HF4.out.later hB5)
      have HT5 := hide_ (HTb.out.later hB5)
      have z0 := HF5.out.cell 0; have z1 := HF5.out.cell 1
      have zf := fun i => HF5.out.frozen i
      simp at z0 z1
      clear hB5 HSl p0 p1 p2
      by_cases hsn : s = 1048576
      · have f1 : (s == 1048576) = true := by simpa using hsn
        have HX : Hid (∀ w', Below w.heap.size w w' → Blk w' g 126 (cellsG stc F.2) → VfTo w enc C E (.returned (.tuple #[.slice (some ⟨g, 0, none⟩) C.length C.length, .agg #[.int .i64 0, .int .i64 0]])) w') := hide_ (fun w' h1 h2 => by
          have h3 := HVf.out
          rw [if_neg (fun h => h hsn)] at h3
          refine ⟨h1, .inl ⟨by rw [h3], by rw [h3], HK.out, by rw [HSe.out]; exact HAl.out.1, by rw [HSe.out]; exact HAl.out.2, g, rfl, Hg.out, by rw [HSe.out]; exact h2⟩⟩)
        go_wp2_with fail
        refine retVS rfl rfl rfl (wr2f HF5.out _ _) ?_
        exact HX.out _ (below_set (below_set HB5.out _ _ _ hgf) _ _ _ hgf) ((HT5.out.other _ _ Hgf.out).other _ _ Hgf.out)
      · have f1 : (s == 1048576) = false := by simpa using hsn
        have HX : Hid (∀ w', Below w.heap.size w w' → VfTo w enc C E (.returned (.tuple #[.slice none 0 0, .agg #[.int .i64 150, .int .i64 s]])) w') := hide_ (fun w' h1 => by
          have h3 := HVf.out
          rw [if_pos hsn] at h3
          exact ⟨h1, .inr ⟨by rw [h3]; simp, by rw [h3]⟩⟩)
        go_wp2_with fail
        refine retVS rfl rfl rfl (wr2f HF5.out _ _) ?_
        exact HX.out _ (below_set (below_set HB5.out _ _ _ hgf) _ _ _ hgf)
    · have f1 : (F.1 == 1048576) = false := by simpa using hT1
      have HX : Hid (∀ w', Below w.heap.size w w' → VfTo w enc C E (.returned (.tuple #[.slice none 0 0, .agg #[.int .i64 150, .int .i64 F.1]])) w') := hide_ (fun w' h1 => by
        have h3 : vfP enc C E = (150, F.1) := by
          unfold vfP
          rw [HKk.out, HFe.out, if_neg (by simp [H0.out]), if_pos hT1]
        exact ⟨h1, .inr ⟨by rw [h3]; simp, by rw [h3]⟩⟩)
      clear hT1 hB4
      go_wp2_with fail
      refine retVS rfl rfl rfl (wr2f HF4.out _ _) ?_
      exact HX.out _ (below_set (below_set HB4.out _ _ _ hgf) _ _ _ hgf)
  · have f0 : (K.1 == 0) = false := by simpa using h0
    have HX : Hid (∀ w', Below w.heap.size w w' → VfTo w enc C E (.returned (.tuple #[.slice none 0 0, .agg #[.int .i64 K.1, .int .i64 K.2]])) w') := hide_ (fun w' h1 => by
      have h3 : vfP enc C E = K := by
        unfold vfP
        rw [HKk.out, if_pos h0]
      exact ⟨h1, .inr ⟨by rw [h3]; exact h0, by rw [h3]⟩⟩)
    have z0 := HF3.out.cell 0; have z1 := HF3.out.cell 1
    have zf := fun i => HF3.out.frozen i
    simp at z0 z1
    clear h0
    go_wp2_with fail
    try rw [hw3]
    clear hw3
    go_region
    go_wp2_with fail
    refine retVS rfl rfl rfl (wr2f HF3.out _ _).drew ?_
    exact HX.out _ (below_set (below_set HB3.out _ _ _ hgf) _ _ _ hgf).drew
end Go.Proofs.YtiojpohmgjdgfaaGreat

/- sound: Verify; the shapes of a state. -/
namespace Go.Proofs.YtiojpohmgjdgfaaGreat
open Go.RowKit
set_option linter.unusedVariables false
set_option linter.unusedSimpArgs false

set_option maxRecDepth 100000 in
set_option maxHeartbeats 16000000 in
theorem verify_any (enc : Bool) (ac ae : Option Addr) (cc ce : Nat) (C : List In) (E : List Int) (w : World) (hcc : C.length ≤ cc) (hcl : cc ≤ 9223372036854775807) (hCl : C.length ≤ 140737488355328) (hce : E.length ≤ ce) (hel : E.length ≤ 140737488355328) (hr : Hid (IRow w ac C)) (he : Hid (Row .i64 w ae E)) :
    Calls Tryz.prog 11 #[.agg #[.bool enc, .slice ac C.length cc, .slice ae E.length ce]] w fun e w' => e = .returned (.agg #[.int .i64 (vfP enc C E).1, .int .i64 (vfP enc C E).2]) ∧ Below w.heap.size w w' := by
  obtain ⟨w1, hw1⟩ : ∃ wx, (w.alloc (.cells #[.bool enc, .slice ac C.length cc, .slice ae E.length ce] 25)).alloc (.cells #[.int .i64 0, .int .i64 0] 31) = wx := ⟨_, rfl⟩
  have hB1 : Below w.heap.size w w1 := by rw [← hw1]; exact below2 _ _ _
  obtain ⟨kp, kf⟩ := blk2 w #[.bool enc, .slice ac C.length cc, .slice ae E.length ce] #[.int .i64 0, .int .i64 0] 25 31
  rw [hw1] at kp kf
  have hgf : w.heap.size ≤ w.heap.size + 1 := by omega
  have p0 := kp.cell 0; have p1 := kp.cell 1; have p2 := kp.cell 2
  simp at p0 p1 p2
  have HVf := hide_ (verified_any enc ac ae cc ce C E w1 hcc hcl hCl hce hel (hide_ (hr.out.later hB1)) (hide_ (he.out.later hB1)))
  obtain ⟨K, hK⟩ : ∃ K, vfP enc C E = K := ⟨_, rfl⟩
  have HV2 : Hid (Calls Tryz.prog 31 #[.agg #[.bool enc, .slice ac C.length cc, .slice ae E.length ce]] w1 fun e w' => ∃ v, e = .returned (.tuple #[v, .agg #[.int .i64 K.1, .int .i64 K.2]]) ∧ Hid (Below w1.heap.size w1 w')) := hide_ (by
    refine HVf.out.mono ?_
    rintro e w' ⟨h1, ⟨h2, h3, -, -, -, g, rfl, -, -⟩ | ⟨-, rfl⟩⟩
    · exact ⟨_, by rw [← hK, h2, h3], hide_ h1⟩
    · exact ⟨_, by rw [← hK], hide_ h1⟩)
  have KF := hide_ kf
  have HB1 := hide_ hB1
  rw [hK]
  clear kp kf hB1 hK HVf
  go_enter Tryz.func11, Tryz.ntmps11
  go_upto_region 1 with fail
  try rw [hw1]
  clear hw1
  go_wp2_with fail
  refine HV2.out.mono ?_
  rintro e w2 ⟨v2, rfl, HB2⟩
  obtain ⟨w3, hw3⟩ : ∃ wx, w2.alloc (.cells #[.int .i64 K.1, .int .i64 K.2] 31) = wx := ⟨_, rfl⟩
  have hB3 : Below w2.heap.size w2 w3 := by rw [← hw3]; exact below1 _ _
  have hK3 : Blk w3 w2.heap.size 31 [.int .i64 K.1, .int .i64 K.2] := by rw [← hw3]; exact Blk.newA _ _ _
  have HB3 := hide_ (below_to (below_to HB1.out HB2.out) hB3)
  have HF3 := hide_ ((KF.out.later HB2.out).later hB3)
  have q0 := hK3.cell 0; have q1 := hK3.cell 1
  have z0 := HF3.out.cell 0; have z1 := HF3.out.cell 1
  have zf := fun i => HF3.out.frozen i
  simp at q0 q1 z0 z1
  clear hB3 p0 p1 p2 hK3 KF HB1 HV2 HB2
  go_wp2_with fail
  try rw [hw3]
  clear hw3
  refine retFt rfl rfl (wr2f HF3.out _ _) ?_
  exact ⟨rfl, below_set (below_set HB3.out _ _ _ hgf) _ _ _ hgf⟩
/-- How many bits are set, as math/bits reckons it. -/
def oc1 (x : Int) : Int := IntKind.u64.wrap (bits .and .u64 (x / 2) 6148914691236517205 + bits .and .u64 x 6148914691236517205)
def oc2 (x : Int) : Int := IntKind.u64.wrap (bits .and .u64 (x / 4) 3689348814741910323 + bits .and .u64 x 3689348814741910323)
def oc3 (x : Int) : Int := bits .and .u64 (IntKind.u64.wrap (x / 16 + x)) 1085102592571150095
def oc4 (x : Int) : Int := IntKind.u64.wrap (x + x / 256)
def oc5 (x : Int) : Int := IntKind.u64.wrap (x + x / 65536)
def oc6 (x : Int) : Int := IntKind.u64.wrap (x + x / 4294967296)
def ocI (x : Int) : Int := bits .and .i64 (wrap64 (oc6 (oc5 (oc4 (oc3 (oc2 (oc1 x))))))) 127
theorem and127 (y : Int) : 0 ≤ bits .and .i64 y 127 ∧ bits .and .i64 y 127 ≤ 127 := by
  have h : (BitVec.ofInt 64 y &&& BitVec.ofInt 64 127).toNat ≤ 127 := by
    rw [BitVec.toNat_and]
    have : (BitVec.ofInt 64 127).toNat = 127 := by decide
    rw [this]
    exact Nat.and_le_right
  show 0 ≤ IntKind.i64.wrap ((BitVec.ofInt 64 y &&& BitVec.ofInt 64 127).toNat : Int) ∧ IntKind.i64.wrap ((BitVec.ofInt 64 y &&& BitVec.ofInt 64 127).toNat : Int) ≤ 127
  rw [i64w _ (by omega)]
  omega
theorem ocI_in (x : Int) : 0 ≤ ocI x ∧ ocI x ≤ 127 := and127 _
set_option maxRecDepth 100000 in
set_option maxHeartbeats 16000000 in
theorem ones_any (x : Int) (w : World) : Calls Tryz.prog 221 #[.int .u64 x] w fun e w' => e = .returned (.int .i64 (ocI x)) ∧ w = w' := by
  go_enter Tryz.func221, Tryz.ntmps221
  go_wp2
  go_ret
  exact ⟨rfl, rfl⟩
/-- A state as one number. -/
def eShp (s : St) : Int := if s.pl = 0 then -1 else if s.pl = 6 then 0 else if s.pl = 7 then 1 + s.le else 66
def dShp (s : St) : Int := if s.pl = 0 then -1 else if s.pl = 2 then 0 else if s.pl = 5 then 1 else 2 + ocI (s.ki : Int)
def mShp (enc : Bool) (s : St) : Int := if enc = true then eShp s else dShp s
def fSh (enc : Bool) : Nat := if enc then 206 else 215
theorem mtSh (enc : Bool) (k : Nat) (w : World) : (method (k + 1) (mTy enc) (.agg #[]) "mortise/sound.shape").run Tryz.prog w = .ok (fSh enc, .agg #[]) w := by cases enc; exact mAgD md2 fd2 k w; exact mAgE me2 fe2 k w
theorem enSh (enc : Bool) (args : Array Value) (w : World) : (callFunc (fSh enc) args).run Tryz.prog w = .ok (.enter (fSh enc) args) w := by cases enc <;> kernel_rfl
set_option maxRecDepth 100000 in
set_option maxHeartbeats 16000000 in
theorem eshape_any (s : St) (w : World) (hl : 0 ≤ s.le ∧ s.le ≤ 64) : Calls Tryz.prog 206 #[.agg #[], stv s] w fun e w' => e = .returned (.int .i64 (eShp s)) ∧ Below w.heap.size w w' := by
  obtain ⟨r, hr⟩ : ∃ r, eShp s = r := ⟨_, rfl⟩
  rw [hr]
  unfold eShp at hr
  obtain ⟨w1, hw1⟩ : ∃ wx, (w.alloc (.cells #[] 147)).alloc (.cells #[.int .i64 s.pl, .int .u64 (s.ki : Int), .int .i64 s.tb, .int .i64 s.pa, .int .i64 s.fr, .int .i64 s.le, .bool s.su] 126) = wx := ⟨_, rfl⟩
  have hB1 : Below w.heap.size w w1 := by rw [← hw1]; exact below2 _ _ _
  obtain ⟨-, kp⟩ := blk2 w #[] #[.int .i64 s.pl, .int .u64 (s.ki : Int), .int .i64 s.tb, .int .i64 s.pa, .int .i64 s.fr, .int .i64 s.le, .bool s.su] 147 126
  rw [hw1] at kp
  have p0 := kp.cell 0; have p5 := kp.cell 5
  simp at p0 p5
  have HB1 := hide_ hB1
  have HR := hide_ hr
  unfold stv
  clear kp hB1 hr
  by_cases h0 : s.pl = 0
  · have f0 : (s.pl == 0) = true := by simpa using h0
    have e1 : r = -1 := by have h1 := HR.out; rw [if_pos h0] at h1; exact h1.symm
    subst e1
    clear h0 HR
    go_enter Tryz.func206, Tryz.ntmps206
    go_upto_region 1 with fail
    try rw [hw1]
    clear hw1
    go_wp2_with fail
    go_ret
    exact ⟨rfl, HB1.out⟩
  have f0 : (s.pl == 0) = false := by simpa using h0
  by_cases h6 : s.pl = 6
  · have f6 : (s.pl == 6) = true := by simpa using h6
    have e1 : r = 0 := by have h1 := HR.out; rw [if_neg h0, if_pos h6] at h1; exact h1.symm
    subst e1
    clear h0 h6 HR
    go_enter Tryz.func206, Tryz.ntmps206
    go_upto_region 1 with fail
    try rw [hw1]
    clear hw1
    go_wp2_with fail
    go_ret
    exact ⟨rfl, HB1.out⟩
  have f6 : (s.pl == 6) = false := by simpa using h6
  by_cases h7 : s.pl = 7
  · have f7 : (s.pl == 7) = true := by simpa using h7
    have e1 : 1 + s.le = r := by have h1 := HR.out; rw [if_neg h0, if_neg h6, if_pos h7] at h1; exact h1
    have HE := hide_ e1
    clear h0 h6 h7 HR e1
    go_enter Tryz.func206, Tryz.ntmps206
    go_upto_region 1 with fail
    try rw [hw1]
    clear hw1
    go_wp2_with fail
    go_ret
    exact ⟨by rw [← HE.out]; go_num, HB1.out⟩
  have f7 : (s.pl == 7) = false := by simpa using h7
  have e1 : r = 66 := by have h1 := HR.out; rw [if_neg h0, if_neg h6, if_neg h7] at h1; exact h1.symm
  subst e1
  clear h0 h6 h7 HR
  go_enter Tryz.func206, Tryz.ntmps206
  go_upto_region 1 with fail
  try rw [hw1]
  clear hw1
  go_wp2_with fail
  go_ret
  exact ⟨rfl, HB1.out⟩
set_option maxRecDepth 100000 in
set_option maxHeartbeats 16000000 in
theorem dshape_any (s : St) (w : World) : Calls Tryz.prog 215 #[.agg #[], stv s] w fun e w' => e = .returned (.int .i64 (dShp s)) ∧ Below w.heap.size w w' := by
  obtain ⟨r, hr⟩ : ∃ r, dShp s = r := ⟨_, rfl⟩
  rw [hr]
  unfold dShp at hr
  obtain ⟨w1, hw1⟩ : ∃ wx, (w.alloc (.cells #[] 148)).alloc (.cells #[.int .i64 s.pl, .int .u64 (s.ki : Int), .int .i64 s.tb, .int .i64 s.pa, .int .i64 s.fr, .int .i64 s.le, .bool s.su] 126) = wx := ⟨_, rfl⟩
  have hB1 : Below w.heap.size w w1 := by rw [← hw1]; exact below2 _ _ _
  obtain ⟨-, kp⟩ := blk2 w #[] #[.int .i64 s.pl, .int .u64 (s.ki : Int), .int .i64 s.tb, .int .i64 s.pa, .int .i64 s.fr, .int .i64 s.le, .bool s.su] 148 126
  rw [hw1] at kp
  have p0 := kp.cell 0; have p1 := kp.cell 1
  simp at p0 p1
  have HB1 := hide_ hB1
  have HR := hide_ hr
  unfold stv
  clear kp hB1 hr
  by_cases h0 : s.pl = 0
  · have f0 : (s.pl == 0) = true := by simpa using h0
    have e1 : r = -1 := by have h1 := HR.out; rw [if_pos h0] at h1; exact h1.symm
    subst e1
    clear h0 HR
    go_enter Tryz.func215, Tryz.ntmps215
    go_upto_region 1 with fail
    try rw [hw1]
    clear hw1
    go_wp2_with fail
    go_ret
    exact ⟨rfl, HB1.out⟩
  have f0 : (s.pl == 0) = false := by simpa using h0
  by_cases h6 : s.pl = 2
  · have f6 : (s.pl == 2) = true := by simpa using h6
    have e1 : r = 0 := by have h1 := HR.out; rw [if_neg h0, if_pos h6] at h1; exact h1.symm
    subst e1
    clear h0 h6 HR
    go_enter Tryz.func215, Tryz.ntmps215
    go_upto_region 1 with fail
    try rw [hw1]
    clear hw1
    go_wp2_with fail
    go_ret
    exact ⟨rfl, HB1.out⟩
  have f6 : (s.pl == 2) = false := by simpa using h6
  by_cases h7 : s.pl = 5
  · have f7 : (s.pl == 5) = true := by simpa using h7
    have e1 : r = 1 := by have h1 := HR.out; rw [if_neg h0, if_neg h6, if_pos h7] at h1; exact h1.symm
    subst e1
    clear h0 h6 h7 HR
    go_enter Tryz.func215, Tryz.ntmps215
    go_upto_region 1 with fail
    try rw [hw1]
    clear hw1
    go_wp2_with fail
    go_ret
    exact ⟨rfl, HB1.out⟩
  have f7 : (s.pl == 5) = false := by simpa using h7
  have e1 : 2 + ocI (s.ki : Int) = r := by have h1 := HR.out; rw [if_neg h0, if_neg h6, if_neg h7] at h1; exact h1
  obtain ⟨o, ho⟩ : ∃ o, ocI (s.ki : Int) = o := ⟨_, rfl⟩
  have hoi := ocI_in (s.ki : Int)
  have HOn := hide_ (ones_any (s.ki : Int) w1)
  rw [ho] at e1 hoi HOn
  have HE := hide_ e1
  clear h0 h6 h7 HR e1 ho
  go_enter Tryz.func215, Tryz.ntmps215
  go_upto_region 1 with fail
  try rw [hw1]
  clear hw1
  go_wp2_with fail
  refine HOn.out.mono ?_
  rintro e w2 ⟨rfl, rfl⟩
  go_wp2_with fail
  go_ret
  exact ⟨by rw [← HE.out]; go_num, HB1.out⟩
theorem mshape_any (enc : Bool) (s : St) (w : World) (hs : SOk s) : Calls Tryz.prog (fSh enc) #[.agg #[], stv s] w fun e w' => e = .returned (.int .i64 (mShp enc s)) ∧ Below w.heap.size w w' := by
  have := hs.le
  cases enc
  · rw [show mShp false s = dShp s by unfold mShp; rw [if_neg (by decide)]]
    exact dshape_any s w
  · rw [show mShp true s = eShp s by unfold mShp; rw [if_pos rfl]]
    exact eshape_any s w (by omega)
end Go.Proofs.YtiojpohmgjdgfaaGreat
