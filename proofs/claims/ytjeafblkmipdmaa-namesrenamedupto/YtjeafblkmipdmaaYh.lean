/- usesOf: rows of rows of numbers; sets as rows of bools. -/
import Derived.Test.YtjeafblkmipdmaaYg
namespace Go.Proofs.Ytjeafblkmipdmaa
open Go.RowKit
set_option linter.unusedVariables false

def natI (l : List Nat) : List Int := l.map (fun n : Nat => (n : Int))
theorem natI_len (l : List Nat) : (natI l).length = l.length := by simp [natI]
theorem natI_at (l : List Nat) (i n : Nat) (h : l[i]? = some n) : (natI l).getD i 0 = (n : Int) := by simp [natI, List.getD, h]
/-- A row of rows of numbers lies here, the rows apart from one another. -/
def URow (w : World) (B g : Nat) (vs : List Value) (U : List (List Nat)) : Prop :=
  Blk w g 32 vs ∧ B ≤ g ∧ vs.length = U.length ∧ (∀ (i : Nat) (v : Value) (l : List Nat), vs[i]? = some v → U[i]? = some l → w.ownsRow B 3 1 v l.length (cellsL .i64 (natI l))) ∧
    (∀ (i j : Nat) (v u : Value) (k : Nat), vs[i]? = some v → vs[j]? = some u → v.ownBlock = some k → u.ownBlock = some k → i = j)
section
variable {w w' : World} {B g : Nat} {vs : List Value} {U : List (List Nat)}
theorem URow.row (h : URow w B g vs U) {i : Nat} {v : Value} (hv : vs[i]? = some v) : ∃ l, U[i]? = some l ∧ w.ownsRow B 3 1 v l.length (cellsL .i64 (natI l)) := by
  have hi := (List.getElem?_eq_some_iff.1 hv).1
  rw [h.2.2.1] at hi
  exact ⟨_, List.getElem?_eq_getElem hi, h.2.2.2.1 i v _ hv (List.getElem?_eq_getElem hi)⟩
theorem URow.upd {S : Nat → Prop} (h : URow w B g vs U) (hu : Upd S w w') (h1 : ¬ S g) (h2 : ∀ (i : Nat) (v : Value) (k : Nat), vs[i]? = some v → v.ownBlock = some k → ¬ S k) : URow w' B g vs U :=
  ⟨h.1.upd hu h1, h.2.1, h.2.2.1, fun i v l hv hl => ownS_upd (h.2.2.2.1 i v l hv hl) hu (fun k hk => h2 i v k hv hk), h.2.2.2.2⟩
theorem URow.later (h : URow w B g vs U) (hB : Below w.heap.size w w') : URow w' B g vs U := h.upd (Upd.of_below (S := fun _ => False) hB) (fun h => h) (fun _ _ _ _ _ h => h)
theorem URow.other {g' : Nat} {t : TypeId} {ys : List Value} (h : URow w B g vs U) (hu : Upd (fun k => k = g') w w') (hg : Blk w g' t ys) (h1 : t ≠ 32) (h2 : t ≠ 3) : URow w' B g vs U := by
  refine h.upd hu (fun e => ?_) (fun i v k hv hk e => ?_)
  · subst e; exact h1 (blk_type hg h.1)
  · subst e
    obtain ⟨l, _, ho⟩ := h.row hv
    obtain ⟨zs, hz⟩ := ownS_type ho hk
    exact h2 (blk_type hg hz)
/-- One number more in one row. -/
theorem URow.push (h : URow w B g vs U) {i : Nat} {v : Value} {l : List Nat} (hv : vs[i]? = some v) (hl : U[i]? = some l) (x : Nat) (hll : l.length ≤ 10000000000000) (hB : B ≤ w.heap.size) :
    ∃ gn cap wn, (Builtin.append_ #[32, 32] 32 #[v, .slice (some ⟨w.heap.size, 0, none⟩) 1 1]).run Try.prog (w.alloc (.cells #[.int .i64 (x : Int)] 3)) = .ok (.slice (some ⟨gn, 0, none⟩) (l.length + 1) cap) wn ∧
      Blk wn g 32 vs ∧ URow (wn.setCell ⟨g, i, none⟩ (.slice (some ⟨gn, 0, none⟩) (l.length + 1) cap)) B g (vs.set i (.slice (some ⟨gn, 0, none⟩) (l.length + 1) cap)) (U.set i (l ++ [x])) ∧
      (∀ k t xs, Blk w k t xs → t ≠ 3 → Blk wn k t xs) ∧ (∀ (b : Nat) (o : Obj), w.heap[b]? = some o → (∀ xs, o ≠ .cells xs 3 (0, 0)) → wn.heap[b]? = some o) ∧ Below B w wn := by
  have ho := h.2.2.2.1 i v l hv hl
  obtain ⟨gn, cap, wn, r1, o1, u1, c1⟩ := run_push EInt w 32 B v l.length (natI l) ho (x : Int) (by unfold maxLen; omega) (by omega) hB
  have hgne : v.ownBlock ≠ some g := fun e => by
    obtain ⟨zs, hz⟩ := ownS_type ho e
    exact absurd (blk_type hz h.1) (by decide)
  have e3 : natI l ++ [(x : Int)] = natI (l ++ [x]) := by simp [natI]
  rw [e3] at o1
  have hgn : g < w.heap.size := h.1.lt
  have hKn := h.1.upd u1 hgne
  have hvi : ∀ (j : Nat) (u : Value) (k : Nat), j ≠ i → vs[j]? = some u → u.ownBlock = some k → v.ownBlock ≠ some k := fun j u k hj hu hk e => hj (h.2.2.2.2 j i u v k hu hv hk e)
  have hus : Upd (fun k => k = g) wn (wn.setCell ⟨g, i, none⟩ (.slice (some ⟨gn, 0, none⟩) (l.length + 1) cap)) := (Upd.refl _ wn).set _ _ (.inl rfl)
  have hgng : gn ≠ g := by
    rcases c1 with c | c
    · rintro rfl; exact hgne c
    · omega
  have hBg : B ≤ gn := by
    rcases c1 with c | c
    · exact (ho.lt gn c).1
    · omega
  refine ⟨gn, cap, wn, r1, hKn, ⟨hKn.set _ _, h.2.1, by simp [h.2.2.1], fun j u m hu hm => ?_, fun j j' u u' k hu hu' hk hk' => ?_⟩, fun k t xs hb ht => hb.upd u1 (fun e => ?_), fun b o hb hne => ?_, u1.below B hB (fun k hk => (ho.lt k hk).1)⟩
  · by_cases hj : j = i
    · subst hj
      have hi := (List.getElem?_eq_some_iff.1 hv).1
      have hi2 := (List.getElem?_eq_some_iff.1 hl).1
      rw [List.getElem?_set_self hi] at hu
      rw [List.getElem?_set_self hi2] at hm
      simp only [Option.some.injEq] at hu hm
      subst hu hm
      rw [List.length_append, List.length_singleton]
      exact ownS_upd o1 hus (fun k hk e => by have := own_is hk; omega)
    · rw [List.getElem?_set_ne (fun e => hj e.symm)] at hu hm
      have ho2 := h.2.2.2.1 j u m hu hm
      refine ownS_upd (ownS_upd ho2 u1 (fun k hk e => hvi j u k hj hu hk e)) hus (fun k hk e => ?_)
      subst e
      obtain ⟨zs, hz⟩ := ownS_type ho2 hk
      exact absurd (blk_type hz h.1) (by decide)
  · have hi := (List.getElem?_eq_some_iff.1 hv).1
    have key : ∀ (j : Nat) (u : Value) (k : Nat), j ≠ i → vs[j]? = some u → u.ownBlock = some k → gn ≠ k := fun j u k hj hu hk e => by
      rcases c1 with c | c
      · exact hvi j u k hj hu hk (by rw [← e]; exact c)
      · obtain ⟨m, _, hm⟩ := h.row hu
        have := (hm.lt k hk).2
        omega
    by_cases hj : j = i
    · subst hj
      rw [List.getElem?_set_self hi] at hu
      simp only [Option.some.injEq] at hu
      subst hu
      by_cases hj' : j' = j
      · exact hj'.symm
      · rw [List.getElem?_set_ne (fun e => hj' e.symm)] at hu'
        exact absurd (own_is hk) (key j' u' k hj' hu' hk')
    · rw [List.getElem?_set_ne (fun e => hj e.symm)] at hu
      by_cases hj' : j' = i
      · subst hj'
        rw [List.getElem?_set_self hi] at hu'
        simp only [Option.some.injEq] at hu'
        subst hu'
        exact absurd (own_is hk') (key j u k hj hu hk)
      · rw [List.getElem?_set_ne (fun e => hj' e.symm)] at hu'
        exact h.2.2.2.2 j j' u u' k hu hu' hk hk'
  · obtain ⟨zs, hz⟩ := ownS_type ho e
    exact ht (blk_type hb hz)
  · rw [u1.block b (Array.getElem?_eq_some_iff.1 hb).1 (fun e => ?_)]
    · exact hb
    · obtain ⟨zs, hz⟩ := ownS_type ho e
      unfold Blk at hz
      rw [hb] at hz
      simp only [Option.some.injEq] at hz
      exact hne _ hz
end
/-- A set of numbers below n, as a row of bools. -/
def bits (n : Nat) (S : List Nat) : List Value := (List.range n).map fun k => .bool (decide (k ∈ S))
theorem bits_len (n : Nat) (S : List Nat) : (bits n S).length = n := by simp [bits]
theorem bits_at (n : Nat) (S : List Nat) (k : Nat) (h : k < n) : (bits n S)[k]? = some (.bool (decide (k ∈ S))) := by simp [bits, h]
theorem bits_nil (n : Nat) : bits n [] = List.replicate n (.bool false) := by
  apply List.ext_getElem?
  intro i
  by_cases h : i < n
  · rw [bits_at n [] i h, List.getElem?_replicate, if_pos h]; simp
  · rw [List.getElem?_eq_none (by rw [bits_len]; omega), List.getElem?_eq_none (by simp; omega)]
theorem bits_set (n : Nat) (S : List Nat) (k : Nat) (h : k < n) : (bits n S).set k (.bool true) = bits n (S ++ [k]) := by
  apply List.ext_getElem?
  intro i
  by_cases hi : i < n
  · rw [bits_at n _ i hi]
    by_cases e : k = i
    · subst e; rw [List.getElem?_set_self (by rw [bits_len]; exact h)]; simp
    · rw [List.getElem?_set_ne e, bits_at n S i hi]
      have : ¬ i = k := fun e' => e e'.symm
      simp [this]
  · rw [List.getElem?_eq_none (by rw [List.length_set, bits_len]; omega), List.getElem?_eq_none (by rw [bits_len]; omega)]
theorem us_fold_len (D : List Df) : ∀ (N : List Nd) (acc : List Nat), (N.foldl (usAdd D) acc).length ≤ acc.length + N.length
  | [], acc => by simp
  | x :: N, acc => by
    rw [List.foldl_cons]
    have h := us_fold_len D N (usAdd D acc x)
    have : (usAdd D acc x).length ≤ acc.length + 1 := by
      unfold usAdd
      split
      · split <;> simp
      · simp
    simp
    omega
theorem EmptyRow (w : World) (B : Nat) : w.ownsRow B 3 1 (.slice none 0 0) 0 (cellsL .i64 (natI [])) := World.ownsRow_nil _ _ _ _
theorem URow.new {w : World} {B g n : Nat} (h : Blk w g 32 (List.replicate n (.slice none 0 0))) (hB : B ≤ g) : URow w B g (List.replicate n (.slice none 0 0)) (List.replicate n []) := by
  refine ⟨h, hB, by simp, fun i v l hv hl => ?_, fun i j v u k hv _ hk _ => ?_⟩
  · rw [List.getElem?_replicate] at hv hl
    by_cases hi : i < n
    · rw [if_pos hi] at hv hl
      simp only [Option.some.injEq] at hv hl
      subst hv hl
      exact EmptyRow w B
    · rw [if_neg hi] at hv; cases hv
  · rw [List.getElem?_replicate] at hv
    by_cases hi : i < n
    · rw [if_pos hi] at hv
      simp only [Option.some.injEq] at hv
      subst hv
      simp [Value.ownBlock] at hk
    · rw [if_neg hi] at hv; cases hv
theorem MpS.keep {w w' : World} {b n : Nat} {f : ByteArray → Option Nat} (h : MpS w b n f) (hk : ∀ (b : Nat) (o : Obj), w.heap[b]? = some o → (∀ xs, o ≠ .cells xs 3 (0, 0)) → w'.heap[b]? = some o) : MpS w' b n f := by
  obtain ⟨D, ⟨es, cl, hb, r⟩, h2⟩ := h
  exact ⟨D, ⟨es, cl, hk b _ hb (fun xs => by intro e; cases e), r⟩, h2⟩
set_option maxRecDepth 100000 in
set_option maxHeartbeats 8000000 in
theorem uses_any (a : Option Addr) (c : Nat) (D : List Df) (bn : Nat) (w : World) (hD : D.length ≤ 256) (hok : Hid (∀ d ∈ D, DfOk1 d)) (r : Hid (DRow w a D)) (hM : Hid (MpS w bn 256 (numN D))) :
    Calls Try.prog 19 #[.agg #[.slice a D.length c], .map (some bn)] w fun e w' => ∃ g vs, e = .returned (.slice (some ⟨g, 0, none⟩) D.length D.length) ∧ w.heap.size ≤ g ∧ Hid (URow w' w.heap.size g vs (usD D)) ∧ Hid (Below w.heap.size w w') := by
  have HUl : Hid ((usD D).length = D.length) := hide_ (usD_len D)
  have hmk1 := run_make_row' (P := Try.prog) 61 32 (.slice none 0 0) 24 Try.underlying61 (by kernel_rfl) rfl .i64 .i64 D.length (by omega) (by omega)
  have hmk2 := run_make_row' (P := Try.prog) 70 4 (.bool false) 1 Try.underlying70 (by kernel_rfl) rfl .i64 .i64 D.length (by omega) (by omega)
  obtain ⟨w1, hw1⟩ : ∃ w1, w1 = w.alloc (.cells #[.slice a D.length c] 24) := ⟨_, rfl⟩
  have HB1 : Hid (Below w.heap.size w w1) := by rw [hw1]; exact (Below.refl _ _).alloc (Nat.le_refl _) _
  have k1 := Blk.newA w #[.slice a D.length c] 24
  rw [← hw1] at k1
  have hs1 : w.heap.size ≤ w1.heap.size := HB1.out.size
  obtain ⟨w2, hw2⟩ : ∃ w2, w2 = w1.alloc (.cells (madeCells #[.slice none 0 0] D.length) 32) := ⟨_, rfl⟩
  have HB2 : Hid (Below w.heap.size w w2) := by rw [hw2]; exact HB1.out.alloc hs1 _
  have HU2 : Hid (URow w2 w.heap.size w1.heap.size (List.replicate D.length (.slice none 0 0)) ((usD D).take 0 ++ List.replicate ((usD D).length - 0) [])) := by
    have h := Blk.newA w1 (madeCells #[.slice none 0 0] D.length) 32
    rw [toList_madeCells_one, ← hw2] at h
    rw [HUl.out, List.take_zero, List.nil_append, Nat.sub_zero]
    exact hide_ (URow.new h hs1)
  have HS2 : Hid (Blk w2 w.heap.size 24 [.slice a D.length c]) := by rw [hw2]; exact hide_ (k1.alloc _)
  have c0 := k1.cell 0
  have c2 := HS2.out.cell 0
  simp at c0 c2
  clear k1
  go_enter Try.func19, Try.ntmps19
  go_upto_region 1 with fail
  rw [← hw1]
  clear hw1
  go_upto_region 2 with fail
  rw [← hw2]
  clear hw2 hmk1 c0
  go_wp2_with fail
  clear c2
  go_loopw [19] (fun x19 wr => ∃ (i : Nat) (vs : List Value), i ≤ D.length ∧ x19 = .int .i64 (i : Int) ∧ Hid (URow wr w.heap.size w1.heap.size vs ((usD D).take i ++ List.replicate ((usD D).length - i) [])) ∧ Hid (Blk wr w.heap.size 24 [.slice a D.length c]) ∧ Hid (Below w.heap.size w wr)) (fun x19 _ => D.length - (intOf x19).toNat)
  case atStart => exact ⟨0, _, Nat.zero_le _, rfl, HU2, HS2, HB2⟩
  case round =>
    obtain ⟨i, vs, hi, rfl, HU, HS, HB⟩ := hrel
    generalize wr = wq at *
    clear HU2 HS2 HB2 HB1
    by_cases hlt : i < D.length
    · have hlt' : (i : Int) < D.length := by omega
      obtain ⟨b, o, ha, hb, hc⟩ := r.out.open (by omega)
      have hx : D[i]? = some (D[i]'hlt) := List.getElem?_eq_getElem hlt
      obtain ⟨va, vc, hcx0, hvc, -, hN⟩ := hc i _ hx
      have hcx := fun j (hj : j < 3) => (HB.out.cell (p := ⟨b, o + i * 3 + j, none⟩) hb).trans (hcx0 j hj)
      subst ha
      have hd1 := hok.out _ (List.getElem_mem hlt)
      have hN0 := hide_ hN
      have HUi : Hid ((usD D)[i]? = some (usT D (D[i]'hlt).ty)) := hide_ (by unfold usD; rw [List.getElem?_map, hx]; rfl)
      generalize D[i]'hlt = d at *
      have i0 := hcx 0 (by decide); have i1 := hcx 1 (by decide); have i2 := hcx 2 (by decide)
      simp [dfc] at i0 i1 i2
      clear hc hx hcx hcx0 hN
      have kx := Blk.newA wq #[.string d.name, .int .i64 d.a, .slice va d.ty.length vc] 41
      have hBx : Below wq.heap.size wq (wq.alloc (.cells #[.string d.name, .int .i64 d.a, .slice va d.ty.length vc] 41)) := (Below.refl _ _).alloc (Nat.le_refl _) _
      obtain ⟨wx, hwx⟩ : ∃ wx, wx = wq.alloc (.cells #[.string d.name, .int .i64 d.a, .slice va d.ty.length vc] 41) := ⟨_, rfl⟩
      rw [← hwx] at kx hBx
      have HUx := hide_ (HU.out.later hBx)
      have HSx := hide_ (HS.out.later hBx)
      have HBx := hide_ (below_to HB.out hBx)
      obtain ⟨wy, hwy⟩ : ∃ wy, wy = wx.alloc (.cells (madeCells #[.bool false] D.length) 4) := ⟨_, rfl⟩
      have hBy : Below wx.heap.size wx wy := by rw [hwy]; exact (Below.refl _ _).alloc (Nat.le_refl _) _
      have HUy := hide_ (HUx.out.later hBy)
      have HSy := hide_ (HSx.out.later hBy)
      have HBy := hide_ (below_to HBx.out hBy)
      have HTy : Hid (Blk wy wx.heap.size 4 (bits D.length [])) := by
        have h := Blk.newA wx (madeCells #[.bool false] D.length) 4
        rw [toList_madeCells_one, ← hwy] at h
        rw [bits_nil]
        exact hide_ h
      have hky := kx.later hBy
      have j2 := hky.cell 2
      have s0 := HSx.out.cell 0
      simp at j2 s0
      have hgw1 : w1.heap.size < wq.heap.size := HU.out.1.lt
      have hww : w.heap.size < wq.heap.size := HS.out.lt
      have hxs : wx.heap.size = wq.heap.size + 1 := by rw [hwx]; simp
      have HXS := hide_ hxs
      have HB0 := HB
      clear kx hBx HU HS hky hBy hxs
      go_upto_region 5 with fail
      rw [← hwx]
      clear hwx i0 i1 i2
      go_upto_region 6 with fail
      rw [← hwy]
      clear hwy s0
      go_wp2_with fail
      clear j2
      have HUz : Hid (URow wy w.heap.size w1.heap.size vs (((usD D).take i ++ List.replicate ((usD D).length - i) []).set i ((d.ty.take 0).foldl (usAdd D) []))) := hide_ (by
        have h := HUy.out
        have e : ((usD D).take i ++ List.replicate ((usD D).length - i) []).set i ((d.ty.take 0).foldl (usAdd D) []) = (usD D).take i ++ List.replicate ((usD D).length - i) [] := by
          have hl : ((usD D).take i).length = i := by rw [List.length_take, HUl.out]; omega
          rw [List.set_append_right _ _ (by omega), hl, Nat.sub_self, HUl.out, show D.length - i = (D.length - i - 1) + 1 by omega, List.replicate_succ]
          rfl
        rw [e]
        exact h)
      have HUE : Hid (((usD D).take i ++ List.replicate ((usD D).length - i) []).set i (usT D d.ty) = (usD D).take (i + 1) ++ List.replicate ((usD D).length - (i + 1)) []) := hide_ (fill_set _ _ _ _ HUi.out)
      have HUIl : Hid (i < ((usD D).take i ++ List.replicate ((usD D).length - i) []).length) := hide_ (by rw [List.length_append, List.length_take, List.length_replicate, HUl.out]; omega)
      obtain ⟨UI, hUI⟩ : ∃ UI, (usD D).take i ++ List.replicate ((usD D).length - i) [] = UI := ⟨_, rfl⟩
      rw [hUI] at HUz HUE HUIl
      clear hUI HUy HUx HUi
      have hlx : d.ty.length ≤ 1954687338267 := hd1.2.1
      go_loopw [31] (fun x31 wr => ∃ (j : Nat) (us : List Value) (acc : List Nat), j ≤ d.ty.length ∧ x31 = .int .i64 (j : Int) ∧ Hid (acc = (d.ty.take j).foldl (usAdd D) []) ∧ Hid (URow wr w.heap.size w1.heap.size us (UI.set i acc)) ∧ Hid (Blk wr wx.heap.size 4 (bits D.length acc)) ∧ Hid (Blk wr w.heap.size 24 [.slice (some ⟨b, o, none⟩) D.length c]) ∧ Hid (Below w.heap.size w wr)) (fun x31 _ => d.ty.length - (intOf x31).toNat)
      case atStart => exact ⟨0, vs, _, Nat.zero_le _, rfl, hide_ rfl, HUz, HTy, HSy, HBy⟩
      case round =>
        obtain ⟨j, us1, acc, hj, rfl, HA, HUj, HTj, HSj, HBj⟩ := hrel
        generalize wr = wp at *
        by_cases hjl : j < d.ty.length
        · have hjl' : (j : Int) < d.ty.length := by omega
          obtain ⟨b2, o2, rfl, hb2, hcl⟩ := ((hN0.out).later HBj.out).open (by omega)
          have hxj : d.ty[j]? = some (d.ty[j]'hjl) := List.getElem?_eq_getElem hjl
          have hcx := hcl j _ hxj
          have HT : Hid ((d.ty.take (j + 1)).foldl (usAdd D) [] = usAdd D acc (d.ty[j]'hjl)) := hide_ (by rw [List.take_succ_eq_append_getElem hjl, List.foldl_append, ← HA.out]; rfl)
          have hok1 := hd1.2.2.2.2 _ (List.getElem_mem hjl)
          have HAl : Hid (acc.length ≤ 10000000000000) := hide_ (by
            rw [HA.out]
            have h1 := us_fold_len D (d.ty.take j) []
            rw [List.length_take] at h1
            simp at h1
            omega)
          generalize d.ty[j]'hjl = x at *
          have m0 := hcx 0 (by decide); have m1 := hcx 1 (by decide); have m2 := hcx 2 (by decide); have m3 := hcx 3 (by decide); have m4 := hcx 4 (by decide); have m5 := hcx 5 (by decide); have m6 := hcx 6 (by decide)
          simp [ndc] at m0 m1 m2 m3 m4 m5 m6
          clear hcl hxj hcx
          have kz := Blk.newA wp #[.int .i64 x.k, .int .i64 x.n, .string x.name, .string x.label, .int .i64 x.tag, .int .i64 x.kids, .int .i64 x.a] 38
          have hBz : Below wp.heap.size wp (wp.alloc (.cells #[.int .i64 x.k, .int .i64 x.n, .string x.name, .string x.label, .int .i64 x.tag, .int .i64 x.kids, .int .i64 x.a] 38)) := (Below.refl _ _).alloc (Nat.le_refl _) _
          obtain ⟨wz, hwz⟩ : ∃ wz, wz = wp.alloc (.cells #[.int .i64 x.k, .int .i64 x.n, .string x.name, .string x.label, .int .i64 x.tag, .int .i64 x.kids, .int .i64 x.a] 38) := ⟨_, rfl⟩
          rw [← hwz] at kz hBz
          have HUz := hide_ (HUj.out.later hBz)
          have HTz := hide_ (HTj.out.later hBz)
          have HSz := hide_ (HSj.out.later hBz)
          have HBz := hide_ (below_to HBj.out hBz)
          have HMz := hide_ (hM.out.later HBz.out)
          have n0 := kz.cell 0; have n2 := kz.cell 2
          simp at n0 n2
          clear kz hBz HUj HTj HSj HBj
          go_upto_region 9 with fail
          rw [← hwz]
          clear hwz m0 m1 m2 m3 m4 m5 m6
          by_cases h9 : x.k = 9
          · have hne : (x.k != 9) = false := by simp [h9]
            have hlk := HMz.out.look x.name (by have := hok1.2.1; unfold maxLen; exact Nat.le_trans this (by decide))
            have hnz : numZ D x.name < D.length := numZ_lt _ (by omega)
            have hnd : ((numN D x.name).getD 0 : Nat) = numZ D x.name := rfl
            rw [hnd] at hlk
            clear hnd
            have HT2 : Hid (usAdd D acc x = if numZ D x.name ∈ acc then acc else acc ++ [numZ D x.name]) := hide_ (by unfold usAdd; rw [if_pos h9])
            generalize numZ D x.name = n at *
            have hn' : (n : Int) < D.length := by omega
            have t0 := (HTz.out.cell n).trans (bits_at _ _ n hnz)
            cases hm : decide (n ∈ acc) with
            | true =>
              rw [hm] at t0
              have HA2 : Hid (acc = (d.ty.take (j + 1)).foldl (usAdd D) []) := hide_ (by rw [HT.out, HT2.out, if_pos (of_decide_eq_true hm)])
              clear hm HT HT2
              go_wp2_with fail
              go_roundw
              case rel => exact ⟨j + 1, us1, acc, by omega, by go_num, HA2, HUz, HTz, HSz, HBz⟩
              case measure => simp [intOf]; omega
            | false =>
              rw [hm] at t0
              have HA2 : Hid (acc ++ [n] = (d.ty.take (j + 1)).foldl (usAdd D) []) := hide_ (by rw [HT.out, HT2.out, if_neg (of_decide_eq_false hm)])
              clear hm HT HT2
              have t1 := HTz.out.frozen n
              have uv : Upd (fun k => k = wx.heap.size) wz (wz.setCell ⟨wx.heap.size, n, none⟩ (.bool true)) := (Upd.refl _ _).set _ _ (.inl rfl)
              have HTv : Hid (Blk (wz.setCell ⟨wx.heap.size, n, none⟩ (.bool true)) wx.heap.size 4 (bits D.length (acc ++ [n]))) := hide_ (by rw [← bits_set _ _ _ hnz]; exact HTz.out.set n _)
              have HUv := hide_ (HUz.out.other uv HTz.out (by decide) (by decide))
              have HSv := hide_ (HSz.out.upd uv (by have := HXS.out; omega))
              have HBv := hide_ (HBz.out.trans (uv.below w.heap.size HBz.out.size (fun k hk => by have := HXS.out; omega)))
              obtain ⟨wv, hwv⟩ : ∃ wv, wv = wz.setCell ⟨wx.heap.size, n, none⟩ (.bool true) := ⟨_, rfl⟩
              rw [← hwv] at HTv HUv HSv HBv
              have hgi : i < us1.length := by rw [HUv.out.2.2.1, List.length_set]; exact HUIl.out
              have hvi : us1[i]? = some (us1[i]'hgi) := List.getElem?_eq_getElem hgi
              have hli : (UI.set i acc)[i]? = some acc := List.getElem?_set_self HUIl.out
              obtain ⟨av, cv, hav, -⟩ := own_open (HUv.out.2.2.2.1 i _ _ hvi hli) (natI_len acc)
              rw [hav] at hvi
              obtain ⟨gn, cap, wn, r1, k1, u1, t2, t3, b1⟩ := HUv.out.push hvi hli n HAl.out HBv.out.size
              rw [List.set_set] at u1
              have uq : Upd (fun k => k = w1.heap.size) wn (wn.setCell ⟨w1.heap.size, i, none⟩ (.slice (some ⟨gn, 0, none⟩) (acc.length + 1) cap)) := (Upd.refl _ _).set _ _ (.inl rfl)
              have HTq := hide_ ((t2 _ _ _ HTv.out (by decide)).upd uq (fun e => absurd (blk_type (t2 _ _ _ HTv.out (by decide)) (e ▸ k1)) (by decide)))
              have HSq := hide_ ((t2 _ _ _ HSv.out (by decide)).upd uq (fun e => absurd (blk_type (t2 _ _ _ HSv.out (by decide)) (e ▸ k1)) (by decide)))
              have HBq := hide_ ((HBv.out.trans b1).trans (uq.below w.heap.size (HBv.out.trans b1).size (fun k hk => by omega)))
              have HUq := hide_ u1
              have HR1 := hide_ r1
              have g0 := HUv.out.1.cell i
              rw [hvi] at g0
              have g1 := (k1.cell i).trans hvi
              have g2 := k1.frozen i
              have hil : (i : Int) < D.length := hlt'
              clear hav hvi hli r1 k1 u1 t2 t3 b1 uq uv HUz HTz HSz
              go_upto_region 13 with fail
              rw [← hwv]
              clear hwv t0 t1
              go_wp2_with (first
                | (at_builtin; refine wpList_append_run rfl (.tmp 55) (.tmp 57) 32 32 rfl rfl rfl HR1.out ?_; clear HR1))
              go_roundw
              case rel => exact ⟨j + 1, _, acc ++ [n], by omega, by go_num, HA2, HUq, HTq, HSq, HBq⟩
              case measure => simp [intOf]; omega
          · have hne : (x.k != 9) = true := by simpa using h9
            have HA2 : Hid (acc = (d.ty.take (j + 1)).foldl (usAdd D) []) := hide_ (by rw [HT.out]; unfold usAdd; rw [if_neg h9])
            clear HT
            go_wp2_with fail
            go_roundw
            case rel => exact ⟨j + 1, us1, acc, by omega, by go_num, HA2, HUz, HTz, HSz, HBz⟩
            case measure => simp [intOf]; omega
        · obtain rfl : j = d.ty.length := by omega
          go_wp2_with fail
          go_roundw
          case rel => exact ⟨i + 1, us1, by omega, by go_num, hide_ (by have h := HUj.out; rw [HA.out, List.take_length] at h; rw [← HUE.out]; exact h), HSj, HBj⟩
          case measure => simp [intOf]; omega
    · obtain rfl : i = D.length := by omega
      go_wp2
      go_ret
      refine ⟨w1.heap.size, vs, rfl, hs1, hide_ ?_, HB⟩
      have h := HU.out
      rw [List.take_of_length_le (by rw [HUl.out]; exact Nat.le_refl _), HUl.out, Nat.sub_self] at h
      simpa using h
end Go.Proofs.Ytjeafblkmipdmaa
