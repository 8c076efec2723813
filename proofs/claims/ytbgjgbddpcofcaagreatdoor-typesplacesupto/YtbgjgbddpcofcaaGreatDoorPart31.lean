import Derived.Test.YtbgjgbddpcofcaaGreatDoorPart29
import Derived.Laws.EntriesVeiled

/- firstInRing. -/
namespace Go.Proofs.YtbgjgbddpcofcaaGreatDoor
open Go.RowKit
set_option linter.unusedVariables false

theorem us_at {U : List (List Nat)} {i : Nat} (h : i < U.length) : U[i]? = some (us U i) := by
  unfold us
  rw [List.getD_eq_getElem?_getD, List.getElem?_eq_getElem h]
  rfl
section
variable {w w' : World} {B g : Nat} {vs : List Value} {U : List (List Nat)}
theorem URow.at (h : URow w B g vs U) {i : Nat} (hi : i < U.length) : ∃ av cv, vs[i]? = some (.slice av (us U i).length cv) := by
  have hv : vs[i]? = some (vs[i]'(by rw [h.2.2.1]; exact hi)) := List.getElem?_eq_getElem _
  obtain ⟨av, cv, e, _⟩ := own_open (h.2.2.2.1 i _ _ hv (us_at hi)) (natI_len _)
  rw [e] at hv
  exact ⟨av, cv, hv⟩
theorem URow.rowAt (h : URow w B g vs U) {i : Nat} (hi : i < U.length) {av : Option Addr} {m cv : Nat} (hv : vs[i]? = some (.slice av m cv)) : m = (us U i).length ∧ Row .i64 w av (natI (us U i)) := by
  obtain ⟨a2, c2, e, r, _⟩ := own_open (h.2.2.2.1 i _ _ hv (us_at hi)) (natI_len _)
  injection e with e1 e2 e3
  subst e1 e2 e3
  exact ⟨rfl, r⟩
end
/-- What leadsBack answers of a, S being met; S': what is met behind it. -/
def LdR (U : List (List Nat)) (f a : Nat) (S : List Nat) (r : Bool) (S' : List Nat) : Prop :=
  (∀ u ∈ S, u ∈ S') ∧ S.length ≤ S'.length ∧ S'.Nodup ∧ (∀ u ∈ S', u < U.length) ∧ (r = true → Lead U a f) ∧
    (r = false → (∀ u ∈ us U a, u ≠ f ∧ u ∈ S') ∧ ∀ k ∈ S', k ∉ S → ∀ u ∈ us U k, u ≠ f ∧ u ∈ S')
/-- In the midst of a's uses. -/
def LdM (U : List (List Nat)) (f a : Nat) (S : List Nat) (j : Nat) (S' : List Nat) : Prop :=
  (∀ u ∈ S, u ∈ S') ∧ S.length ≤ S'.length ∧ S'.Nodup ∧ (∀ u ∈ S', u < U.length) ∧
    (∀ u ∈ (us U a).take j, u ≠ f ∧ u ∈ S') ∧ ∀ k ∈ S', k ∉ S → ∀ u ∈ us U k, u ≠ f ∧ u ∈ S'
theorem take_mem {α : Type} {l : List α} {j : Nat} {x u : α} (h : l[j]? = some x) (hu : u ∈ l.take (j + 1)) : u ∈ l.take j ∨ u = x := by
  obtain ⟨hj, e⟩ := List.getElem?_eq_some_iff.1 h
  rw [List.take_succ_eq_append_getElem hj, e] at hu
  rcases List.mem_append.1 hu with h | h
  · exact .inl h
  · exact .inr (by simpa using h)
theorem LdM.skip {U : List (List Nat)} {f a : Nat} {S S' : List Nat} {j x : Nat} (h : LdM U f a S j S') (hx : (us U a)[j]? = some x) (hf : x ≠ f) (hm : x ∈ S') : LdM U f a S (j + 1) S' := by
  obtain ⟨h1, h2, h3, h4, h5, h6⟩ := h
  refine ⟨h1, h2, h3, h4, fun u hu => ?_, h6⟩
  rcases take_mem hx hu with h | rfl
  · exact h5 u h
  · exact ⟨hf, hm⟩
theorem LdM.rec {U : List (List Nat)} {f a : Nat} {S S1 S2 : List Nat} {j x : Nat} (h : LdM U f a S j S1) (hx : (us U a)[j]? = some x) (hf : x ≠ f) (k : LdR U f x (S1 ++ [x]) false S2) : LdM U f a S (j + 1) S2 := by
  obtain ⟨h1, h2, h3, h4, h5, h6⟩ := h
  obtain ⟨k1, k2, k3, k4, _, k6⟩ := k
  obtain ⟨k7, k8⟩ := k6 rfl
  have hs : ∀ u ∈ S1, u ∈ S2 := fun u hu => k1 u (List.mem_append.2 (.inl hu))
  have hxs : x ∈ S2 := k1 x (by simp)
  refine ⟨fun u hu => hs u (h1 u hu), by simp at k2; omega, k3, k4, fun u hu => ?_, fun m hm hmS u hu => ?_⟩
  · rcases take_mem hx hu with h | rfl
    · exact ⟨(h5 u h).1, hs u (h5 u h).2⟩
    · exact ⟨hf, hxs⟩
  · classical
    by_cases hm1 : m ∈ S1
    · exact ⟨(h6 m hm1 hmS u hu).1, hs u (h6 m hm1 hmS u hu).2⟩
    · by_cases e : m = x
      · subst e; exact k7 u hu
      · exact k8 m hm (by simp [hm1, e]) u hu
theorem LdM.fin {U : List (List Nat)} {f a : Nat} {S S' : List Nat} (h : LdM U f a S (us U a).length S') : LdR U f a S false S' := by
  obtain ⟨h1, h2, h3, h4, h5, h6⟩ := h
  rw [List.take_length] at h5
  exact ⟨h1, h2, h3, h4, fun h => (by cases h), fun _ => ⟨h5, h6⟩⟩
theorem LdM.hit {U : List (List Nat)} {f a : Nat} {S S' : List Nat} {j : Nat} (h : LdM U f a S j S') (hl : Lead U a f) : LdR U f a S true S' :=
  ⟨h.1, h.2.1, h.2.2.1, h.2.2.2.1, fun _ => hl, fun h => by cases h⟩
theorem LdM.hit2 {U : List (List Nat)} {f a x : Nat} {S S1 S2 : List Nat} {j : Nat} (h : LdM U f a S j S1) (hx : x ∈ us U a) (k : LdR U f x (S1 ++ [x]) true S2) : LdR U f a S true S2 :=
  ⟨fun u hu => k.1 u (List.mem_append.2 (.inl (h.1 u hu))), by have := k.2.1; have := h.2.1; simp at *; omega, k.2.2.1, k.2.2.2.1, fun _ => (k.2.2.2.2.1 rfl).step hx, fun h => by cases h⟩
/-- What leadsBack has caught. -/
def RB (w : World) (B bu bf bm bl gU gm : Nat) (vs : List Value) (U : List (List Nat)) (f : Nat) : Prop :=
  Blk w bu 113 [.slice (some ⟨gU, 0, none⟩) U.length U.length] ∧ Blk w bf 3 [.int .i64 (f : Int)] ∧ Blk w bm 131 [.slice (some ⟨gm, 0, none⟩) U.length U.length] ∧
    Blk w bl 87 [.func (.func 74) #[] #[.pointer (some ⟨bu, 0, none⟩), .pointer (some ⟨bf, 0, none⟩), .pointer (some ⟨bm, 0, none⟩), .pointer (some ⟨bl, 0, none⟩)]] ∧ URow w B gU vs U
theorem RB.upd {w w' : World} {B bu bf bm bl gU gm : Nat} {vs : List Value} {U : List (List Nat)} {f : Nat} {ys : List Value} (h : RB w B bu bf bm bl gU gm vs U f) (hu : Upd (fun k => k = gm) w w') (hg : Blk w gm 4 ys) : RB w' B bu bf bm bl gU gm vs U f := by
  obtain ⟨h1, h2, h3, h4, h5⟩ := h
  have key : ∀ {b : Nat} {t : TypeId} {xs : List Value}, Blk w b t xs → t ≠ 4 → Blk w' b t xs := fun hb ht => hb.upd hu (fun e => ht (by subst e; exact blk_type hb hg))
  exact ⟨key h1 (by decide), key h2 (by decide), key h3 (by decide), key h4 (by decide), h5.other hu hg (by decide) (by decide)⟩
set_option maxRecDepth 100000 in
set_option maxHeartbeats 8000000 in
theorem leads_any (B bu bf bm bl gU gm : Nat) (vs : List Value) (U : List (List Nat)) (f : Nat) (hU : U.length ≤ 256) (hR : Hid (Rng U)) (hsm : Hid (∀ a, (us U a).length ≤ 10000000000000)) : ∀ (k a : Nat) (S : List Nat) (w : World), a < U.length → U.length - S.length ≤ k → Hid (S.Nodup ∧ ∀ u ∈ S, u < U.length) → Hid (RB w B bu bf bm bl gU gm vs U f) → Hid (Blk w gm 4 (bits U.length S)) →
    Calls Tryz.prog 74 #[.int .i64 (a : Int), .pointer (some ⟨bu, 0, none⟩), .pointer (some ⟨bf, 0, none⟩), .pointer (some ⟨bm, 0, none⟩), .pointer (some ⟨bl, 0, none⟩)] w fun e w' => ∃ (r : Bool) (S' : List Nat), e = .returned (.bool r) ∧ Hid (LdR U f a S r S') ∧ Hid (Blk w' gm 4 (bits U.length S')) ∧ Hid (Upd (fun k => k = gm) w w') := by
  intro k
  induction k using Nat.strongRecOn with
  | ind k ih =>
    intro a S w ha hk hS HB HG
    have IH := hide_ ih
    clear ih
    have ha' : (a : Int) < U.length := by omega
    obtain ⟨av, cv, hva⟩ := HB.out.2.2.2.2.at ha
    have b0 := HB.out.1.cell 0
    have b1 := HB.out.2.2.2.2.1.cell a
    rw [hva] at b1
    simp at b0
    have HV := hide_ hva
    have hlen := hsm.out a
    clear hva
    go_enter Tryz.func74, Tryz.ntmps74
    go_wp2_with fail
    clear b0 b1
    go_loopw [14] (fun x14 wr => ∃ (j : Nat) (T : List Nat), j ≤ (us U a).length ∧ x14 = .int .i64 (j : Int) ∧ Hid (LdM U f a S j T) ∧ Hid (Blk wr gm 4 (bits U.length T)) ∧ Hid (Upd (fun k => k = gm) w wr)) (fun x14 _ => (us U a).length - (intOf x14).toNat)
    case atStart => exact ⟨0, S, Nat.zero_le _, rfl, hide_ ⟨fun u h => h, Nat.le_refl _, hS.out.1, hS.out.2, fun u h => by simp at h, fun k h1 h2 => absurd h1 h2⟩, HG, hide_ (Upd.refl _ _)⟩
    case round =>
      obtain ⟨j, T, hj, rfl, HM, HT, HU⟩ := hrel
      generalize wr = wq at *
      have HBq := hide_ (HB.out.upd HU.out HG.out)
      by_cases hlt : j < (us U a).length
      · have hlt' : (j : Int) < (us U a).length := by omega
        obtain ⟨-, hrow⟩ := HBq.out.2.2.2.2.rowAt ha HV.out
        obtain ⟨br, off, rfl, hbr, hcr⟩ := hrow.open (by rw [natI_len]; omega)
        have hxj : (us U a)[j]? = some ((us U a)[j]'hlt) := List.getElem?_eq_getElem hlt
        have c1 := hcr j (by rw [natI_len]; exact hlt)
        rw [natI_at _ _ _ hxj] at c1
        have hxu : (us U a)[j]'hlt ∈ us U a := List.getElem_mem hlt
        have hxl := hR.out a _ hxu
        have HXJ := hide_ hxj
        have HXU := hide_ hxu
        clear hcr hrow hxj hxu
        generalize (us U a)[j]'hlt = x at *
        have hxl' : (x : Int) < U.length := by omega
        have d1 := HBq.out.2.1.cell 0
        have d2 := HBq.out.2.2.1.cell 0
        have d3 := HBq.out.2.2.2.1.cell 0
        have d4 := (HT.out.cell x).trans (bits_at _ _ x hxl)
        have d5 := HT.out.frozen x
        simp at d1 d2 d3
        by_cases hf : x = f
        · subst hf
          have he : ((x : Int) == (x : Int)) = true := by simp
          go_wp2
          go_ret
          exact ⟨true, T, rfl, hide_ (HM.out.hit (Lead.one HXU.out)), HT, HU⟩
        · have he : ((x : Int) == (f : Int)) = false := by simp; omega
          cases hm : decide (x ∈ T) with
          | true =>
            rw [hm] at d4
            have HM1 := hide_ (HM.out.skip HXJ.out hf (of_decide_eq_true hm))
            clear hm
            go_wp2_with fail
            go_roundw
            case rel => exact ⟨j + 1, T, by omega, by go_num, HM1, HT, HU⟩
            case measure => simp [intOf]; omega
          | false =>
            rw [hm] at d4
            have hxT : x ∉ T := of_decide_eq_false hm
            have HT1 : Hid (Blk (wq.setCell ⟨gm, x, none⟩ (.bool true)) gm 4 (bits U.length (T ++ [x]))) := hide_ (by rw [← bits_set _ _ _ hxl]; exact HT.out.set x _)
            have u1 : Upd (fun k => k = gm) wq (wq.setCell ⟨gm, x, none⟩ (.bool true)) := (Upd.refl _ _).set _ _ (.inl rfl)
            have HB1 := hide_ (HBq.out.upd u1 HT.out)
            have HU1 := hide_ (HU.out.to u1)
            have hN1 : (T ++ [x]).Nodup := by
              rw [List.nodup_append]
              exact ⟨HM.out.2.2.1, by simp, fun u hu v hv e => by simp at hv; subst hv; subst e; exact hxT hu⟩
            have hL1 : ∀ u ∈ T ++ [x], u < U.length := fun u hu => by
              rcases List.mem_append.1 hu with h | h
              · exact HM.out.2.2.2.1 u h
              · simp at h; subst h; exact hxl
            have hcnt := nodup_len U.length (T ++ [x]) hN1 hL1
            have hST := HM.out.2.1
            obtain ⟨wy, hwy⟩ : ∃ wy, wy = wq.setCell ⟨gm, x, none⟩ (.bool true) := ⟨_, rfl⟩
            rw [← hwy] at HT1 HB1 HU1
            have e2 := HB1.out.2.2.2.1.cell 0
            simp at e2
            have hlT : (T ++ [x]).length = T.length + 1 := by simp
            have HCon := hide_ (IH.out (U.length - (T ++ [x]).length) (by omega) x (T ++ [x]) wy hxl (Nat.le_refl _) (hide_ ⟨hN1, hL1⟩) HB1 HT1)
            clear u1 hm hN1 hL1 hcnt hST hlT hxT
            go_upto_region 8 with fail
            rw [← hwy]
            clear hwy d1 d2 d3 d4 d5 c1
            go_wp2_with (go_at_call 74; refine HCon.out.mono ?_; rintro e w5 ⟨rr, S5, rfl, HL5, HT5, HU5⟩; cases rr)
            · go_roundw
              case rel => exact ⟨j + 1, S5, by omega, by go_num, hide_ (HM.out.rec HXJ.out hf HL5.out), HT5, hide_ (HU1.out.to HU5.out)⟩
              case measure => simp [intOf]; omega
            · go_ret
              exact ⟨true, S5, rfl, hide_ (HM.out.hit2 HXU.out HL5.out), HT5, hide_ (HU1.out.to HU5.out)⟩
      · obtain rfl : j = (us U a).length := by omega
        go_wp2
        go_ret
        exact ⟨false, T, rfl, hide_ HM.out.fin, HT, HU⟩
/-- What firstInRing answers. -/
def RingR (U : List (List Nat)) (r : Int) : Prop := (r = -1 ∧ ∀ i, i < U.length → ¬ Lead U i i) ∨ ∃ i : Nat, r = (i : Int) ∧ i < U.length ∧ Lead U i i ∧ ∀ j, j < i → ¬ Lead U j j
theorem LdR.no {U : List (List Nat)} {f : Nat} {S' : List Nat} (h : LdR U f f [] false S') : ¬ Lead U f f := by
  obtain ⟨_, _, _, _, _, h6⟩ := h
  obtain ⟨h7, h8⟩ := h6 rfl
  refine no_lead (fun k => k = f ∨ k ∈ S') (fun k hk u hu => ?_) f (.inl rfl)
  rcases hk with rfl | hk
  · exact ⟨(h7 u hu).1, .inr (h7 u hu).2⟩
  · exact ⟨(h8 k hk (by simp) u hu).1, .inr (h8 k hk (by simp) u hu).2⟩
set_option maxRecDepth 100000 in
set_option maxHeartbeats 8000000 in
theorem ring_any (gU B : Nat) (vs : List Value) (U : List (List Nat)) (w : World) (hU : U.length ≤ 256) (hR : Hid (Rng U)) (hsm : Hid (∀ a, (us U a).length ≤ 10000000000000)) (hr : Hid (URow w B gU vs U)) :
    Calls Tryz.prog 52 #[.slice (some ⟨gU, 0, none⟩) U.length U.length] w fun e w' => ∃ r : Int, e = .returned (.int .i64 r) ∧ Hid (RingR U r) ∧ Hid (Below w.heap.size w w') := by
  have hmf : ∀ (fn : Fn) (first cap : Array Value) (w : World), (Instr.makeFunc fn first cap).run Tryz.prog w = .ok (.func fn first cap) w := fun _ _ _ _ => rfl
  have hmk2 := run_make_row' (P := Tryz.prog) 131 4 (.bool false) 1 Tryz.underlying131 (by kernel_rfl) rfl .i64 .i64 U.length (by omega) (by omega)
  obtain ⟨w1, hw1⟩ : ∃ w1, w1 = w.alloc (.cells #[.slice (some ⟨gU, 0, none⟩) U.length U.length] 113) := ⟨_, rfl⟩
  have HB1 : Hid (Below w.heap.size w w1) := by rw [hw1]; exact (Below.refl _ _).alloc (Nat.le_refl _) _
  have HK1 : Hid (Blk w1 w.heap.size 113 [.slice (some ⟨gU, 0, none⟩) U.length U.length]) := by rw [hw1]; exact Blk.newA w #[.slice (some ⟨gU, 0, none⟩) U.length U.length] 113
  have c0 := HK1.out.cell 0
  simp at c0
  go_enter Tryz.func52, Tryz.ntmps52
  go_upto_region 1 with fail
  rw [← hw1]
  clear hw1
  go_wp2_with fail
  clear c0
  go_loopw [8] (fun x8 wr => ∃ i : Nat, i ≤ U.length ∧ x8 = .int .i64 (i : Int) ∧ Hid (∀ j, j < i → ¬ Lead U j j) ∧ Hid (Blk wr w.heap.size 113 [.slice (some ⟨gU, 0, none⟩) U.length U.length]) ∧ Hid (Below w.heap.size w wr)) (fun x8 _ => U.length - (intOf x8).toNat)
  case atStart => exact ⟨0, Nat.zero_le _, rfl, hide_ (fun j h => by omega), HK1, HB1⟩
  case round =>
    obtain ⟨i, hi, rfl, HN, HK, HB⟩ := hrel
    generalize wr = wq at *
    clear HK1 HB1
    by_cases hlt : i < U.length
    · have hlt' : (i : Int) < U.length := by omega
      have c0 := HK.out.cell 0
      simp at c0
      have hwq : w.heap.size < wq.heap.size := HK.out.lt
      go_upto_region 6 with fail
      obtain ⟨wb, hwb⟩ : ∃ wb, wb = ((((wq.alloc (.cells #[.int .i64 (i : Int)] 3)).alloc (.cells (madeCells #[.bool false] U.length) 4)).alloc (.cells #[.slice (some ⟨wq.heap.size + 1, 0, none⟩) U.length U.length] 131)).alloc (.cells #[.nilFunc] 87)) := ⟨_, rfl⟩
      rw [← hwb]
      have hBb : Below wq.heap.size wq wb := by rw [hwb]; exact ((((Below.refl _ _).alloc (Nat.le_refl _) _).alloc (by simp) _).alloc (by simp; omega) _).alloc (by simp; omega) _
      have k3 : Blk wb wq.heap.size 3 [.int .i64 (i : Int)] := by rw [hwb]; exact (((Blk.newA wq #[.int .i64 (i : Int)] 3).alloc _).alloc _).alloc _
      have k4 : Blk wb (wq.heap.size + 1) 4 (bits U.length []) := by
        have h := ((Blk.newA (wq.alloc (.cells #[.int .i64 (i : Int)] 3)) (madeCells #[.bool false] U.length) 4).alloc (.cells #[.slice (some ⟨wq.heap.size + 1, 0, none⟩) U.length U.length] 131)).alloc (.cells #[.nilFunc] 87)
        rw [toList_madeCells_one, ← hwb, World.size_alloc] at h
        rw [bits_nil]
        exact h
      have k5 : Blk wb (wq.heap.size + 1 + 1) 131 [.slice (some ⟨wq.heap.size + 1, 0, none⟩) U.length U.length] := by
        have h := (Blk.newA ((wq.alloc (.cells #[.int .i64 (i : Int)] 3)).alloc (.cells (madeCells #[.bool false] U.length) 4)) #[.slice (some ⟨wq.heap.size + 1, 0, none⟩) U.length U.length] 131).alloc (.cells #[.nilFunc] 87)
        rw [← hwb, World.size_alloc, World.size_alloc] at h
        exact h
      have k6 : Blk wb (wq.heap.size + 1 + 1 + 1) 87 [.nilFunc] := by
        have h := Blk.newA (((wq.alloc (.cells #[.int .i64 (i : Int)] 3)).alloc (.cells (madeCells #[.bool false] U.length) 4)).alloc (.cells #[.slice (some ⟨wq.heap.size + 1, 0, none⟩) U.length U.length] 131)) #[.nilFunc] 87
        rw [← hwb, World.size_alloc, World.size_alloc, World.size_alloc] at h
        exact h
      clear hwb
      have n0 := k6.cell 0
      have n1 := k6.frozen 0
      simp at n0
      have hrb := hr.out.later (below_to HB.out hBb)
      have u1 : Upd (fun k => k = wq.heap.size + 1 + 1 + 1) wb (wb.setCell ⟨wq.heap.size + 1 + 1 + 1, 0, none⟩ (.func (.func 74) #[] #[.pointer (some ⟨w.heap.size, 0, none⟩), .pointer (some ⟨wq.heap.size, 0, none⟩), .pointer (some ⟨wq.heap.size + 1 + 1, 0, none⟩), .pointer (some ⟨wq.heap.size + 1 + 1 + 1, 0, none⟩)])) := (Upd.refl _ _).set _ _ (.inl rfl)
      have hKb := HK.out.later hBb
      have HRB : Hid (RB (wb.setCell ⟨wq.heap.size + 1 + 1 + 1, 0, none⟩ (.func (.func 74) #[] #[.pointer (some ⟨w.heap.size, 0, none⟩), .pointer (some ⟨wq.heap.size, 0, none⟩), .pointer (some ⟨wq.heap.size + 1 + 1, 0, none⟩), .pointer (some ⟨wq.heap.size + 1 + 1 + 1, 0, none⟩)])) B w.heap.size wq.heap.size (wq.heap.size + 1 + 1) (wq.heap.size + 1 + 1 + 1) gU (wq.heap.size + 1) vs U i) :=
        hide_ ⟨hKb.upd u1 (by omega), k3.upd u1 (by omega), k5.upd u1 (by omega), k6.set 0 _, hrb.other u1 k6 (by decide) (by decide)⟩
      have HT4 := hide_ (k4.upd u1 (by omega))
      have HK4 := hide_ (hKb.upd u1 (by omega))
      have HB4 := hide_ (HB.out.trans ((hBb.mono HB.out.size).trans (u1.below w.heap.size (by have := hBb.size; omega) (fun k hk => by omega))))
      obtain ⟨wc, hwc⟩ : ∃ wc, wc = wb.setCell ⟨wq.heap.size + 1 + 1 + 1, 0, none⟩ (.func (.func 74) #[] #[.pointer (some ⟨w.heap.size, 0, none⟩), .pointer (some ⟨wq.heap.size, 0, none⟩), .pointer (some ⟨wq.heap.size + 1 + 1, 0, none⟩), .pointer (some ⟨wq.heap.size + 1 + 1 + 1, 0, none⟩)]) := ⟨_, rfl⟩
      rw [← hwc] at HRB HT4 HK4 HB4
      have d1 := HRB.out.2.1.cell 0
      have d3 := HRB.out.2.2.2.1.cell 0
      simp at d1 d3
      have HCon := hide_ (leads_any B w.heap.size wq.heap.size (wq.heap.size + 1 + 1) (wq.heap.size + 1 + 1 + 1) gU (wq.heap.size + 1) vs U i hU hR hsm U.length i [] wc hlt (by simp) (hide_ ⟨by simp, fun u h => by cases h⟩) HRB HT4)
      clear k3 k4 k5 k6 u1 hKb hrb hBb c0 HB
      go_upto_region 7 with fail
      rw [← hwc]
      clear hwc n0 n1
      go_upto_if 17 with (go_at_call 74; refine HCon.out.mono ?_; rintro e w5 ⟨rr, S5, rfl, HL5, HT5, HU5⟩)
      have HB5 := hide_ (HB4.out.trans (HU5.out.below w.heap.size HB4.out.size (fun k hk => by omega)))
      have HRB5 := hide_ (HRB.out.upd HU5.out HT4.out)
      have x1 := HRB5.out.2.1.cell 0
      simp at x1
      cases rr
      · go_wp2_with fail
        go_roundw
        case rel => exact ⟨i + 1, by omega, by go_num, hide_ (fun j hj => by
          rcases Nat.lt_or_ge j i with h | h
          · exact HN.out j h
          · obtain rfl : j = i := by omega
            exact HL5.out.no), HRB5.out.1, HB5⟩
        case measure => simp [intOf]; omega
      · go_wp2
        go_ret
        exact ⟨(i : Int), rfl, hide_ (.inr ⟨i, rfl, hlt, HL5.out.2.2.2.2.1 rfl, HN.out⟩), HB5⟩
    · obtain rfl : i = U.length := by omega
      go_wp2
      go_ret
      exact ⟨-1, rfl, hide_ (.inl ⟨rfl, HN.out⟩), HB⟩
end Go.Proofs.YtbgjgbddpcofcaaGreatDoor

/- ordered. -/
namespace Go.Proofs.YtbgjgbddpcofcaaGreatDoor
open Go.RowKit
set_option linter.unusedVariables false

/-- What is told, as ordered's closure has caught it. -/
def Told (w : World) (bt gt n : Nat) (S : List Nat) : Prop := Blk w bt 131 [.slice (some ⟨gt, 0, none⟩) n n] ∧ Blk w gt 4 (bits n S)
def lacks (l S : List Nat) : Bool := l.any (fun u => !decide (u ∈ S))
theorem lacks_iff (l S : List Nat) : lacks l S = false ↔ ∀ u ∈ l, u ∈ S := by simp [lacks]
set_option maxRecDepth 100000 in
set_option maxHeartbeats 4000000 in
theorem untold_any (bt gt n : Nat) (S : List Nat) (x : Nat) (w : World) (hx : x < n) (hn : n ≤ 256) (hT : Hid (Told w bt gt n S)) :
    Calls Tryz.prog 75 #[.int .i64 (x : Int), .pointer (some ⟨bt, 0, none⟩)] w fun e w' => e = .returned (.bool (!decide (x ∈ S))) ∧ w = w' := by
  have c0 := hT.out.1.cell 0
  have c1 := (hT.out.2.cell x).trans (bits_at _ _ x hx)
  simp at c0
  have hx' : (x : Int) < n := by omega
  generalize decide (x ∈ S) = d at *
  go_enter Tryz.func75, Tryz.ntmps75
  go_wp2
  go_ret
  exact ⟨rfl, rfl⟩
set_option maxRecDepth 100000 in
set_option maxHeartbeats 4000000 in
theorem indexU_any (bt gt n : Nat) (S : List Nat) (av : Option Addr) (cv : Nat) (l : List Nat) (w : World) (hl : l.length ≤ 10000000000000) (hln : Hid (∀ u ∈ l, u < n)) (hn : n ≤ 256) (hr : Hid (Row .i64 w av (natI l))) (hT : Hid (Told w bt gt n S)) :
    Calls Tryz.prog 86 #[.slice av l.length cv, .func (.func 75) #[] #[.pointer (some ⟨bt, 0, none⟩)]] w fun e w' => ∃ r : Int, e = .returned (.int .i64 r) ∧ (decide (0 ≤ r) = lacks l S) ∧ w = w' := by
  go_enter Tryz.func86, Tryz.ntmps86
  go_wp2_with fail
  go_loop [8] (fun x8 => ∃ j : Nat, j ≤ l.length ∧ x8 = .int .i64 (j : Int) ∧ Hid (∀ u ∈ l.take j, u ∈ S)) (fun x8 => l.length - (intOf x8).toNat)
  case atStart => exact ⟨0, Nat.zero_le _, rfl, hide_ (fun u h => by simp at h)⟩
  case round =>
    obtain ⟨j, hj, rfl, HA⟩ := hrel
    by_cases hlt : j < l.length
    · have hlt' : (j : Int) < l.length := by omega
      obtain ⟨b, off, rfl, hb, hc⟩ := hr.out.open (by rw [natI_len]; omega)
      have hxj : l[j]? = some (l[j]'hlt) := List.getElem?_eq_getElem hlt
      have c1 := hc j (by rw [natI_len]; exact hlt)
      rw [natI_at _ _ _ hxj] at c1
      have hxn := hln.out _ (List.getElem_mem hlt)
      have hxm : l[j]'hlt ∈ l := List.getElem_mem hlt
      have HX := hide_ hxj
      have HXM := hide_ hxm
      clear hc hxj hxm
      generalize l[j]'hlt = x at *
      cases hm : decide (x ∈ S) with
      | true =>
        have HA2 : Hid (∀ u ∈ l.take (j + 1), u ∈ S) := hide_ (fun u hu => by
          rcases take_mem HX.out hu with h | rfl
          · exact HA.out u h
          · exact of_decide_eq_true hm)
        have HCon : Hid (∀ w, Hid (Told w bt gt n S) → Calls Tryz.prog 75 #[.int .i64 (x : Int), .pointer (some ⟨bt, 0, none⟩)] w fun e w' => e = .returned (.bool false) ∧ w = w') := fun w h => by
          have := untold_any bt gt n S x w hxn hn h
          rw [hm] at this
          exact this
        clear hm
        go_wp2_with (go_at_call 75; refine (HCon.out _ hT).mono ?_; rintro e w' ⟨rfl, rfl⟩)
        go_round
        case rel => exact ⟨j + 1, by omega, by go_num, HA2⟩
        case measure => simp [intOf]; omega
      | false =>
        have HL : Hid (lacks l S = true) := hide_ (by
          unfold lacks
          rw [List.any_eq_true]
          exact ⟨x, HXM.out, by rw [hm]; rfl⟩)
        have HCon : Hid (∀ w, Hid (Told w bt gt n S) → Calls Tryz.prog 75 #[.int .i64 (x : Int), .pointer (some ⟨bt, 0, none⟩)] w fun e w' => e = .returned (.bool true) ∧ w = w') := fun w h => by
          have := untold_any bt gt n S x w hxn hn h
          rw [hm] at this
          exact this
        clear hm
        go_wp2_with (go_at_call 75; refine (HCon.out _ hT).mono ?_; rintro e w' ⟨rfl, rfl⟩)
        go_ret
        exact ⟨(j : Int), rfl, by rw [HL.out]; simp, rfl⟩
    · obtain rfl : j = l.length := by omega
      have HL : Hid (lacks l S = false) := hide_ (by rw [lacks_iff]; have h := HA.out; rw [List.take_length] at h; exact h)
      go_wp2
      go_ret
      exact ⟨-1, rfl, by rw [HL.out]; decide, rfl⟩
set_option maxRecDepth 100000 in
set_option maxHeartbeats 4000000 in
theorem contains_any (bt gt n : Nat) (S : List Nat) (av : Option Addr) (cv : Nat) (l : List Nat) (w : World) (hl : l.length ≤ 10000000000000) (hln : Hid (∀ u ∈ l, u < n)) (hn : n ≤ 256) (hr : Hid (Row .i64 w av (natI l))) (hT : Hid (Told w bt gt n S)) :
    Calls Tryz.prog 76 #[.slice av l.length cv, .func (.func 75) #[] #[.pointer (some ⟨bt, 0, none⟩)]] w fun e w' => e = .returned (.bool (lacks l S)) ∧ w = w' := by
  go_enter Tryz.func76, Tryz.ntmps76
  go_upto_region 1 with fail
  go_wp2_with (go_at_call 86; refine (indexU_any bt gt n S av cv l _ hl hln hn hr hT).mono ?_; rintro e w' ⟨r, rfl, hR, rfl⟩; (have HR := hide_ hR); clear hR)
  go_ret
  exact ⟨by rw [← HR.out]; rfl, rfl⟩
theorem make0 (n : Nat) (hn : n ≤ 256) (w : World) : (Instr.makeSlice 57 (.int .i64 0) (.int .i64 (n : Int))).run Tryz.prog w = .ok (.slice (some ⟨w.heap.size, 0, none⟩) 0 n) (w.alloc (.cells (madeCells #[.int .i64 0] n) 3)) := by
  obtain ⟨i0, hi, hz0, hz1, hz2⟩ := info_parts EInt.info
  have hb : (i0.bytes : Int) * (n : Int) ≤ 281474976710656 := by rw [hz2]; omega
  have hr := run_make (P := Tryz.prog) w 57 3 i0 (.int .i64 0) EInt.sl hi hz0 .i64 .i64 0 n (by omega) (by omega) hb (by omega)
  rw [Int.toNat_natCast, hz1, Nat.mul_one] at hr
  exact hr
theorem Told.upd {w w' : World} {bt gt n : Nat} {S : List Nat} {P : Nat → Prop} (h : Told w bt gt n S) (hu : Upd P w w') (h1 : ¬ P bt) (h2 : ¬ P gt) : Told w' bt gt n S := ⟨h.1.upd hu h1, h.2.upd hu h2⟩
set_option maxRecDepth 100000 in
set_option maxHeartbeats 8000000 in
theorem ordered_any (gU B : Nat) (vs : List Value) (U : List (List Nat)) (w : World) (hU : U.length ≤ 256) (hR : Hid (Rng U)) (hA : Hid (Acy U)) (hsm : Hid (∀ a, (us U a).length ≤ 10000000000000)) (hr : Hid (URow w B gU vs U)) :
    Calls Tryz.prog 53 #[.slice (some ⟨gU, 0, none⟩) U.length U.length] w fun e w' => ∃ (g cap : Nat) (ys : List Value) (o : List Nat), e = .returned (.slice (some ⟨g, 0, none⟩) o.length cap) ∧ w.heap.size ≤ g ∧ Hid (Ordr U o) ∧ Hid (o.length = U.length) ∧ Hid (Stck w' g cap (natI o) ys) ∧ Hid (Below w.heap.size w w') := by
  have hmf : ∀ (fn : Fn) (first cap : Array Value) (w : World), (Instr.makeFunc fn first cap).run Tryz.prog w = .ok (.func fn first cap) w := fun _ _ _ _ => rfl
  have hmk1 := make0 U.length hU
  have hmk2 := run_make_row' (P := Tryz.prog) 131 4 (.bool false) 1 Tryz.underlying131 (by kernel_rfl) rfl .i64 .i64 U.length (by omega) (by omega)
  obtain ⟨w1, hw1⟩ : ∃ w1, w1 = w.alloc (.cells (madeCells #[.int .i64 0] U.length) 3) := ⟨_, rfl⟩
  have HB1 : Hid (Below w.heap.size w w1) := by rw [hw1]; exact (Below.refl _ _).alloc (Nat.le_refl _) _
  have k1 : Blk w1 w.heap.size 3 (List.replicate U.length (.int .i64 0)) := by
    have h := Blk.newA w (madeCells #[.int .i64 0] U.length) 3
    rw [toList_madeCells_one, ← hw1] at h
    exact h
  have hz1 : w1.heap.size = w.heap.size + 1 := by rw [hw1]; simp
  obtain ⟨w2, hw2⟩ : ∃ w2, w2 = (w1.alloc (.cells (madeCells #[.bool false] U.length) 4)).alloc (.cells #[.slice (some ⟨w1.heap.size, 0, none⟩) U.length U.length] 131) := ⟨_, rfl⟩
  have hB2 : Below w1.heap.size w1 w2 := by rw [hw2]; exact ((Below.refl _ _).alloc (Nat.le_refl _) _).alloc (by simp) _
  have HB2 := hide_ (below_to HB1.out hB2)
  have HS2 : Hid (Stck w2 w.heap.size U.length (natI []) (List.replicate U.length (.int .i64 0))) := hide_ ⟨k1.later hB2, by simp, by simp [natI], by unfold maxLen; omega, rfl⟩
  have HT2 : Hid (Told w2 (w1.heap.size + 1) w1.heap.size U.length []) := hide_ (by
    constructor
    · have h := Blk.newA (w1.alloc (.cells (madeCells #[.bool false] U.length) 4)) #[.slice (some ⟨w1.heap.size, 0, none⟩) U.length U.length] 131
      rw [← hw2, World.size_alloc] at h
      exact h
    · have h := (Blk.newA w1 (madeCells #[.bool false] U.length) 4).alloc (.cells #[.slice (some ⟨w1.heap.size, 0, none⟩) U.length U.length] 131)
      rw [toList_madeCells_one, ← hw2] at h
      rw [bits_nil]
      exact h)
  have HZ1 := hide_ hz1
  clear k1 hB2 hz1
  go_enter Tryz.func53, Tryz.ntmps53
  go_upto_region 2 with fail
  rw [← hw1]
  clear hw1 hmk1
  go_upto_region 3 with fail
  rw [← hw2]
  clear hw2 hmk2
  go_wp2_with fail
  clear hmf
  go_loopw [3, 16] (fun x3 x16 wr => ∃ (i : Nat) (o : List Nat) (g cap : Nat) (ys : List Value), i ≤ U.length ∧ x3 = .slice (some ⟨g, 0, none⟩) o.length cap ∧ x16 = .int .i64 (i : Int) ∧ w.heap.size ≤ g ∧ Hid (o.length = i) ∧ Hid (Ordr U o) ∧ Hid (Stck wr g cap (natI o) ys) ∧ Hid (Told wr (w1.heap.size + 1) w1.heap.size U.length o) ∧ Hid (Below w.heap.size w wr)) (fun _ x16 _ => U.length - (intOf x16).toNat)
  case atStart => exact ⟨0, [], w.heap.size, U.length, _, Nat.zero_le _, rfl, rfl, Nat.le_refl _, hide_ rfl, hide_ (Ordr.nil U), HS2, HT2, HB2⟩
  case round =>
    obtain ⟨i, o, g, cap, ys, hi, rfl, rfl, hg, HOl, HO, HS, HT, HB⟩ := hrel
    generalize wr = wq at *
    clear HS2 HT2 HB2 HB1
    by_cases hlt : i < U.length
    · have hlt' : (i : Int) < U.length := by omega
      have HUq := hide_ (hr.out.later HB.out)
      obtain ⟨n0, hn1, hn2⟩ := HO.out.next hR.out hA.out (by rw [HOl.out]; exact hlt)
      obtain ⟨n, hn3, hn4, hn5⟩ := least (p := fun n => Rdy U o n) n0 hn2
      have hnl : n < U.length := by omega
      have HN4 := hide_ hn4
      have HN5 := hide_ hn5
      clear hn1 hn2 hn3 hn4 hn5
      go_wp2_with fail
      go_loop [6] (fun x6 => ∃ m : Nat, m ≤ n ∧ x6 = .int .i64 (m : Int)) (fun x6 => U.length - (intOf x6).toNat)
      case atStart => exact ⟨0, Nat.zero_le _, rfl⟩
      case round =>
        obtain ⟨m, hm, rfl⟩ := hrel
        have hml : m < U.length := by omega
        have hml' : (m : Int) < U.length := by omega
        obtain ⟨av, cv, hv⟩ := HUq.out.at hml
        obtain ⟨-, hrow⟩ := HUq.out.rowAt hml hv
        have HR1 := hide_ hrow
        have c0 := HT.out.1.cell 0
        have c1 := (HT.out.2.cell m).trans (bits_at _ _ m hml)
        have c2 := HUq.out.1.cell m
        rw [hv] at c2
        simp at c0
        have hlen := hsm.out m
        have HCon := hide_ (contains_any (w1.heap.size + 1) w1.heap.size U.length o av cv (us U m) wq hlen (hide_ (fun u hu => hR.out m u hu)) hU HR1 HT)
        clear hv hrow
        by_cases hmn : m = n
        · subst hmn
          have h1 : decide (m ∈ o) = false := decide_eq_false HN4.out.1
          have h2 : lacks (us U m) o = false := (lacks_iff _ _).2 HN4.out.2
          rw [h1] at c1
          rw [h2] at HCon
          have d1 := HT.out.2.frozen m
          have HT1 : Hid (Told (wq.setCell ⟨w1.heap.size, m, none⟩ (.bool true)) (w1.heap.size + 1) w1.heap.size U.length (o ++ [m])) := hide_ ⟨HT.out.1.other _ _ (by show w1.heap.size + 1 ≠ w1.heap.size; omega), by rw [← bits_set _ _ _ hml]; exact HT.out.2.set m _⟩
          have u1 : Upd (fun k => k = w1.heap.size) wq (wq.setCell ⟨w1.heap.size, m, none⟩ (.bool true)) := (Upd.refl _ _).set _ _ (.inl rfl)
          have HS1 := hide_ (HS.out.upd u1 (fun e => absurd (blk_type HS.out.1 (e ▸ HT.out.2)) (by decide)))
          have HBv := hide_ (HB.out.trans (u1.below w.heap.size HB.out.size (fun k hk => by have := HZ1.out; omega)))
          obtain ⟨wv, hwv⟩ : ∃ wv, wv = wq.setCell ⟨w1.heap.size, m, none⟩ (.bool true) := ⟨_, rfl⟩
          rw [← hwv] at HT1 HS1 HBv
          have hol : (natI o).length ≤ 10000000000000 := by rw [natI_len, HOl.out]; omega
          obtain ⟨ga, ca, ya, wa, r1, s1, u2, c3⟩ := HS1.out.push (m : Int) hol
          have e3 : natI o ++ [(m : Int)] = natI (o ++ [m]) := by simp [natI]
          rw [e3] at s1
          rw [natI_len] at r1
          have HRa : Hid ((Builtin.append_ #[57, 57] 57 #[.slice (some ⟨g, 0, none⟩) o.length cap, .slice (some ⟨wv.heap.size, 0, none⟩) 1 1]).run Tryz.prog (wv.alloc (.cells #[.int .i64 (m : Int)] 3)) = .ok (.slice (some ⟨ga, 0, none⟩) (o ++ [m]).length ca) wa) := hide_ (by rw [List.length_append, List.length_singleton]; exact r1)
          have HSa := hide_ s1
          have HTa := hide_ (HT1.out.upd u2 (fun e => absurd (blk_type HS1.out.1 (e ▸ HT1.out.1)) (by decide)) (fun e => absurd (blk_type HS1.out.1 (e ▸ HT1.out.2)) (by decide)))
          have HBa := hide_ (HBv.out.trans (u2.below w.heap.size HBv.out.size (fun k hk => by omega)))
          have HOa := hide_ (HO.out.snoc hml HN4.out (fun q hq => HN5.out q hq))
          have hga : w.heap.size ≤ ga := by
            have := HBv.out.size
            rcases c3 with h | h <;> omega
          have HOla : Hid ((o ++ [m]).length = i + 1) := hide_ (by rw [List.length_append, List.length_singleton, HOl.out])
          clear r1 s1 u1 u2 c3 e3 h1 h2 HS HS1 HT1 HBv
          obtain ⟨oo, hoo⟩ : ∃ oo, o ++ [m] = oo := ⟨_, rfl⟩
          rw [hoo] at HRa HSa HTa HOa HOla
          clear hoo
          go_upto_region 10 with (go_at_call 76; refine HCon.out.mono ?_; rintro e w' ⟨rfl, rfl⟩)
          rw [← hwv]
          clear hwv c0 c1 c2 d1
          go_wp2_with (first
            | (at_builtin; refine wpList_append_run rfl (.tmp 35) (.tmp 37) 57 57 rfl rfl rfl HRa.out ?_; clear HRa))
          go_roundw
          case rel => exact ⟨i + 1, oo, ga, ca, ya, by omega, rfl, by go_num, hga, HOla, HOa, HSa, HTa, HBa⟩
          case measure => simp [intOf]; omega
        · have hmn' : m < n := by omega
          have hnr := HN5.out m hmn'
          cases h1 : decide (m ∈ o) with
          | true =>
            rw [h1] at c1
            clear h1 hnr
            go_wp2_with fail
            go_round
            case rel => exact ⟨m + 1, by omega, by go_num⟩
            case measure => simp [intOf]; omega
          | false =>
            rw [h1] at c1
            have h2 : lacks (us U m) o = true := by
              cases e : lacks (us U m) o with
              | true => rfl
              | false => exact absurd ⟨of_decide_eq_false h1, (lacks_iff _ _).1 e⟩ hnr
            rw [h2] at HCon
            clear h1 h2 hnr
            go_wp2_with (go_at_call 76; refine HCon.out.mono ?_; rintro e w' ⟨rfl, rfl⟩)
            go_round
            case rel => exact ⟨m + 1, by omega, by go_num⟩
            case measure => simp [intOf]; omega
    · obtain rfl : i = U.length := by omega
      go_wp2
      go_ret
      exact ⟨g, cap, ys, o, rfl, hg, HO, HOl, HS, HB⟩
end Go.Proofs.YtbgjgbddpcofcaaGreatDoor
