/- firstInRing. -/
import Derived.Test.YtjeafblkmipdmaaYh
import Derived.Laws.EntriesVeiled
namespace Go.Proofs.Ytjeafblkmipdmaa
open Go.RowKit
set_option linter.unusedVariables false

theorem us_at {U : List (List Nat)} {i : Nat} (h : i < U.length) : U[i]? = some (us U i) := by
  unfold us
  rw [List.getD_eq_getElem?_getD, List.getElem?_eq_getElem h]
  rfl
section
variable {w w' : World} {B g : Nat} {vs : List Value} {U : List (List Nat)}
theorem URow.at (h : URow w B g vs U) {i : Nat} (hi : i < U.length) : ∃ av cv, vs[i]? = some (.slice av (us U i).length cv) := by
  have hv : vs[i]? = some (vs[i]'(by rw [h.2.2.1]; exact hi)) := List.getElem?_eq_getElem _
  obtain ⟨av, cv, e, _⟩ := own_open (h.2.2.2.1 i _ _ hv (us_at hi)) (natI_len _)
  rw [e] at hv
  exact ⟨av, cv, hv⟩
theorem URow.rowAt (h : URow w B g vs U) {i : Nat} (hi : i < U.length) {av : Option Addr} {m cv : Nat} (hv : vs[i]? = some (.slice av m cv)) : m = (us U i).length ∧ Row .i64 w av (natI (us U i)) := by
  obtain ⟨a2, c2, e, r, _⟩ := own_open (h.2.2.2.1 i _ _ hv (us_at hi)) (natI_len _)
  injection e with e1 e2 e3
  subst e1 e2 e3
  exact ⟨rfl, r⟩
end
/-- What leadsBack answers of a, S being met; S': what is met behind it. -/
def LdR (U : List (List Nat)) (f a : Nat) (S : List Nat) (r : Bool) (S' : List Nat) : Prop :=
  (∀ u ∈ S, u ∈ S') ∧ S.length ≤ S'.length ∧ S'.Nodup ∧ (∀ u ∈ S', u < U.length) ∧ (r = true → Lead U a f) ∧
    (r = false → (∀ u ∈ us U a, u ≠ f ∧ u ∈ S') ∧ ∀ k ∈ S', k ∉ S → ∀ u ∈ us U k, u ≠ f ∧ u ∈ S')
/-- In the midst of a's uses. -/
def LdM (U : List (List Nat)) (f a : Nat) (S : List Nat) (j : Nat) (S' : List Nat) : Prop :=
  (∀ u ∈ S, u ∈ S') ∧ S.length ≤ S'.length ∧ S'.Nodup ∧ (∀ u ∈ S', u < U.length) ∧
    (∀ u ∈ (us U a).take j, u ≠ f ∧ u ∈ S') ∧ ∀ k ∈ S', k ∉ S → ∀ u ∈ us U k, u ≠ f ∧ u ∈ S'
theorem take_mem {α : Type} {l : List α} {j : Nat} {x u : α} (h : l[j]? = some x) (hu : u ∈ l.take (j + 1)) : u ∈ l.take j ∨ u = x := by
  obtain ⟨hj, e⟩ := List.getElem?_eq_some_iff.1 h
  rw [List.take_succ_eq_append_getElem hj, e] at hu
  rcases List.mem_append.1 hu with h | h
  · exact .inl h
  · exact .inr (by simpa using h)
theorem LdM.skip {U : List (List Nat)} {f a : Nat} {S S' : List Nat} {j x : Nat} (h : LdM U f a S j S') (hx : (us U a)[j]? = some x) (hf : x ≠ f) (hm : x ∈ S') : LdM U f a S (j + 1) S' := by
  obtain ⟨h1, h2, h3, h4, h5, h6⟩ := h
  refine ⟨h1, h2, h3, h4, fun u hu => ?_, h6⟩
  rcases take_mem hx hu with h | rfl
  · exact h5 u h
  · exact ⟨hf, hm⟩
theorem LdM.rec {U : List (List Nat)} {f a : Nat} {S S1 S2 : List Nat} {j x : Nat} (h : LdM U f a S j S1) (hx : (us U a)[j]? = some x) (hf : x ≠ f) (k : LdR U f x (S1 ++ [x]) false S2) : LdM U f a S (j + 1) S2 := by
  obtain ⟨h1, h2, h3, h4, h5, h6⟩ := h
  obtain ⟨k1, k2, k3, k4, _, k6⟩ := k
  obtain ⟨k7, k8⟩ := k6 rfl
  have hs : ∀ u ∈ S1, u ∈ S2 := fun u hu => k1 u (List.mem_append.2 (.inl hu))
  have hxs : x ∈ S2 := k1 x (by simp)
  refine ⟨fun u hu => hs u (h1 u hu), by simp at k2; omega, k3, k4, fun u hu => ?_, fun m hm hmS u hu => ?_⟩
  · rcases take_mem hx hu with h | rfl
    · exact ⟨(h5 u h).1, hs u (h5 u h).2⟩
    · exact ⟨hf, hxs⟩
  · classical
    by_cases hm1 : m ∈ S1
    · exact ⟨(h6 m hm1 hmS u hu).1, hs u (h6 m hm1 hmS u hu).2⟩
    · by_cases e : m = x
      · subst e; exact k7 u hu
      · exact k8 m hm (by simp [hm1, e]) u hu
theorem LdM.fin {U : List (List Nat)} {f a : Nat} {S S' : List Nat} (h : LdM U f a S (us U a).length S') : LdR U f a S false S' := by
  obtain ⟨h1, h2, h3, h4, h5, h6⟩ := h
  rw [List.take_length] at h5
  exact ⟨h1, h2, h3, h4, fun h => (by cases h), fun _ => ⟨h5, h6⟩⟩
theorem LdM.hit {U : List (List Nat)} {f a : Nat} {S S' : List Nat} {j : Nat} (h : LdM U f a S j S') (hl : Lead U a f) : LdR U f a S true S' :=
  ⟨h.1, h.2.1, h.2.2.1, h.2.2.2.1, fun _ => hl, fun h => by cases h⟩
theorem LdM.hit2 {U : List (List Nat)} {f a x : Nat} {S S1 S2 : List Nat} {j : Nat} (h : LdM U f a S j S1) (hx : x ∈ us U a) (k : LdR U f x (S1 ++ [x]) true S2) : LdR U f a S true S2 :=
  ⟨fun u hu => k.1 u (List.mem_append.2 (.inl (h.1 u hu))), by have := k.2.1; have := h.2.1; simp at *; omega, k.2.2.1, k.2.2.2.1, fun _ => (k.2.2.2.2.1 rfl).step hx, fun h => by cases h⟩
/-- What leadsBack has caught. -/
def RB (w : World) (B bu bf bm bl gU gm : Nat) (vs : List Value) (U : List (List Nat)) (f : Nat) : Prop :=
  Blk w bu 61 [.slice (some ⟨gU, 0, none⟩) U.length U.length] ∧ Blk w bf 3 [.int .i64 (f : Int)] ∧ Blk w bm 70 [.slice (some ⟨gm, 0, none⟩) U.length U.length] ∧
    Blk w bl 71 [.func (.func 26) #[] #[.pointer (some ⟨bu, 0, none⟩), .pointer (some ⟨bf, 0, none⟩), .pointer (some ⟨bm, 0, none⟩), .pointer (some ⟨bl, 0, none⟩)]] ∧ URow w B gU vs U
theorem RB.upd {w w' : World} {B bu bf bm bl gU gm : Nat} {vs : List Value} {U : List (List Nat)} {f : Nat} {ys : List Value} (h : RB w B bu bf bm bl gU gm vs U f) (hu : Upd (fun k => k = gm) w w') (hg : Blk w gm 4 ys) : RB w' B bu bf bm bl gU gm vs U f := by
  obtain ⟨h1, h2, h3, h4, h5⟩ := h
  have key : ∀ {b : Nat} {t : TypeId} {xs : List Value}, Blk w b t xs → t ≠ 4 → Blk w' b t xs := fun hb ht => hb.upd hu (fun e => ht (by subst e; exact blk_type hb hg))
  exact ⟨key h1 (by decide), key h2 (by decide), key h3 (by decide), key h4 (by decide), h5.other hu hg (by decide) (by decide)⟩
set_option maxRecDepth 100000 in
set_option maxHeartbeats 8000000 in
theorem leads_any (B bu bf bm bl gU gm : Nat) (vs : List Value) (U : List (List Nat)) (f : Nat) (hU : U.length ≤ 256) (hR : Hid (Rng U)) (hsm : Hid (∀ a, (us U a).length ≤ 10000000000000)) : ∀ (k a : Nat) (S : List Nat) (w : World), a < U.length → U.length - S.length ≤ k → Hid (S.Nodup ∧ ∀ u ∈ S, u < U.length) → Hid (RB w B bu bf bm bl gU gm vs U f) → Hid (Blk w gm 4 (bits U.length S)) →
    Calls Try.prog 26 #[.int .i64 (a : Int), .pointer (some ⟨bu, 0, none⟩), .pointer (some ⟨bf, 0, none⟩), .pointer (some ⟨bm, 0, none⟩), .pointer (some ⟨bl, 0, none⟩)] w fun e w' => ∃ (r : Bool) (S' : List Nat), e = .returned (.bool r) ∧ Hid (LdR U f a S r S') ∧ Hid (Blk w' gm 4 (bits U.length S')) ∧ Hid (Upd (fun k => k = gm) w w') := by
  intro k
  induction k using Nat.strongRecOn with
  | ind k ih =>
    intro a S w ha hk hS HB HG
    have IH := hide_ ih
    clear ih
    have ha' : (a : Int) < U.length := by omega
    obtain ⟨av, cv, hva⟩ := HB.out.2.2.2.2.at ha
    have b0 := HB.out.1.cell 0
    have b1 := HB.out.2.2.2.2.1.cell a
    rw [hva] at b1
    simp at b0
    have HV := hide_ hva
    have hlen := hsm.out a
    clear hva
    go_enter Try.func26, Try.ntmps26
    go_wp2_with fail
    clear b0 b1
    go_loopw [14] (fun x14 wr => ∃ (j : Nat) (T : List Nat), j ≤ (us U a).length ∧ x14 = .int .i64 (j : Int) ∧ Hid (LdM U f a S j T) ∧ Hid (Blk wr gm 4 (bits U.length T)) ∧ Hid (Upd (fun k => k = gm) w wr)) (fun x14 _ => (us U a).length - (intOf x14).toNat)
    case atStart => exact ⟨0, S, Nat.zero_le _, rfl, hide_ ⟨fun u h => h, Nat.le_refl _, hS.out.1, hS.out.2, fun u h => by simp at h, fun k h1 h2 => absurd h1 h2⟩, HG, hide_ (Upd.refl _ _)⟩
    case round =>
      obtain ⟨j, T, hj, rfl, HM, HT, HU⟩ := hrel
      generalize wr = wq at *
      have HBq := hide_ (HB.out.upd HU.out HG.out)
      by_cases hlt : j < (us U a).length
      · have hlt' : (j : Int) < (us U a).length := by omega
        obtain ⟨-, hrow⟩ := HBq.out.2.2.2.2.rowAt ha HV.out
        obtain ⟨br, off, rfl, hbr, hcr⟩ := hrow.open (by rw [natI_len]; omega)
        have hxj : (us U a)[j]? = some ((us U a)[j]'hlt) := List.getElem?_eq_getElem hlt
        have c1 := hcr j (by rw [natI_len]; exact hlt)
        rw [natI_at _ _ _ hxj] at c1
        have hxu : (us U a)[j]'hlt ∈ us U a := List.getElem_mem hlt
        have hxl := hR.out a _ hxu
        have HXJ := hide_ hxj
        have HXU := hide_ hxu
        clear hcr hrow hxj hxu
        generalize (us U a)[j]'hlt = x at *
        have hxl' : (x : Int) < U.length := by omega
        have d1 := HBq.out.2.1.cell 0
        have d2 := HBq.out.2.2.1.cell 0
        have d3 := HBq.out.2.2.2.1.cell 0
        have d4 := (HT.out.cell x).trans (bits_at _ _ x hxl)
        have d5 := HT.out.frozen x
        simp at d1 d2 d3
        by_cases hf : x = f
        · subst hf
          have he : ((x : Int) == (x : Int)) = true := by simp
          go_wp2
          go_ret
          exact ⟨true, T, rfl, hide_ (HM.out.hit (Lead.one HXU.out)), HT, HU⟩
        · have he : ((x : Int) == (f : Int)) = false := by simp; omega
          cases hm : decide (x ∈ T) with
          | true =>
            rw [hm] at d4
            have HM1 := hide_ (HM.out.skip HXJ.out hf (of_decide_eq_true hm))
            clear hm
            go_wp2_with fail
            go_roundw
            case rel => exact ⟨j + 1, T, by omega, by go_num, HM1, HT, HU⟩
            case measure => simp [intOf]; omega
          | false =>
            rw [hm] at d4
            have hxT : x ∉ T := of_decide_eq_false hm
            have HT1 : Hid (Blk (wq.setCell ⟨gm, x, none⟩ (.bool true)) gm 4 (bits U.length (T ++ [x]))) := hide_ (by rw [← bits_set _ _ _ hxl]; exact HT.out.set x _)
            have u1 : Upd (fun k => k = gm) wq (wq.setCell ⟨gm, x, none⟩ (.bool true)) := (Upd.refl _ _).set _ _ (.inl rfl)
            have HB1 := hide_ (HBq.out.upd u1 HT.out)
            have HU1 := hide_ (HU.out.to u1)
            have hN1 : (T ++ [x]).Nodup := by
              rw [List.nodup_append]
              exact ⟨HM.out.2.2.1, by simp, fun u hu v hv e => by simp at hv; subst hv; subst e; exact hxT hu⟩
            have hL1 : ∀ u ∈ T ++ [x], u < U.length := fun u hu => by
              rcases List.mem_append.1 hu with h | h
              · exact HM.out.2.2.2.1 u h
              · simp at h; subst h; exact hxl
            have hcnt := nodup_len U.length (T ++ [x]) hN1 hL1
            have hST := HM.out.2.1
            obtain ⟨wy, hwy⟩ : ∃ wy, wy = wq.setCell ⟨gm, x, none⟩ (.bool true) := ⟨_, rfl⟩
            rw [← hwy] at HT1 HB1 HU1
            have e2 := HB1.out.2.2.2.1.cell 0
            simp at e2
            have hlT : (T ++ [x]).length = T.length + 1 := by simp
            have HCon := hide_ (IH.out (U.length - (T ++ [x]).length) (by omega) x (T ++ [x]) wy hxl (Nat.le_refl _) (hide_ ⟨hN1, hL1⟩) HB1 HT1)
            clear u1 hm hN1 hL1 hcnt hST hlT hxT
            go_upto_region 8 with fail
            rw [← hwy]
            clear hwy d1 d2 d3 d4 d5 c1
            go_wp2_with (go_at_call 26; refine HCon.out.mono ?_; rintro e w5 ⟨rr, S5, rfl, HL5, HT5, HU5⟩; cases rr)
            · go_roundw
              case rel => exact ⟨j + 1, S5, by omega, by go_num, hide_ (HM.out.rec HXJ.out hf HL5.out), HT5, hide_ (HU1.out.to HU5.out)⟩
              case measure => simp [intOf]; omega
            · go_ret
              exact ⟨true, S5, rfl, hide_ (HM.out.hit2 HXU.out HL5.out), HT5, hide_ (HU1.out.to HU5.out)⟩
      · obtain rfl : j = (us U a).length := by omega
        go_wp2
        go_ret
        exact ⟨false, T, rfl, hide_ HM.out.fin, HT, HU⟩
/-- What firstInRing answers. -/
def RingR (U : List (List Nat)) (r : Int) : Prop := (r = -1 ∧ ∀ i, i < U.length → ¬ Lead U i i) ∨ ∃ i : Nat, r = (i : Int) ∧ i < U.length ∧ Lead U i i ∧ ∀ j, j < i → ¬ Lead U j j
theorem LdR.no {U : List (List Nat)} {f : Nat} {S' : List Nat} (h : LdR U f f [] false S') : ¬ Lead U f f := by
  obtain ⟨_, _, _, _, _, h6⟩ := h
  obtain ⟨h7, h8⟩ := h6 rfl
  refine no_lead (fun k => k = f ∨ k ∈ S') (fun k hk u hu => ?_) f (.inl rfl)
  rcases hk with rfl | hk
  · exact ⟨(h7 u hu).1, .inr (h7 u hu).2⟩
  · exact ⟨(h8 k hk (by simp) u hu).1, .inr (h8 k hk (by simp) u hu).2⟩
set_option maxRecDepth 100000 in
set_option maxHeartbeats 8000000 in
theorem ring_any (gU B : Nat) (vs : List Value) (U : List (List Nat)) (w : World) (hU : U.length ≤ 256) (hR : Hid (Rng U)) (hsm : Hid (∀ a, (us U a).length ≤ 10000000000000)) (hr : Hid (URow w B gU vs U)) :
    Calls Try.prog 20 #[.slice (some ⟨gU, 0, none⟩) U.length U.length] w fun e w' => ∃ r : Int, e = .returned (.int .i64 r) ∧ Hid (RingR U r) ∧ Hid (Below w.heap.size w w') := by
  have hmf : ∀ (fn : Fn) (first cap : Array Value) (w : World), (Instr.makeFunc fn first cap).run Try.prog w = .ok (.func fn first cap) w := fun _ _ _ _ => rfl
  have hmk2 := run_make_row' (P := Try.prog) 70 4 (.bool false) 1 Try.underlying70 (by kernel_rfl) rfl .i64 .i64 U.length (by omega) (by omega)
  obtain ⟨w1, hw1⟩ : ∃ w1, w1 = w.alloc (.cells #[.slice (some ⟨gU, 0, none⟩) U.length U.length] 61) := ⟨_, rfl⟩
  have HB1 : Hid (Below w.heap.size w w1) := by rw [hw1]; exact (Below.refl _ _).alloc (Nat.le_refl _) _
  have HK1 : Hid (Blk w1 w.heap.size 61 [.slice (some ⟨gU, 0, none⟩) U.length U.length]) := by rw [hw1]; exact Blk.newA w #[.slice (some ⟨gU, 0, none⟩) U.length U.length] 61
  have c0 := HK1.out.cell 0
  simp at c0
  go_enter Try.func20, Try.ntmps20
  go_upto_region 1 with fail
  rw [← hw1]
  clear hw1
  go_wp2_with fail
  clear c0
  go_loopw [8] (fun x8 wr => ∃ i : Nat, i ≤ U.length ∧ x8 = .int .i64 (i : Int) ∧ Hid (∀ j, j < i → ¬ Lead U j j) ∧ Hid (Blk wr w.heap.size 61 [.slice (some ⟨gU, 0, none⟩) U.length U.length]) ∧ Hid (Below w.heap.size w wr)) (fun x8 _ => U.length - (intOf x8).toNat)
  case atStart => exact ⟨0, Nat.zero_le _, rfl, hide_ (fun j h => by omega), HK1, HB1⟩
  case round =>
    obtain ⟨i, hi, rfl, HN, HK, HB⟩ := hrel
    generalize wr = wq at *
    clear HK1 HB1
    by_cases hlt : i < U.length
    · have hlt' : (i : Int) < U.length := by omega
      have c0 := HK.out.cell 0
      simp at c0
      have hwq : w.heap.size < wq.heap.size := HK.out.lt
      go_upto_region 6 with fail
      obtain ⟨wb, hwb⟩ : ∃ wb, wb = ((((wq.alloc (.cells #[.int .i64 (i : Int)] 3)).alloc (.cells (madeCells #[.bool false] U.length) 4)).alloc (.cells #[.slice (some ⟨wq.heap.size + 1, 0, none⟩) U.length U.length] 70)).alloc (.cells #[.nilFunc] 71)) := ⟨_, rfl⟩
      rw [← hwb]
      have hBb : Below wq.heap.size wq wb := by rw [hwb]; exact ((((Below.refl _ _).alloc (Nat.le_refl _) _).alloc (by simp) _).alloc (by simp; omega) _).alloc (by simp; omega) _
      have k3 : Blk wb wq.heap.size 3 [.int .i64 (i : Int)] := by rw [hwb]; exact (((Blk.newA wq #[.int .i64 (i : Int)] 3).alloc _).alloc _).alloc _
      have k4 : Blk wb (wq.heap.size + 1) 4 (bits U.length []) := by
        have h := ((Blk.newA (wq.alloc (.cells #[.int .i64 (i : Int)] 3)) (madeCells #[.bool false] U.length) 4).alloc (.cells #[.slice (some ⟨wq.heap.size + 1, 0, none⟩) U.length U.length] 70)).alloc (.cells #[.nilFunc] 71)
        rw [toList_madeCells_one, ← hwb, World.size_alloc] at h
        rw [bits_nil]
        exact h
      have k5 : Blk wb (wq.heap.size + 1 + 1) 70 [.slice (some ⟨wq.heap.size + 1, 0, none⟩) U.length U.length] := by
        have h := (Blk.newA ((wq.alloc (.cells #[.int .i64 (i : Int)] 3)).alloc (.cells (madeCells #[.bool false] U.length) 4)) #[.slice (some ⟨wq.heap.size + 1, 0, none⟩) U.length U.length] 70).alloc (.cells #[.nilFunc] 71)
        rw [← hwb, World.size_alloc, World.size_alloc] at h
        exact h
      have k6 : Blk wb (wq.heap.size + 1 + 1 + 1) 71 [.nilFunc] := by
        have h := Blk.newA (((wq.alloc (.cells #[.int .i64 (i : Int)] 3)).alloc (.cells (madeCells #[.bool false] U.length) 4)).alloc (.cells #[.slice (some ⟨wq.heap.size + 1, 0, none⟩) U.length U.length] 70)) #[.nilFunc] 71
        rw [← hwb, World.size_alloc, World.size_alloc, World.size_alloc] at h
        exact h
      clear hwb
      have n0 := k6.cell 0
      have n1 := k6.frozen 0
      simp at n0
      have hrb := hr.out.later (below_to HB.out hBb)
      have u1 : Upd (fun k => k = wq.heap.size + 1 + 1 + 1) wb (wb.setCell ⟨wq.heap.size + 1 + 1 + 1, 0, none⟩ (.func (.func 26) #[] #[.pointer (some ⟨w.heap.size, 0, none⟩), .pointer (some ⟨wq.heap.size, 0, none⟩), .pointer (some ⟨wq.heap.size + 1 + 1, 0, none⟩), .pointer (some ⟨wq.heap.size + 1 + 1 + 1, 0, none⟩)])) := (Upd.refl _ _).set _ _ (.inl rfl)
      have hKb := HK.out.later hBb
      have HRB : Hid (RB (wb.setCell ⟨wq.heap.size + 1 + 1 + 1, 0, none⟩ (.func (.func 26) #[] #[.pointer (some ⟨w.heap.size, 0, none⟩), .pointer (some ⟨wq.heap.size, 0, none⟩), .pointer (some ⟨wq.heap.size + 1 + 1, 0, none⟩), .pointer (some ⟨wq.heap.size + 1 + 1 + 1, 0, none⟩)])) B w.heap.size wq.heap.size (wq.heap.size + 1 + 1) (wq.heap.size + 1 + 1 + 1) gU (wq.heap.size + 1) vs U i) :=
        hide_ ⟨hKb.upd u1 (by omega), k3.upd u1 (by omega), k5.upd u1 (by omega), k6.set 0 _, hrb.other u1 k6 (by decide) (by decide)⟩
      have HT4 := hide_ (k4.upd u1 (by omega))
      have HK4 := hide_ (hKb.upd u1 (by omega))
      have HB4 := hide_ (HB.out.trans ((hBb.mono HB.out.size).trans (u1.below w.heap.size (by have := hBb.size; omega) (fun k hk => by omega))))
      obtain ⟨wc, hwc⟩ : ∃ wc, wc = wb.setCell ⟨wq.heap.size + 1 + 1 + 1, 0, none⟩ (.func (.func 26) #[] #[.pointer (some ⟨w.heap.size, 0, none⟩), .pointer (some ⟨wq.heap.size, 0, none⟩), .pointer (some ⟨wq.heap.size + 1 + 1, 0, none⟩), .pointer (some ⟨wq.heap.size + 1 + 1 + 1, 0, none⟩)]) := ⟨_, rfl⟩
      rw [← hwc] at HRB HT4 HK4 HB4
      have d1 := HRB.out.2.1.cell 0
      have d3 := HRB.out.2.2.2.1.cell 0
      simp at d1 d3
      have HCon := hide_ (leads_any B w.heap.size wq.heap.size (wq.heap.size + 1 + 1) (wq.heap.size + 1 + 1 + 1) gU (wq.heap.size + 1) vs U i hU hR hsm U.length i [] wc hlt (by simp) (hide_ ⟨by simp, fun u h => by cases h⟩) HRB HT4)
      clear k3 k4 k5 k6 u1 hKb hrb hBb c0 HB
      go_upto_region 7 with fail
      rw [← hwc]
      clear hwc n0 n1
      go_upto_if 17 with (go_at_call 26; refine HCon.out.mono ?_; rintro e w5 ⟨rr, S5, rfl, HL5, HT5, HU5⟩)
      have HB5 := hide_ (HB4.out.trans (HU5.out.below w.heap.size HB4.out.size (fun k hk => by omega)))
      have HRB5 := hide_ (HRB.out.upd HU5.out HT4.out)
      have x1 := HRB5.out.2.1.cell 0
      simp at x1
      cases rr
      · go_wp2_with fail
        go_roundw
        case rel => exact ⟨i + 1, by omega, by go_num, hide_ (fun j hj => by
          rcases Nat.lt_or_ge j i with h | h
          · exact HN.out j h
          · obtain rfl : j = i := by omega
            exact HL5.out.no), HRB5.out.1, HB5⟩
        case measure => simp [intOf]; omega
      · go_wp2
        go_ret
        exact ⟨(i : Int), rfl, hide_ (.inr ⟨i, rfl, hlt, HL5.out.2.2.2.2.1 rfl, HN.out⟩), HB5⟩
    · obtain rfl : i = U.length := by omega
      go_wp2
      go_ret
      exact ⟨-1, rfl, hide_ (.inl ⟨rfl, HN.out⟩), HB⟩
end Go.Proofs.Ytjeafblkmipdmaa
