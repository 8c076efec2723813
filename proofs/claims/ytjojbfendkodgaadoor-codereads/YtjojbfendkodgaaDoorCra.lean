/- Code: the document's reader: number. -/
import Derived.Test.YtjojbfendkodgaaDoorCvl
import Derived.Test.YtjojbfendkodgaaDoorCdl
import Derived.Test.YtjojbfendkodgaaDoorCmc
import Derived.BigQuiet
namespace Go.Proofs.YtjojbfendkodgaaDoor
open Go.RowKit
set_option linter.unusedVariables false

def rrc (v : Value) (s : Rs) : List Value := [v, .int .i64 (s.at_ : Int), .int .i64 s.e, .int .i64 s.p]
/-- The document's reader stands as the program's: the same error at the same place, or the same place. -/
structure Sim (t s : Rs) : Prop where
  e : t.e = s.e
  ok : s.e = 0 → t = s
  no : s.e ≠ 0 → t.p = s.p
theorem Sim.refl (s : Rs) : Sim s s := ⟨rfl, fun _ => rfl, fun _ => rfl⟩
theorem Row.heap {k : IntKind} {w w' : World} {a : Option Addr} {l : List Int} (h : Row k w a l) (hh : w'.heap = w.heap) : Row k w' a l := by
  rcases h with h | ⟨x, h, hc⟩
  · exact .inl h
  · exact .inr ⟨x, h, fun i hi => by have := hc i hi; unfold World.cell? at this ⊢; rw [hh]; exact this⟩
def mayM (most : Int) (n : Int) : Bool := decide (n ≤ most)
def RnTo (gr : Nat) (v : Value) (l : List Int) (s : Rs) (er most : Int) (w : World) (e : Ending) (w' : World) : Prop := ∃ t', e = .returned (.int .i64 (wrap64 (rdV l s er (mayM most)).1)) ∧ Hid (Sim t' (rdV l s er (mayM most)).2) ∧ Hid (Blk w' gr 74 (rrc v t')) ∧ Hid (Upd (fun k => k = gr) w w')
set_option maxRecDepth 100000 in
set_option maxHeartbeats 8000000 in
theorem rnumber_any (gr : Nat) (av : Option Addr) (cv : Nat) (l : List Int) (t s : Rs) (most er : Int) (w : World) (hst : Hid (Sim t s)) (her : er ≠ 0) (hs : s.at_ ≤ l.length) (hlc : l.length ≤ cv) (hcv : cv ≤ 9223372036854775000) (hnil : av = none → cv = 0) (hby : Hid (Bys l)) (hrow : Hid (Row .u8 w av l)) (h : Hid (Blk w gr 74 (rrc (.slice av l.length cv) t))) :
    Calls Tryd.prog 37 #[.pointer (some ⟨gr, 0, none⟩), .int .u64 most, .int .i64 er] w (RnTo gr (.slice av l.length cv) l s er most w) := by
  by_cases he : s.e = 0
  case neg =>
    have e1 : rdV l s er (mayM most) = (0, s) := by unfold rdV; rw [if_neg he]
    have HE1 := hide_ e1
    have hte : t.e ≠ 0 := by rw [hst.out.e]; exact he
    have hb : (t.e != 0) = true := by simpa using hte
    have c2 := h.out.cell 2
    simp [rrc] at c2
    clear he hte e1
    go_enter Tryd.func37, Tryd.ntmps37
    go_wp2
    go_ret
    exact ⟨t, by rw [HE1.out, show wrap64 ((0 : Int), s).1 = 0 from w64 0 (by decide)]; rfl, by rw [HE1.out]; exact hst, h, hide_ (Upd.refl _ _)⟩
  obtain rfl := hst.out.ok he
  clear hst
  have hG := getF_le (l.drop t.at_)
  rw [List.length_drop] at hG
  have h64 := get_u64 (getF_R (l.drop t.at_)) (hby.out.drop _)
  have HV : Hid (rdV l t er (mayM most) = if (getF (l.drop t.at_)).2.2 = 0 then (if mayM most (getF (l.drop t.at_)).1 = true then ((getF (l.drop t.at_)).1, ⟨t.at_ + (getF (l.drop t.at_)).2.1, 0, t.p⟩) else (0, ⟨t.at_ + (getF (l.drop t.at_)).2.1, er, t.at_⟩)) else (0, ⟨t.at_ + (getF (l.drop t.at_)).2.1, (getF (l.drop t.at_)).2.2, (t.at_ + (getF (l.drop t.at_)).2.1 : Nat)⟩)) := hide_ (by unfold rdV; rw [if_pos he])
  have HGet : Hid (∀ (a' : Option Addr) (m' c' : Nat) w', Row .u8 w' a' (l.drop t.at_) → m' = l.length - t.at_ → m' ≤ c' → c' ≤ 9223372036854775000 → Calls Tryd.prog 61 #[.slice a' m' c'] w' fun e w'' => e = .returned (.tuple #[.int .u64 (getF (l.drop t.at_)).1, .int .i64 ((getF (l.drop t.at_)).2.1 : Nat), .int .i64 (getF (l.drop t.at_)).2.2]) ∧ w' = w'') := hide_ (fun a' m' c' w' hr' hm hmc hcm => by
    refine (rget_any a' m' c' (l.drop t.at_) w' (by rw [List.length_drop]; omega) hmc (by unfold maxLen; omega) hr' (hby.out.drop _)).mono ?_
    rintro e w' ⟨n, u, r, hR, rfl, rfl⟩
    rw [hR.getF]
    exact ⟨rfl, rfl⟩)
  have HRw : Hid (∀ aa, (av = none → aa = none) → (∀ x, av = some x → aa = if cv = t.at_ then some x else some (x.add t.at_)) → Row .u8 w aa (l.drop t.at_)) := hide_ (fun aa h0 h1 => by
    rcases hrow.out with ⟨q1, q2⟩ | ⟨x, q1, q2⟩
    · rw [h0 q1, q2]
      exact .inl ⟨rfl, by simp⟩
    · rw [h1 x q1]
      by_cases hz : l.length ≤ t.at_
      · rw [List.drop_eq_nil_of_le hz]
        split
        · exact .inr ⟨_, rfl, fun i hi => by simp at hi⟩
        · exact .inr ⟨_, rfl, fun i hi => by simp at hi⟩
      · obtain ⟨b, off, h3, -, -⟩ := hrow.out.open (by omega)
        have hx : x = ⟨b, off, none⟩ := by rw [q1] at h3; injection h3
        subst hx
        rw [if_neg (by omega), add_none]
        exact row_drop (a := av) (by rw [← q1]; exact hrow.out) t.at_)
  generalize getF (l.drop t.at_) = G at *
  obtain ⟨n, u, r⟩ := G
  simp only at HGet hG h64 HV
  simp only [Int.natCast_add] at HV
  have c0 := h.out.cell 0; have c1 := h.out.cell 1; have c2 := h.out.cell 2; have c3 := h.out.cell 3
  have fz := fun i => h.out.frozen i
  simp [rrc] at c0 c1 c2 c3
  have hteb : (t.e != 0) = false := by simpa using he
  have hle : (t.at_ : Int) ≤ l.length := by omega
  have hlcv : (l.length : Int) ≤ cv := by omega
  have Hhe := hide_ he
  clear he
  go_enter Tryd.func37, Tryd.ntmps37
  go_upto_region 3 with fail
  have HSS : Hid (∀ w' : World, w'.heap = w.heap → w'.cell? ⟨gr, 0, none⟩ = some (.slice av l.length cv) ∧ w'.cell? ⟨gr, 1, none⟩ = some (.int .i64 (t.at_ : Int))) := hide_ (fun w' hB => by
    have e : ∀ a, w'.cell? a = w.cell? a := fun a => by unfold World.cell?; rw [hB]
    exact ⟨(e _).trans c0, (e _).trans c1⟩)
  go_cut [7, 8, 9] from 15 to 28 (fun x7 x8 x9 wc => x7 = .int .u64 n ∧ x8 = .int .i64 (u : Int) ∧ x9 = .int .i64 r ∧ w.drew = wc)
  case first =>
    clear c2 c3
    cases av with
    | none =>
      obtain rfl := hnil rfl
      have hl0 : l.length = 0 := by omega
      have ht0 : t.at_ = 0 := by omega
      have hrr := HRw.out none (fun _ => rfl) (fun x hx => by cases hx)
      have HGt : Hid (∀ w' : World, w'.heap = w.heap → Calls Tryd.prog 61 #[.slice none 0 0] w' fun e w'' => e = .returned (.tuple #[.int .u64 n, .int .i64 (u : Int), .int .i64 r]) ∧ w' = w'') := hide_ (fun w' hB => HGet.out none 0 0 w' (hrr.heap hB) (by omega) (by omega) (by omega))
      rw [hl0, ht0] at HSS
      simp only [Int.natCast_zero] at HSS
      clear hrr c0 c1 HRw HGet
      --R1
      refine wp_region_last 16 (fun (w' : World) => w'.cell? ⟨gr, 0, none⟩ = some (.slice none 0 0) ∧ w'.cell? ⟨gr, 1, none⟩ = some (.int .i64 0)) (by kernel_rfl) (HSS.out _ rfl) (fun hHeld => ?_)
      refine wpAnyF_take [16] (by kernel_rfl) (i := 0) (v := ?vr11) rfl (by kernel_rfl) (by kernel_rfl) (by kernel_rfl) (fun _ _ _ h => h) (Or.inl ⟨by kernel_rfl, ?hyr11⟩) hHeld ?restr11
      case hyr11 => intro w' hSw; (try dsimp only at hSw); go_simp; try with_reducible rfl
      simp only [Act.put]
      refine wpAnyF_take [16] (by kernel_rfl) (i := 1) (v := ?vr12) rfl (by kernel_rfl) (by kernel_rfl) (by kernel_rfl) (fun _ _ _ h => h) (Or.inl ⟨by kernel_rfl, ?hyr12⟩) hHeld ?restr12
      case hyr12 => intro w' hSw; (try dsimp only at hSw); go_simp; try with_reducible rfl
      simp only [Act.put]
      refine wpAnyF_take [16] (by kernel_rfl) (i := 2) (v := ?vr13) rfl (by kernel_rfl) (by kernel_rfl) (by kernel_rfl) (fun _ _ _ h => h) (Or.inl ⟨by kernel_rfl, ?hyr13⟩) hHeld ?restr13
      case hyr13 => intro w' hSw; (try dsimp only at hSw); go_simp; try with_reducible rfl
      simp only [Act.put]
      refine wpAnyF_take [16] (by kernel_rfl) (i := 3) (v := ?vr14) rfl (by kernel_rfl) (by kernel_rfl) (by kernel_rfl) (fun _ _ _ h => h) (Or.inl ⟨by kernel_rfl, ?hyr14⟩) hHeld ?restr14
      case hyr14 => intro w' hSw; (try dsimp only at hSw); go_simp; try with_reducible rfl
      simp only [Act.put]
      refine wpAnyF_take [16] (by kernel_rfl) (i := 4) (v := ?vr15) rfl (by kernel_rfl) (by kernel_rfl) (by kernel_rfl) (fun _ _ _ h => h) (Or.inl ⟨by kernel_rfl, ?hyr15⟩) hHeld ?restr15
      case hyr15 => intro w' hSw; (try dsimp only at hSw); go_simp; try with_reducible rfl
      simp only [Act.put]
      refine wpAnyF_take [16] (by kernel_rfl) (i := 5) (v := ?vr16) rfl (by kernel_rfl) (by kernel_rfl) (by kernel_rfl) (fun _ _ _ h => h) (Or.inl ⟨by kernel_rfl, ?hyr16⟩) hHeld ?restr16
      case hyr16 => intro w' hSw; (try dsimp only at hSw); go_simp; try with_reducible rfl
      simp only [Act.put]
      refine wpAnyF_take [16] (by kernel_rfl) (i := 6) (v := ?vr17) rfl (by kernel_rfl) (by kernel_rfl) (by kernel_rfl) (fun _ _ _ h => h) (Or.inl ⟨by kernel_rfl, ?hyr17⟩) hHeld ?restr17
      case hyr17 => intro w' hSw; (try dsimp only at hSw); go_simp; try with_reducible rfl
      simp only [Act.put]
      refine wpAnyF_take [16] (by kernel_rfl) (i := 7) (v := ?vr18) rfl (by kernel_rfl) (by kernel_rfl) (by kernel_rfl) (fun _ _ _ h => h) (Or.inl ⟨by kernel_rfl, ?hyr18⟩) hHeld ?restr18
      case hyr18 => intro w' hSw; (try dsimp only at hSw); go_simp; try with_reducible rfl
      simp only [Act.put]
      refine wpAnyF_take [16] (by kernel_rfl) (i := 8) (v := ?vr19) rfl (by kernel_rfl) (by kernel_rfl) (by kernel_rfl) (fun _ _ _ h => h) (Or.inl ⟨by kernel_rfl, ?hyr19⟩) hHeld ?restr19
      case hyr19 => intro w' hSw; (try dsimp only at hSw); go_simp; try with_reducible rfl
      simp only [Act.put]
      refine wpAnyF_ready (rs := [9]) (by kernel_rfl) (by simp) ?_
      refine AllReadyF.cons rfl (fun K hK => ?_) AllReadyF.nil
      go_simp
      refine (HGt.out w.drew rfl).mono ?_
      rintro e wC ⟨rfl, rfl⟩
      dsimp only
      refine hK.out _ _ (HSS.out _ rfl) (fun hHeld => ?_)
      clear hK K
      refine wpAnyF_take [16] (by kernel_rfl) (i := 10) (v := ?vr110) rfl (by kernel_rfl) (by kernel_rfl) (by kernel_rfl) (fun _ _ _ h => h) (Or.inl ⟨by kernel_rfl, ?hyr110⟩) hHeld ?restr110
      case hyr110 => intro w' hSw; (try dsimp only at hSw); go_simp; try with_reducible rfl
      simp only [Act.put]
      refine wpAnyF_take [16] (by kernel_rfl) (i := 11) (v := ?vr111) rfl (by kernel_rfl) (by kernel_rfl) (by kernel_rfl) (fun _ _ _ h => h) (Or.inl ⟨by kernel_rfl, ?hyr111⟩) hHeld ?restr111
      case hyr111 => intro w' hSw; (try dsimp only at hSw); go_simp; try with_reducible rfl
      simp only [Act.put]
      refine wpAnyF_take [16] (by kernel_rfl) (i := 12) (v := ?vr112) rfl (by kernel_rfl) (by kernel_rfl) (by kernel_rfl) (fun _ _ _ h => h) (Or.inl ⟨by kernel_rfl, ?hyr112⟩) hHeld ?restr112
      case hyr112 => intro w' hSw; (try dsimp only at hSw); go_simp; try with_reducible rfl
      simp only [Act.put]
      refine wpAnyF_take [16] (by kernel_rfl) (i := 13) (v := ?vr113) rfl (by kernel_rfl) (by kernel_rfl) (by kernel_rfl) (fun _ _ _ h => h) (Or.inl ⟨by kernel_rfl, ?hyr113⟩) hHeld ?restr113
      case hyr113 => intro w' hSw; (try dsimp only at hSw); go_simp; try with_reducible rfl
      simp only [Act.put]
      refine wpAnyF_take [16] (by kernel_rfl) (i := 14) (v := ?vr114) rfl (by kernel_rfl) (by kernel_rfl) (by kernel_rfl) (fun _ _ _ h => h) (Or.inl ⟨by kernel_rfl, ?hyr114⟩) hHeld ?restr114
      case hyr114 => intro w' hSw; (try dsimp only at hSw); go_simp; try with_reducible rfl
      simp only [Act.put]
      refine wpAnyF_take [16] (by kernel_rfl) (i := 15) (v := ?vr115) rfl (by kernel_rfl) (by kernel_rfl) (by kernel_rfl) (fun _ _ _ h => h) (Or.inl ⟨by kernel_rfl, ?hyr115⟩) hHeld ?restr115
      case hyr115 => intro w' hSw; (try dsimp only at hSw); go_simp; try with_reducible rfl
      simp only [Act.put]
      refine wpAnyF_ready (rs := [16]) (by kernel_rfl) (by simp) ?_
      refine AllReadyF.last rfl (fun K hK => ?_)
      go_simp
      refine hK.out _ _ ?_
      clear hK K
      refine wpAnyF_done (by kernel_rfl) ?_ _
      go_wp2_with fail
      go_meet
      case rel => exact ⟨rfl, rfl, rfl, rfl⟩
      --/R1
    | some x =>
      obtain ⟨aa, haa⟩ : ∃ aa, (if cv = t.at_ then some x else some (x.add t.at_)) = aa := ⟨_, rfl⟩
      have hrr := HRw.out aa (fun h => by cases h) (fun y hy => by injection hy with hy; subst hy; exact haa.symm)
      have HGt : Hid (∀ (w' : World) (m' c' : Nat), w'.heap = w.heap → m' = l.length - t.at_ → m' ≤ c' → c' ≤ 9223372036854775000 → Calls Tryd.prog 61 #[.slice aa m' c'] w' fun e w'' => e = .returned (.tuple #[.int .u64 n, .int .i64 (u : Int), .int .i64 r]) ∧ w' = w'') := hide_ (fun w' m' c' hB h1 h2 h3 => HGet.out aa m' c' w' (hrr.heap hB) h1 h2 h3)
      clear hrr c0 c1 HRw HGet
      --R2
      refine wp_region_last 16 (fun (w' : World) => w'.cell? ⟨gr, 0, none⟩ = some (.slice (some x) l.length cv) ∧ w'.cell? ⟨gr, 1, none⟩ = some (.int .i64 (t.at_ : Int))) (by kernel_rfl) (HSS.out _ rfl) (fun hHeld => ?_)
      refine wpAnyF_take [16] (by kernel_rfl) (i := 0) (v := ?vr21) rfl (by kernel_rfl) (by kernel_rfl) (by kernel_rfl) (fun _ _ _ h => h) (Or.inl ⟨by kernel_rfl, ?hyr21⟩) hHeld ?restr21
      case hyr21 => intro w' hSw; (try dsimp only at hSw); go_simp; try with_reducible rfl
      simp only [Act.put]
      refine wpAnyF_take [16] (by kernel_rfl) (i := 1) (v := ?vr22) rfl (by kernel_rfl) (by kernel_rfl) (by kernel_rfl) (fun _ _ _ h => h) (Or.inl ⟨by kernel_rfl, ?hyr22⟩) hHeld ?restr22
      case hyr22 => intro w' hSw; (try dsimp only at hSw); go_simp; try with_reducible rfl
      simp only [Act.put]
      refine wpAnyF_take [16] (by kernel_rfl) (i := 2) (v := ?vr23) rfl (by kernel_rfl) (by kernel_rfl) (by kernel_rfl) (fun _ _ _ h => h) (Or.inl ⟨by kernel_rfl, ?hyr23⟩) hHeld ?restr23
      case hyr23 => intro w' hSw; (try dsimp only at hSw); go_simp; try with_reducible rfl
      simp only [Act.put]
      refine wpAnyF_take [16] (by kernel_rfl) (i := 3) (v := ?vr24) rfl (by kernel_rfl) (by kernel_rfl) (by kernel_rfl) (fun _ _ _ h => h) (Or.inl ⟨by kernel_rfl, ?hyr24⟩) hHeld ?restr24
      case hyr24 => intro w' hSw; (try dsimp only at hSw); go_simp; try with_reducible rfl
      simp only [Act.put]
      refine wpAnyF_take [16] (by kernel_rfl) (i := 4) (v := ?vr25) rfl (by kernel_rfl) (by kernel_rfl) (by kernel_rfl) (fun _ _ _ h => h) (Or.inl ⟨by kernel_rfl, ?hyr25⟩) hHeld ?restr25
      case hyr25 => intro w' hSw; (try dsimp only at hSw); go_simp; try with_reducible rfl
      simp only [Act.put]
      refine wpAnyF_take [16] (by kernel_rfl) (i := 5) (v := ?vr26) rfl (by kernel_rfl) (by kernel_rfl) (by kernel_rfl) (fun _ _ _ h => h) (Or.inl ⟨by kernel_rfl, ?hyr26⟩) hHeld ?restr26
      case hyr26 => intro w' hSw; (try dsimp only at hSw); go_simp; try with_reducible rfl
      simp only [Act.put]
      refine wpAnyF_take [16] (by kernel_rfl) (i := 6) (v := ?vr27) rfl (by kernel_rfl) (by kernel_rfl) (by kernel_rfl) (fun _ _ _ h => h) (Or.inl ⟨by kernel_rfl, ?hyr27⟩) hHeld ?restr27
      case hyr27 => intro w' hSw; (try dsimp only at hSw); go_simp; try with_reducible rfl
      simp only [Act.put]
      refine wpAnyF_take [16] (by kernel_rfl) (i := 7) (v := ?vr28) rfl (by kernel_rfl) (by kernel_rfl) (by kernel_rfl) (fun _ _ _ h => h) (Or.inl ⟨by kernel_rfl, ?hyr28⟩) hHeld ?restr28
      case hyr28 => intro w' hSw; (try dsimp only at hSw); go_simp; try with_reducible rfl
      simp only [Act.put]
      refine wpAnyF_take [16] (by kernel_rfl) (i := 8) (v := ?vr29) rfl (by kernel_rfl) (by kernel_rfl) (by kernel_rfl) (fun _ _ _ h => h) (Or.inl ⟨by kernel_rfl, ?hyr29⟩) hHeld ?restr29
      case hyr29 => intro w' hSw; (try dsimp only at hSw); go_simp; try with_reducible rfl
      simp only [Act.put]
      refine wpAnyF_ready (rs := [9]) (by kernel_rfl) (by simp) ?_
      refine AllReadyF.cons rfl (fun K hK => ?_) AllReadyF.nil
      go_simp
      refine (HGt.out w.drew _ _ rfl (by first | rfl | omega) (by omega) (by omega)).mono ?_
      rintro e wC ⟨rfl, rfl⟩
      dsimp only
      refine hK.out _ _ (HSS.out _ rfl) (fun hHeld => ?_)
      clear hK K
      refine wpAnyF_take [16] (by kernel_rfl) (i := 10) (v := ?vr210) rfl (by kernel_rfl) (by kernel_rfl) (by kernel_rfl) (fun _ _ _ h => h) (Or.inl ⟨by kernel_rfl, ?hyr210⟩) hHeld ?restr210
      case hyr210 => intro w' hSw; (try dsimp only at hSw); go_simp; try with_reducible rfl
      simp only [Act.put]
      refine wpAnyF_take [16] (by kernel_rfl) (i := 11) (v := ?vr211) rfl (by kernel_rfl) (by kernel_rfl) (by kernel_rfl) (fun _ _ _ h => h) (Or.inl ⟨by kernel_rfl, ?hyr211⟩) hHeld ?restr211
      case hyr211 => intro w' hSw; (try dsimp only at hSw); go_simp; try with_reducible rfl
      simp only [Act.put]
      refine wpAnyF_take [16] (by kernel_rfl) (i := 12) (v := ?vr212) rfl (by kernel_rfl) (by kernel_rfl) (by kernel_rfl) (fun _ _ _ h => h) (Or.inl ⟨by kernel_rfl, ?hyr212⟩) hHeld ?restr212
      case hyr212 => intro w' hSw; (try dsimp only at hSw); go_simp; try with_reducible rfl
      simp only [Act.put]
      refine wpAnyF_take [16] (by kernel_rfl) (i := 13) (v := ?vr213) rfl (by kernel_rfl) (by kernel_rfl) (by kernel_rfl) (fun _ _ _ h => h) (Or.inl ⟨by kernel_rfl, ?hyr213⟩) hHeld ?restr213
      case hyr213 => intro w' hSw; (try dsimp only at hSw); go_simp; try with_reducible rfl
      simp only [Act.put]
      refine wpAnyF_take [16] (by kernel_rfl) (i := 14) (v := ?vr214) rfl (by kernel_rfl) (by kernel_rfl) (by kernel_rfl) (fun _ _ _ h => h) (Or.inl ⟨by kernel_rfl, ?hyr214⟩) hHeld ?restr214
      case hyr214 => intro w' hSw; (try dsimp only at hSw); go_simp; try with_reducible rfl
      simp only [Act.put]
      refine wpAnyF_take [16] (by kernel_rfl) (i := 15) (v := ?vr215) rfl (by kernel_rfl) (by kernel_rfl) (by kernel_rfl) (fun _ _ _ h => h) (Or.inl ⟨by kernel_rfl, ?hyr215⟩) hHeld ?restr215
      case hyr215 => intro w' hSw; (try dsimp only at hSw); go_simp; try with_reducible rfl
      simp only [Act.put]
      refine wpAnyF_ready (rs := [16]) (by kernel_rfl) (by simp) ?_
      refine AllReadyF.last rfl (fun K hK => ?_)
      go_simp
      refine hK.out _ _ ?_
      clear hK K
      refine wpAnyF_done (by kernel_rfl) ?_ _
      go_wp2_with fail
      go_meet
      case rel => exact ⟨rfl, rfl, rfl, rfl⟩
      --/R2
  case rest =>
  obtain ⟨rfl, rfl, rfl, hwd⟩ := hcut
  rw [← hwd]
  clear hwd
  have K1 : Hid (Blk w.drew gr 74 (rrc (.slice av l.length cv) t)) := hide_ h.out.drew
  have hU1 : Hid (Upd (fun k => k = gr) w w.drew) := hide_ (Upd.refl _ w).drew
  generalize w.drew = w1 at *
  have c0 := K1.out.cell 0; have c1 := K1.out.cell 1; have c2 := K1.out.cell 2; have c3 := K1.out.cell 3
  have fz := fun i => K1.out.frozen i
  simp [rrc] at c0 c1 c2 c3
  by_cases hr0 : r = 0
  case neg =>
    have hrb : (r != 0) = true := by simpa using hr0
    rw [if_neg hr0] at HV
    obtain ⟨w2, hw2⟩ : ∃ wx, wx = w1.setCell ⟨gr, 2, none⟩ (.int .i64 r) := ⟨_, rfl⟩
    have K2 : Hid (Blk w2 gr 74 [.slice av l.length cv, .int .i64 (t.at_ : Int), .int .i64 r, .int .i64 t.p]) := hide_ (by rw [hw2]; have := K1.out.set 2 (.int .i64 r); simpa [rrc] using this)
    have hU2 : Hid (Upd (fun k => k = gr) w w2) := hide_ (by rw [hw2]; exact hU1.out.set ⟨gr, 2, none⟩ (.int .i64 r) (.inl rfl))
    go_upto_region 6 with fail
    rw [← hw2]
    clear hw2 c0 c1 c2 c3 fz
    have c0 := K2.out.cell 0; have c1 := K2.out.cell 1; have c2 := K2.out.cell 2; have c3 := K2.out.cell 3
    have fz := fun i => K2.out.frozen i
    simp at c0 c1 c2 c3
    have hK3 : Hid (Blk (w2.setCell ⟨gr, 3, none⟩ (.int .i64 ((t.at_ : Int) + u))) gr 74 (rrc (.slice av l.length cv) ⟨t.at_, r, (t.at_ : Int) + u⟩)) := hide_ (by have := K2.out.set 3 (.int .i64 ((t.at_ : Int) + u)); simpa [rrc] using this)
    have hU3 : Hid (Upd (fun k => k = gr) w (w2.setCell ⟨gr, 3, none⟩ (.int .i64 ((t.at_ : Int) + u)))) := hide_ (hU2.out.set ⟨gr, 3, none⟩ _ (.inl rfl))
    have HSm : Hid (Sim ⟨t.at_, r, (t.at_ : Int) + u⟩ (rdV l t er (mayM most)).2) := hide_ (by rw [HV.out]; exact ⟨rfl, fun h => absurd h hr0, fun _ => rfl⟩)
    have HVv : Hid (wrap64 (rdV l t er (mayM most)).1 = 0) := hide_ (by rw [HV.out]; exact w64 0 (by decide))
    clear hr0
    go_wp2
    go_ret
    exact ⟨_, by rw [HVv.out]; rfl, HSm, hK3, hU3⟩
  subst hr0
  rw [if_pos rfl] at HV
  by_cases hmy : n ≤ most
  case neg =>
    have hmy' : most < n := by omega
    have hmf : mayM most n = false := decide_eq_false hmy
    rw [hmf, if_neg (by simp)] at HV
    obtain ⟨w2, hw2⟩ : ∃ wx, wx = w1.setCell ⟨gr, 2, none⟩ (.int .i64 er) := ⟨_, rfl⟩
    have K2 : Hid (Blk w2 gr 74 [.slice av l.length cv, .int .i64 (t.at_ : Int), .int .i64 er, .int .i64 t.p]) := hide_ (by rw [hw2]; have := K1.out.set 2 (.int .i64 er); simpa [rrc] using this)
    have hU2 : Hid (Upd (fun k => k = gr) w w2) := hide_ (by rw [hw2]; exact hU1.out.set ⟨gr, 2, none⟩ (.int .i64 er) (.inl rfl))
    go_upto_region 10 with fail
    rw [← hw2]
    clear hw2 c0 c1 c2 c3 fz
    have c0 := K2.out.cell 0; have c1 := K2.out.cell 1; have c2 := K2.out.cell 2; have c3 := K2.out.cell 3
    have fz := fun i => K2.out.frozen i
    simp at c0 c1 c2 c3
    have hK3 : Hid (Blk (w2.setCell ⟨gr, 3, none⟩ (.int .i64 (t.at_ : Int))) gr 74 (rrc (.slice av l.length cv) ⟨t.at_, er, (t.at_ : Int)⟩)) := hide_ (by have := K2.out.set 3 (.int .i64 (t.at_ : Int)); simpa [rrc] using this)
    have hU3 : Hid (Upd (fun k => k = gr) w (w2.setCell ⟨gr, 3, none⟩ (.int .i64 (t.at_ : Int)))) := hide_ (hU2.out.set ⟨gr, 3, none⟩ _ (.inl rfl))
    have HSm : Hid (Sim ⟨t.at_, er, (t.at_ : Int)⟩ (rdV l t er (mayM most)).2) := hide_ (by rw [HV.out]; exact ⟨rfl, fun h => absurd h her, fun _ => rfl⟩)
    have HVv : Hid (wrap64 (rdV l t er (mayM most)).1 = 0) := hide_ (by rw [HV.out]; exact w64 0 (by decide))
    clear hmy hmf
    go_wp2
    go_ret
    exact ⟨_, by rw [HVv.out]; rfl, HSm, hK3, hU3⟩
  have hmy' : ¬ most < n := by omega
  have hmf : mayM most n = true := decide_eq_true hmy
  rw [hmf, if_pos rfl] at HV
  have hK3 : Hid (Blk (w1.setCell ⟨gr, 1, none⟩ (.int .i64 ((t.at_ : Int) + u))) gr 74 (rrc (.slice av l.length cv) ⟨t.at_ + u, 0, t.p⟩)) := hide_ (by
    have := K1.out.set 1 (.int .i64 ((t.at_ : Int) + u))
    simp only [rrc, List.set_cons_succ, List.set_cons_zero] at this ⊢
    rw [Hhe.out] at this
    simpa using this)
  have hU3 : Hid (Upd (fun k => k = gr) w (w1.setCell ⟨gr, 1, none⟩ (.int .i64 ((t.at_ : Int) + u)))) := hide_ (hU1.out.set ⟨gr, 1, none⟩ _ (.inl rfl))
  have HSm : Hid (Sim ⟨t.at_ + u, 0, t.p⟩ (rdV l t er (mayM most)).2) := hide_ (by rw [HV.out]; exact Sim.refl _)
  have HVv : Hid ((rdV l t er (mayM most)).1 = n) := hide_ (by rw [HV.out])
  clear hmy hmf
  go_wp2
  go_ret
  exact ⟨_, by rw [HVv.out]; rfl, HSm, hK3, hU3⟩
end Go.Proofs.YtjojbfendkodgaaDoor
