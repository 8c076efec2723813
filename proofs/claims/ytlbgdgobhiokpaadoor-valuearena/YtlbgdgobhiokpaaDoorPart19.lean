import Derived.Test.YtlbgdgobhiokpaaDoorPart18
import Derived.Test.YtlbgdgobhiokpaaDoorPart12
import Derived.Deep.RegionHeldLaw
import Derived.Test.YtlbgdgobhiokpaaDoorPart01
import Derived.ProofKit
import Derived.OpenShut
import Derived.ShutString
import Derived.ChangeOld
import Derived.Deep.Slices

/- ValueArena: the walk. -/
namespace Go.Proofs.YtlbgdgobhiokpaaDoor
open Go.RowKit
set_option linter.unusedVariables false

/-- Which, look, parent, kid, kind, number. -/
abbrev Stp := Bool × Bool × Int × Int × Int × Int
def stp0 : Stp := (false, false, 0, 0, 0, 0)
def stpC (x : Stp) : List Value := [.bool x.1, .bool x.2.1, .int .i64 x.2.2.1, .int .i64 x.2.2.2.1, .int .i64 x.2.2.2.2.1, .int .u64 x.2.2.2.2.2]
def SRaw (w : World) (a : Option Addr) (L : List Stp) : Prop := L = [] ∨ ∃ b off, a = some ⟨b, off, none⟩ ∧ b < w.heap.size ∧ ∀ i, i < L.length → ∀ j, j < 6 → w.cell? ⟨b, off + i * 6 + j, none⟩ = (stpC (L.getD i stp0))[j]?
def FitsS (x : Stp) : Prop := InR x.2.2.1 ∧ InR x.2.2.2.1 ∧ InR x.2.2.2.2.1 ∧ 0 ≤ x.2.2.2.2.2 ∧ x.2.2.2.2.2 ≤ 18446744073709551615
theorem SRaw.later {w w' : World} {a : Option Addr} {L : List Stp} (h : SRaw w a L) (hB : Below w.heap.size w w') : SRaw w' a L := by
  rcases h with h | ⟨b, off, e, hb, hc⟩
  · exact .inl h
  · exact .inr ⟨b, off, e, Nat.lt_of_lt_of_le hb hB.size, fun i hi j hj => (hB.cell (p := ⟨b, off + i * 6 + j, none⟩) hb).trans (hc i hi j hj)⟩
/-- The eight new blocks. -/
def wBeg (w3 : World) (b0 b1 : Nat) : World :=
  ((((w3.alloc (.cells #[.pointer (some ⟨b0, 0, none⟩), .pointer (some ⟨b1, 0, none⟩)] 60)).alloc (.cells #[.slice none 0 0] 64)).alloc (.cells #[.slice none 0 0] 64)).alloc (.cells #[.pointer (some ⟨w3.heap.size + 1, 0, none⟩), .pointer (some ⟨w3.heap.size + 2, 0, none⟩)] 65))
theorem wBeg_is (w3 : World) (b0 b1 : Nat) : (wBeg w3 b0 b1).heap.size = w3.heap.size + 4 ∧ Below w3.heap.size w3 (wBeg w3 b0 b1) ∧ Blk (wBeg w3 b0 b1) w3.heap.size 60 [ptr b0, ptr b1] ∧ Blk (wBeg w3 b0 b1) (w3.heap.size + 1) 64 [.slice none 0 0] ∧ Blk (wBeg w3 b0 b1) (w3.heap.size + 2) 64 [.slice none 0 0] ∧ Blk (wBeg w3 b0 b1) (w3.heap.size + 3) 65 [ptr (w3.heap.size + 1), ptr (w3.heap.size + 2)] := by
  unfold wBeg
  obtain ⟨x1, h1⟩ : ∃ x, x = w3.alloc (.cells #[.pointer (some ⟨b0, 0, none⟩), .pointer (some ⟨b1, 0, none⟩)] 60) := ⟨_, rfl⟩
  have k1 := Blk.newA w3 #[.pointer (some ⟨b0, 0, none⟩), .pointer (some ⟨b1, 0, none⟩)] 60
  have s1 : x1.heap.size = w3.heap.size + 1 := by rw [h1]; simp
  have y1 : Below w3.heap.size w3 x1 := by rw [h1]; exact (Below.refl _ _).alloc (Nat.le_refl _) _
  rw [← h1] at k1 ⊢
  obtain ⟨x2, h2⟩ : ∃ x, x = x1.alloc (.cells #[.slice none 0 0] 64) := ⟨_, rfl⟩
  have k2 := Blk.newA x1 #[.slice none 0 0] 64
  have s2 : x2.heap.size = w3.heap.size + 2 := by rw [h2]; simp; omega
  have y2 : Below x1.heap.size x1 x2 := by rw [h2]; exact (Below.refl _ _).alloc (Nat.le_refl _) _
  rw [← h2] at k2 ⊢
  obtain ⟨x3, h3⟩ : ∃ x, x = x2.alloc (.cells #[.slice none 0 0] 64) := ⟨_, rfl⟩
  have k3 := Blk.newA x2 #[.slice none 0 0] 64
  have s3 : x3.heap.size = w3.heap.size + 3 := by rw [h3]; simp; omega
  have y3 : Below x2.heap.size x2 x3 := by rw [h3]; exact (Below.refl _ _).alloc (Nat.le_refl _) _
  rw [← h3] at k3 ⊢
  have k4 := Blk.newA x3 #[.pointer (some ⟨w3.heap.size + 1, 0, none⟩), .pointer (some ⟨w3.heap.size + 2, 0, none⟩)] 65
  obtain ⟨x4, h4⟩ : ∃ x, x = x3.alloc (.cells #[.pointer (some ⟨w3.heap.size + 1, 0, none⟩), .pointer (some ⟨w3.heap.size + 2, 0, none⟩)] 65) := ⟨_, rfl⟩
  have s4 : x4.heap.size = w3.heap.size + 4 := by rw [h4]; simp; omega
  have y4 : Below x3.heap.size x3 x4 := by rw [h4]; exact (Below.refl _ _).alloc (Nat.le_refl _) _
  rw [← h4] at k4 ⊢
  rw [s1] at k2
  rw [s2] at k3
  rw [s3] at k4
  have y34 := below_to y3 y4
  have y24 := below_to y2 y34
  exact ⟨s4, below_to y1 y24, k1.later y24, k2.later y34, k3.later y4, k4⟩
set_option maxRecDepth 100000 in
set_option maxHeartbeats 16000000 in
theorem arena_any (a : Option Addr) (len cap : Nat) (L : List Stp) (w : World) (hl : Hid (L.length = len)) (hm : len ≤ 9223372036854775807) (hr : Hid (SRaw w a L)) (hf : Hid (∀ x ∈ L, FitsS x)) (ht : Hid (Tab w.heap.size w)) :
    Calls Tryd.prog 7 #[.slice a len cap] w fun e w' => e = .returned (.bool true) ∧ Below w.heap.size w w' := by
  go_enter Tryd.func7, Tryd.ntmps7
  go_wp2_with fail
  refine (awake_any w ht).mono ?_; rintro e w1 ⟨rfl, hB1⟩
  have HB1 := hide_ hB1
  clear hB1 ht
  go_wp2_with fail
  refine (newA_any w1).mono ?_; rintro e w2 ⟨rfl, HA2, hB2⟩
  go_wp2_with fail
  refine (newA_any w2).mono ?_; rintro e w3 ⟨rfl, HA3, hB3⟩
  have K0 := hide_ (HA2.out.blk.later hB3)
  have K1 := hide_ HA3.out.blk
  have HB3 : Hid (Below w1.heap.size w1 w3) := hB2.trans (hB3.mono hB2.size)
  have l1 := HA2.out.blk.lt
  have l2 := HA3.out.blk.lt
  obtain ⟨h4s, h4b, h4p, h4r, h4q, h4x⟩ := wBeg_is w3 w1.heap.size w2.heap.size
  obtain ⟨w4, hw4⟩ : ∃ w4, w4 = wBeg w3 w1.heap.size w2.heap.size := ⟨_, rfl⟩
  rw [← hw4] at h4s h4b h4p h4r h4q h4x
  obtain ⟨w5, hw5⟩ : ∃ w5, w5 = w4.alloc (.cells #[.slice none 0 0, .slice none 0 0, .slice none 0 0, .slice none 0 0] 70) := ⟨_, rfl⟩
  have h5b : Below w4.heap.size w4 w5 := by rw [hw5]; exact (Below.refl _ _).alloc (Nat.le_refl _) _
  have h5k : Blk w5 w4.heap.size 70 [.slice none 0 0, .slice none 0 0, .slice none 0 0, .slice none 0 0] := by rw [hw5]; exact Blk.newA w4 _ 70
  have hT := Tb.begin (B := w1.heap.size) (K0.out.later (below_to h4b h5b)) (K1.out.later (below_to h4b h5b)) (h4p.later h5b) (h4r.later h5b) (h4q.later h5b) (h4x.later h5b) h5k (Nat.le_refl _) l1 l2 (by omega) (by omega) (by omega) (by omega)
  have HT0 := hide_ hT
  have HB5 : Hid (Below w1.heap.size w1 w5) := HB3.out.trans ((below_to h4b h5b).mono HB3.out.size)
  have d0 : w4.cell? ⟨w3.heap.size, 0, none⟩ = some (.pointer (some ⟨w1.heap.size, 0, none⟩)) := h4p.cell 0
  have d1 : w4.cell? ⟨w3.heap.size, 1, none⟩ = some (.pointer (some ⟨w2.heap.size, 0, none⟩)) := h4p.cell 1
  rw [h4s] at HT0
  have H4s := hide_ h4s
  clear HA2 HA3 hB2 hB3 hT h4s h4b h4p h4r h4q h4x h5b h5k K0 K1 l1 l2 HB3
  go_upto_region 5 with fail
  rw [show w3.heap.size + 1 + 1 = w3.heap.size + 2 from rfl]
  unfold wBeg at hw4
  rw [← hw4]
  clear hw4
  go_upto_region 8 with fail
  rw [← hw5, H4s.out]
  clear hw5 H4s d0 d1
  rw [show w3.heap.size + 2 + 1 = w3.heap.size + 3 from rfl]
  have HR1 := hide_ (hr.out.later HB1.out)
  obtain ⟨B, hB⟩ : ∃ B, w1.heap.size = B := ⟨_, rfl⟩
  obtain ⟨bp, hbp⟩ : ∃ bp, w3.heap.size = bp := ⟨_, rfl⟩
  rw [hbp] at HT0 ⊢
  have HBs := hide_ hB
  rw [hB] at HT0 HB5
  obtain ⟨br, hbr⟩ : ∃ br, bp + 3 = br := ⟨_, rfl⟩
  obtain ⟨bt, hbt⟩ : ∃ bt, bp + 4 = bt := ⟨_, rfl⟩
  rw [hbr, hbt] at HT0 ⊢
  have HN0 : Hid (∀ W, W < 2 → ((fun W => if W = 0 then (⟨B, .slice none 0 0, .slice none 0 0, .map none, [], [], []⟩ : AD) else ⟨w2.heap.size, .slice none 0 0, .slice none 0 0, .map none, [], [], []⟩) W).N.length ≤ 0) := fun W _ => by
    simp only
    split <;> simp
  clear hB hbp hbr hbt hr
  go_wp2_with fail
  go_loopw [6] (fun xi wr => ∃ (i : Nat) (A : Nat → AD) (R : Nat → RD) (K : BD), xi = .int .i64 i ∧ i ≤ len ∧ i ≤ 200 ∧ Hid (Tb B wr A R K bp br) ∧ Hid (∀ W, W < 2 → (A W).N.length ≤ i) ∧ Hid (K.N ≤ 2 * i ∧ K.bt = bt) ∧ Hid (Below B w1 wr)) (fun xi _ => 200 - (intOf xi).toNat)
  case atStart => exact ⟨0, _, _, _, rfl, Nat.zero_le _, Nat.zero_le _, HT0, HN0, ⟨Nat.zero_le _, rfl⟩, HB5⟩
  case round =>
    clear HT0 HN0 HB5
    obtain ⟨i, A, R, K, rfl, hi1, hi2, HT, HN, HK, HB⟩ := hrel
    by_cases hlt : i < len ∧ i < 200
    · obtain ⟨hlt1, hlt2⟩ := hlt
      have hlt1' : (i : Int) < len := by omega
      have hlt2' : (i : Int) < 200 := by omega
      have hiL : i < L.length := by rw [hl.out]; exact hlt1
      have HRr : SRaw wr a L := HR1.out.later (by rw [HBs.out]; exact HB.out)
      rcases HRr with h | ⟨b, off, rfl, hb, hc⟩
      · rw [h] at hiL; simp at hiL
      have hfx := hf.out (L.getD i stp0) (by rw [List.getD_eq_getElem?_getD, List.getElem?_eq_getElem hiL]; exact List.getElem_mem hiL)
      have hc0 := hc i hiL 0 (by omega)
      have hc1 := hc i hiL 1 (by omega)
      have hc2 := hc i hiL 2 (by omega)
      have hc3 := hc i hiL 3 (by omega)
      have hc4 := hc i hiL 4 (by omega)
      have hc5 := hc i hiL 5 (by omega)
      obtain ⟨x, hx⟩ : ∃ x, L.getD i stp0 = x := ⟨_, rfl⟩
      rw [hx] at hfx hc0 hc1 hc2 hc3 hc4 hc5
      obtain ⟨wh, lk, p, q, kd, n⟩ := x
      obtain ⟨f1, f2, f3, f4, f5⟩ := hfx
      simp only at f1 f2 f3 f4 f5
      have e0 : wr.cell? ⟨b, off + i * 6, none⟩ = some (.bool wh) := hc0
      have e1 : wr.cell? ⟨b, off + i * 6 + 1, none⟩ = some (.bool lk) := hc1
      have e2 : wr.cell? ⟨b, off + i * 6 + 2, none⟩ = some (.int .i64 p) := hc2
      have e3 : wr.cell? ⟨b, off + i * 6 + 3, none⟩ = some (.int .i64 q) := hc3
      have e4 : wr.cell? ⟨b, off + i * 6 + 4, none⟩ = some (.int .i64 kd) := hc4
      have e5 : wr.cell? ⟨b, off + i * 6 + 5, none⟩ = some (.int .u64 n) := hc5
      obtain ⟨wA, hwA⟩ : ∃ wA, wA = wr.alloc (.cells #[.bool wh, .bool lk, .int .i64 p, .int .i64 q, .int .i64 kd, .int .u64 n] 72) := ⟨_, rfl⟩
      have KS := Blk.newA wr #[.bool wh, .bool lk, .int .i64 p, .int .i64 q, .int .i64 kd, .int .u64 n] 72
      rw [← hwA] at KS
      have hBA : Below wr.heap.size wr wA := by rw [hwA]; exact (Below.refl _ _).alloc (Nat.le_refl _) _
      have HTA := hide_ (HT.out.later hBA)
      have HBA : Hid (Below B w1 wA) := HB.out.trans (hBA.mono HT.out.base)
      have HKS : Hid (Blk wA wr.heap.size 72 [.bool wh, .bool lk, .int .i64 p, .int .i64 q, .int .i64 kd, .int .u64 n]) := KS
      obtain ⟨bs, hbs⟩ : ∃ bs, wr.heap.size = bs := ⟨_, rfl⟩
      have HSs : Hid (∀ c, c < 7 → ¬ (famA B A R K bp br [ptr (A 0).b, ptr (A 1).b] [ptr (R 0).b, ptr (R 1).b] c).foot bs) := fun c hc hf => by
        have := (HT.out.sep.lt c hc bs hf).2
        omega
      clear hc hc0 hc1 hc2 hc3 hc4 hc5 hx KS hBA HT HB
      go_upto_region 12 with fail
      rw [← hwA]
      rw [hbs] at HKS
      clear hwA hbs e0 e1 e2 e3 e4 e5
      have s0 : wA.cell? ⟨bs, 0, none⟩ = some (.bool wh) := HKS.out.cell 0
      go_upto_if 54 with fail
      go_cut [8] from 53 to 54 (fun x8 wc => ∃ W : Nat, x8 = .int .i64 W ∧ W < 2 ∧ wA = wc)
      case first =>
        cases wh
        · go_wp2
          go_meet
          case rel => exact ⟨0, rfl, by omega, rfl⟩
        · go_wp2
          go_meet
          case rel => exact ⟨1, rfl, by omega, rfl⟩
      case rest =>
        obtain ⟨W, rfl, hW, rfl⟩ := hcut
        have hW' : (W : Int) < 2 := by omega
        have hNW := HN.out W hW
        obtain ⟨P1, P2, P3, P4⟩ := HTA.out.pl W hW
        clear s0
        have s1 : wA.cell? ⟨bs, 1, none⟩ = some (.bool lk) := HKS.out.cell 1
        cases lk with
        | false =>
          have hGl := P1.gl
          have hSl := P1.len
          have hRl := P2.len
          have hEE := addE_is P1 P2 p q kd n
          obtain ⟨HAn, HRa⟩ : Hid (An B wA (A W).b (A W).vn (A W).vs (A W).vm (A W).N (A W).S (A W).G) ∧ Hid (RA B wA (R W).b (R W).vl (R W).R) := ⟨HTA.out.an W hW, HTA.out.ra W hW⟩
          have HAd : Hid (An B wA.drew (A W).b (A W).vn (A W).vs (A W).vm (A W).N (A W).S (A W).G) := HAn.out.drew
          have g0 : wA.cell? ⟨bp, W, none⟩ = some (.pointer (some ⟨(A W).b, 0, none⟩)) := HTA.out.pc W hW
          have g2 : wA.cell? ⟨bs, 2, none⟩ = some (.int .i64 p) := HKS.out.cell 2
          have g3 : wA.cell? ⟨bs, 3, none⟩ = some (.int .i64 q) := HKS.out.cell 3
          have g4 : wA.cell? ⟨bs, 4, none⟩ = some (.int .i64 kd) := HKS.out.cell 4
          have g5 : wA.cell? ⟨bs, 5, none⟩ = some (.int .u64 n) := HKS.out.cell 5
          have G5 : wA.cell? ⟨bp, W, none⟩ = some (.pointer (some ⟨(A W).b, 0, none⟩)) ∧ wA.cell? ⟨bs, 2, none⟩ = some (.int .i64 p) ∧ wA.cell? ⟨bs, 3, none⟩ = some (.int .i64 q) ∧ wA.cell? ⟨bs, 4, none⟩ = some (.int .i64 kd) ∧ wA.cell? ⟨bs, 5, none⟩ = some (.int .u64 n) := ⟨g0, g2, g3, g4, g5⟩
          clear g0 g2 g3 g4 g5
          by_cases hE : addGE (A W).N (A W).G p q kd n = 0
          ·
            have hcon := addG_ok B (A W).b p q kd n _ _ _ (A W).N (A W).S (A W).G wA.drew HAd (by omega) (by omega) (by omega) f2 hE (fun h0 => by
              have href : refuseG (A W).N (A W).G p q = 0 := by
                unfold addGE at hE
                split at hE
                · exact hE
                · omega
              obtain ⟨r1, r2, -, -, -, -⟩ := refuseG_zero href h0
              exact P1.pos _ (by omega))
            have hconR := fun w' (h : Hid (RA B w' (R W).b (R W).vl (R W).R)) => addD_ok B (R W).b p q kd n (R W).vl (R W).R w' h (by omega) ⟨f4, f5⟩ (hEE.trans hE)
            rw [hRl] at hconR
            unfold pairv at hcon hconR
            obtain ⟨ln, hln⟩ : ∃ ln, (A W).N.length = ln := ⟨_, rfl⟩
            rw [hln] at hcon hconR hNW
            have HCon := hide_ hcon
            have HConR := hide_ hconR
            have Hln := hide_ hln
            have HE := hide_ hE
            clear hcon hconR hln hE hEE hGl hSl hRl P1 P2 P3 P4 HAd
            go_wp2_with fail
            go_region_held_law (fun w' => w'.cell? ⟨bp, W, none⟩ = some (.pointer (some ⟨(A W).b, 0, none⟩)) ∧ w'.cell? ⟨bs, 2, none⟩ = some (.int .i64 p) ∧ w'.cell? ⟨bs, 3, none⟩ = some (.int .i64 q) ∧ w'.cell? ⟨bs, 4, none⟩ = some (.int .i64 kd) ∧ w'.cell? ⟨bs, 5, none⟩ = some (.int .u64 n)) (first | assumption | exact G5)
              ((go_at_call 24; refine HCon.out.mono ?_; rintro e w6 ⟨rfl, vn6, vs6, vm6, HA6, HM6⟩;
                have HS6 := hide_ ((HTA.out.later ((Below.refl _ _).drew)).seta W hW HA6.out HM6.out);
                have HKS6 := hide_ (HM6.out.blk HKS.out.drew (fun h => HSs.out W (by omega) (by unfold famA; rw [if_pos hW]; exact h)));
                have G6 : w6.cell? ⟨bp, W, none⟩ = some (.pointer (some ⟨(A W).b, 0, none⟩)) ∧ w6.cell? ⟨bs, 2, none⟩ = some (.int .i64 p) ∧ w6.cell? ⟨bs, 3, none⟩ = some (.int .i64 q) ∧ w6.cell? ⟨bs, 4, none⟩ = some (.int .i64 kd) ∧ w6.cell? ⟨bs, 5, none⟩ = some (.int .u64 n) := ⟨sep_pc HS6.out W hW, HKS6.out.cell 2, HKS6.out.cell 3, HKS6.out.cell 4, HKS6.out.cell 5⟩))
            have HBM6 : Hid (Below B w1 w6) := HBA.out.drew.trans (HM6.out.upd.below B HTA.out.base fun k hk => (HAn.out.feet hk).1)
            have HSd := hide_ (HS6.out.later ((Below.refl w6.heap.size w6).drew))
            have HRd := hide_ (sep_ra HSd.out W hW)
            have G7 : w6.cell? ⟨br, W, none⟩ = some (.pointer (some ⟨(R W).b, 0, none⟩)) ∧ w6.cell? ⟨bs, 2, none⟩ = some (.int .i64 p) ∧ w6.cell? ⟨bs, 3, none⟩ = some (.int .i64 q) ∧ w6.cell? ⟨bs, 4, none⟩ = some (.int .i64 kd) ∧ w6.cell? ⟨bs, 5, none⟩ = some (.int .u64 n) := ⟨sep_rc HS6.out W hW, HKS6.out.cell 2, HKS6.out.cell 3, HKS6.out.cell 4, HKS6.out.cell 5⟩
            clear HCon G5 G6 HAn HRa HA6 HM6 s1
            go_wp2_with fail
            go_region_held_law (fun w' => w'.cell? ⟨br, W, none⟩ = some (.pointer (some ⟨(R W).b, 0, none⟩)) ∧ w'.cell? ⟨bs, 2, none⟩ = some (.int .i64 p) ∧ w'.cell? ⟨bs, 3, none⟩ = some (.int .i64 q) ∧ w'.cell? ⟨bs, 4, none⟩ = some (.int .i64 kd) ∧ w'.cell? ⟨bs, 5, none⟩ = some (.int .u64 n)) (first | assumption | exact G7)
              ((go_at_call 27; refine (HConR.out _ HRd).mono ?_; rintro e w7 ⟨rfl, vl7, HR7, HU7, HF7⟩;
                have HS7 := hide_ (HSd.out.setr W hW HR7.out HU7.out HF7.out);
                have HKS7 := hide_ (HKS6.out.drew.upd HU7.out (fun h => HSs.out (W + 2) (by omega) (by unfold famA; rw [if_neg (by omega), if_pos (by omega), Nat.add_sub_cancel]; exact h)));
                have G8 : w7.cell? ⟨br, W, none⟩ = some (.pointer (some ⟨(R W).b, 0, none⟩)) ∧ w7.cell? ⟨bs, 2, none⟩ = some (.int .i64 p) ∧ w7.cell? ⟨bs, 3, none⟩ = some (.int .i64 q) ∧ w7.cell? ⟨bs, 4, none⟩ = some (.int .i64 kd) ∧ w7.cell? ⟨bs, 5, none⟩ = some (.int .u64 n) := ⟨sep_rc HS7.out W hW, HKS7.out.cell 2, HKS7.out.cell 3, HKS7.out.cell 4, HKS7.out.cell 5⟩))
            have HBM7 : Hid (Below B w1 w7) := HBM6.out.drew.trans (HU7.out.below B (by have := HTA.out.base; have := HBM6.out.size; have := HBs.out; show B ≤ w6.heap.size; omega) fun k hk => (HRd.out.feet hk).1)
            have HT7 := hide_ (HTA.out.added W hW ⟨f4, f5⟩ HE.out HS7.out)
            have HN7 : Hid (∀ V, V < 2 → ((ext A W ⟨(A W).b, vn6, vs6, vm6, addN1 (A W).N (A W).G p q kd n, (A W).S ++ [(p, q)], addG1 (A W).N (A W).G p q⟩) V).N.length ≤ i + 1) := fun V hV => by
              by_cases e : V = W
              · subst e
                rw [ext_at]
                show (addN1 _ _ _ _ _ _).length ≤ _
                rw [addN1_len, Hln.out]
                omega
              · rw [ext_ne _ _ _ _ e]
                exact Nat.le_succ_of_le (HN.out V hV)
            have HK7 : Hid (K.N ≤ 2 * (i + 1) ∧ K.bt = bt) := ⟨by have := HK.out.1; omega, HK.out.2⟩
            clear HConR G7 G8 HSd HRd HS6 HKS6 HR7 HU7 HF7 HS7 HKS7 HBM6 HTA HBA
            have e8 : ((ln : Int) != (ln : Int)) = false := by simp
            go_wp2_with (go_at_call 13; refine (num_any _ _).mono ?_; rintro e w' ⟨rfl, rfl⟩)
            go_roundw
            case rel => exact ⟨i + 1, _, _, K, by go_num, by omega, by omega, HT7, HN7, HK7, HBM7⟩
            case measure => simp [intOf]; omega
          ·
            have hcon := addG_err B (A W).b p q kd n _ _ _ (A W).N (A W).S (A W).G wA.drew HAd (by omega) f2 hE
            have hconR := fun w' (h : Hid (RA B w' (R W).b (R W).vl (R W).R)) => addD_err B (R W).b p q kd n (R W).vl (R W).R w' h (by omega) ⟨f4, f5⟩ (by rw [hEE]; exact hE)
            rw [hEE] at hconR
            unfold pairv at hcon hconR
            obtain ⟨c, hc⟩ : ∃ c, addGE (A W).N (A W).G p q kd n = c := ⟨_, rfl⟩
            rw [hc] at hcon hconR
            have HCon := hide_ hcon
            have HConR := hide_ hconR
            clear hcon hconR hc hE hEE hGl hSl hRl P1 P2 P3 P4 HAd
            have HSS : Hid (∀ w', Below wA.heap.size wA w' → w'.cell? ⟨bp, W, none⟩ = some (.pointer (some ⟨(A W).b, 0, none⟩)) ∧ w'.cell? ⟨bs, 2, none⟩ = some (.int .i64 p) ∧ w'.cell? ⟨bs, 3, none⟩ = some (.int .i64 q) ∧ w'.cell? ⟨bs, 4, none⟩ = some (.int .i64 kd) ∧ w'.cell? ⟨bs, 5, none⟩ = some (.int .u64 n)) := fun w' hB => ⟨(HTA.out.later hB).pc W hW, (HKS.out.later hB).cell 2, (HKS.out.later hB).cell 3, (HKS.out.later hB).cell 4, (HKS.out.later hB).cell 5⟩
            go_wp2_with fail
            go_region_held_law (fun w' => w'.cell? ⟨bp, W, none⟩ = some (.pointer (some ⟨(A W).b, 0, none⟩)) ∧ w'.cell? ⟨bs, 2, none⟩ = some (.int .i64 p) ∧ w'.cell? ⟨bs, 3, none⟩ = some (.int .i64 q) ∧ w'.cell? ⟨bs, 4, none⟩ = some (.int .i64 kd) ∧ w'.cell? ⟨bs, 5, none⟩ = some (.int .u64 n)) (first | assumption | exact G5)
              ((go_at_call 24; refine HCon.out.mono ?_; rintro e w6 ⟨rfl, hB6⟩;
                have HB6 := hide_ (((Below.refl wA.heap.size wA).drew).trans hB6); have G6 := HSS.out w6 HB6.out; clear hB6))
            have HT6 := hide_ (HTA.out.later HB6.out)
            have HBM6 : Hid (Below B w1 w6) := HBA.out.trans (HB6.out.mono HTA.out.base)
            have HRd : Hid (RA B w6.drew (R W).b (R W).vl (R W).R) := (HT6.out.ra W hW).later ((Below.refl _ _).drew)
            have G7 : w6.cell? ⟨br, W, none⟩ = some (.pointer (some ⟨(R W).b, 0, none⟩)) ∧ w6.cell? ⟨bs, 2, none⟩ = some (.int .i64 p) ∧ w6.cell? ⟨bs, 3, none⟩ = some (.int .i64 q) ∧ w6.cell? ⟨bs, 4, none⟩ = some (.int .i64 kd) ∧ w6.cell? ⟨bs, 5, none⟩ = some (.int .u64 n) := ⟨HT6.out.rc W hW, G6.2⟩
            clear HCon G5 G6 HAn HRa s1 HSS
            go_wp2_with fail
            go_region_held_law (fun w' => w'.cell? ⟨br, W, none⟩ = some (.pointer (some ⟨(R W).b, 0, none⟩)) ∧ w'.cell? ⟨bs, 2, none⟩ = some (.int .i64 p) ∧ w'.cell? ⟨bs, 3, none⟩ = some (.int .i64 q) ∧ w'.cell? ⟨bs, 4, none⟩ = some (.int .i64 kd) ∧ w'.cell? ⟨bs, 5, none⟩ = some (.int .u64 n)) (first | assumption | exact G7)
              ((go_at_call 27; refine (HConR.out _ HRd).mono ?_; rintro e w7 ⟨rfl, rfl⟩))
            have HT7 := hide_ (HT6.out.later ((Below.refl _ _).drew))
            have HBM7 : Hid (Below B w1 w6.drew) := HBM6.out.drew
            have HN7 : Hid (∀ V, V < 2 → (A V).N.length ≤ i + 1) := fun V hV => Nat.le_succ_of_le (HN.out V hV)
            have HK7 : Hid (K.N ≤ 2 * (i + 1) ∧ K.bt = bt) := ⟨by have := HK.out.1; omega, HK.out.2⟩
            clear HConR G7 HRd HBM6 HTA HBA HT6 HB6
            have e8 : (c != c) = false := by simp
            go_wp2_with (go_at_call 13; refine (num_any _ _).mono ?_; rintro e w' ⟨rfl, rfl⟩)
            go_roundw
            case rel => exact ⟨i + 1, A, R, K, by go_num, by omega, by omega, HT7, HN7, HK7, HBM7⟩
            case measure => simp [intOf]; omega
        | true =>
          have hcA := fun w' (h : Hid (An B w' (A W).b (A W).vn (A W).vs (A W).vm (A W).N (A W).S (A W).G)) => valueA_any B (A W).b _ _ _ (A W).N (A W).S (A W).G (R W).R w' h (by omega) P1 P2 P3
          have hcR := fun w' (h : Hid (RA B w' (R W).b (R W).vl (R W).R)) => refV_any B (R W).b _ (A W).N (A W).S (A W).G (R W).R w' h (by omega) P1 P2 P3 P4
          have hLl := valL_len P1 P2 P3
          have hRl := P2.len
          obtain ⟨Lv, hLv⟩ : ∃ Lv, valL (A W).N (A W).S (A W).G = Lv := ⟨_, rfl⟩
          obtain ⟨c, hc⟩ : ∃ c, valC (A W).N (A W).G = c := ⟨_, rfl⟩
          rw [hLv] at hcA hcR hLl
          rw [hc] at hcA hcR
          have HcA := hide_ hcA
          have HcR := hide_ hcR
          have hcC := fun w' (h : Hid (An B w' (A W).b (A W).vn (A W).vs (A W).vm (A W).N (A W).S (A W).G)) => countA_any B (A W).b _ _ _ (A W).N (A W).S (A W).G w' h
          have hcD := fun w' (h : Hid (RA B w' (R W).b (R W).vl (R W).R)) => countD_any B (R W).b _ (R W).R w' h
          rw [hRl] at hcD
          obtain ⟨ln, hln⟩ : ∃ ln, (A W).N.length = ln := ⟨_, rfl⟩
          rw [hln] at hcC hcD hLl hNW
          have HcC := hide_ hcC
          have HcD := hide_ hcD
          clear hcA hcR hcC hcD hLv hc hln hRl P1 P2 P3 P4
          have g0 : wA.cell? ⟨bp, W, none⟩ = some (.pointer (some ⟨(A W).b, 0, none⟩)) := HTA.out.pc W hW
          go_wp2_with fail
          refine (HcA.out wA (HTA.out.an W hW)).mono ?_; rintro e w6 ⟨v, rfl, HV6, HB6⟩
          have HT6 := hide_ (HTA.out.later HB6.out)
          have g6 : w6.cell? ⟨bp, W, none⟩ = some (.pointer (some ⟨(A W).b, 0, none⟩)) := HT6.out.pc W hW
          clear g0
          go_wp2_with fail
          refine (HcA.out w6 (HT6.out.an W hW)).mono ?_; rintro e w7 ⟨x, rfl, HX7, HB7⟩
          have HT7 := hide_ (HT6.out.later HB7.out)
          have g7 : w7.cell? ⟨br, W, none⟩ = some (.pointer (some ⟨(R W).b, 0, none⟩)) := HT7.out.rc W hW
          clear g6
          go_wp2_with fail
          refine (HcR.out w7 (HT7.out.ra W hW)).mono ?_; rintro e w8 ⟨y, rfl, HY8, HB8⟩
          have HT8 := hide_ (HT7.out.later HB8.out)
          have HB68 : Hid (Below w6.heap.size w6 w8) := below_to HB7.out HB8.out
          have HBA8 : Hid (Below wA.heap.size wA w8) := below_to HB6.out HB68.out
          obtain ⟨av, cv, rfl, HNv, -, -, -⟩ := own_nrow HV6.out
          obtain ⟨ax, cx, rfl, HNx, -, -, -⟩ := own_nrow HX7.out
          obtain ⟨ay, cy, rfl, HNy, -, -, -⟩ := own_nrow HY8.out
          obtain ⟨nL, hnL⟩ : ∃ nL, Lv.length = nL := ⟨_, rfl⟩
          have HnL := hide_ hnL
          rw [hnL] at HV6 HX7 hLl ⊢
          have HNv8 := hide_ (HNv.later HB68.out)
          have HNx8 := hide_ (HNx.later HB8.out)
          have HNy8 := hide_ HNy
          have HEq1 : Hid (∀ w', Below w8.heap.size w8 w' → Calls Tryd.prog 16 #[.slice av nL cv, .slice ay nL cy] w' fun e w'' => e = .returned (.bool true) ∧ Below w'.heap.size w' w'') := fun w' hB => eqD_same av ay nL cv cy Lv w' HnL.out (by omega) (HNv8.out.later hB) (HNy8.out.later hB)
          have HEq2 : Hid (∀ w', Below w8.heap.size w8 w' → Calls Tryd.prog 16 #[.slice ax nL cx, .slice ay nL cy] w' fun e w'' => e = .returned (.bool true) ∧ Below w'.heap.size w' w'') := fun w' hB => eqD_same ax ay nL cx cy Lv w' HnL.out (by omega) (HNx8.out.later hB) (HNy8.out.later hB)
          have HSS : Hid (∀ w', Below w8.heap.size w8 w' → Below w8.heap.size w8 w' ∧ w'.cell? ⟨bp, W, none⟩ = some (.pointer (some ⟨(A W).b, 0, none⟩)) ∧ w'.cell? ⟨br, W, none⟩ = some (.pointer (some ⟨(R W).b, 0, none⟩))) := fun w' hB => ⟨hB, (HT8.out.later hB).pc W hW, (HT8.out.later hB).rc W hW⟩
          have HC26 : Hid (∀ w', Below w8.heap.size w8 w' → Calls Tryd.prog 26 #[.pointer (some ⟨(A W).b, 0, none⟩)] w' fun e w'' => e = .returned (.int .i64 (ln : Int)) ∧ w' = w'') := fun w' hB => HcC.out w' ((HT8.out.later hB).an W hW)
          have HC29 : Hid (∀ w', Below w8.heap.size w8 w' → Calls Tryd.prog 29 #[.pointer (some ⟨(R W).b, 0, none⟩)] w' fun e w'' => e = .returned (.int .i64 (ln : Int)) ∧ w' = w'') := fun w' hB => HcD.out w' ((HT8.out.later hB).ra W hW)
          have e8 : (c != c) = false := by simp
          have e9 : ((ln : Int) != (ln : Int)) = false := by simp
          clear HNv HNx HNy HNv8 HNx8 HNy8 HcA HcR HcC HcD hnL g7 s1
          go_wp2_with fail
          go_region_held_law (fun w' => Below w8.heap.size w8 w' ∧ w'.cell? ⟨bp, W, none⟩ = some (.pointer (some ⟨(A W).b, 0, none⟩)) ∧ w'.cell? ⟨br, W, none⟩ = some (.pointer (some ⟨(R W).b, 0, none⟩))) (first | assumption | exact HSS.out _ ((Below.refl _ _).drew))
            (first
              | (go_at_call 13; refine (num_any _ _).mono ?_; rintro e w' ⟨rfl, rfl⟩)
              | (go_at_call_of 16 (Value.slice av nL cv); refine (HEq1.out _ (by first | assumption | exact And.left (by assumption))).mono ?_; rintro e w9 ⟨rfl, hB9⟩; have G9 := HSS.out w9 (below_to (by first | assumption | exact And.left (by assumption)) hB9); clear hB9)
              | (go_at_call_of 16 (Value.slice ax nL cx); refine (HEq2.out _ (by first | assumption | exact And.left (by assumption))).mono ?_; rintro e w10 ⟨rfl, hB10⟩; have G10 := HSS.out w10 (below_to (by first | assumption | exact And.left (by assumption)) hB10); clear hB10)
              | (go_at_call 26; refine (HC26.out _ (by first | assumption | exact And.left (by assumption))).mono ?_; rintro e w' ⟨rfl, rfl⟩)
              | (go_at_call 29; refine (HC29.out _ (by first | assumption | exact And.left (by assumption))).mono ?_; rintro e w' ⟨rfl, rfl⟩))
          clear HEq1 HEq2 HC26 HC29 HSS e8 e9
          obtain ⟨hB10, -, -⟩ := G10
          have HBA10 : Hid (Below wA.heap.size wA w10) := below_to HBA8.out hB10
          have HT10 := hide_ (HT8.out.later hB10)
          have HVa := hide_ (HTA.out.apart (v := .slice av nL cv) (fun q hq => (HV6.out.lt q hq).1))
          have HXa := hide_ (HTA.out.apart (v := .slice ax nL cx) (fun q hq => Nat.le_trans HB6.out.size (HX7.out.lt q hq).1))
          have HV10 : Hid (w10.ownsRow B 37 3 (.slice av nL cv) Lv.length (cellsN Lv)) := by
            have h := ownS_upd HV6.out (Upd.of_below (S := fun _ => False) (below_to HB68.out hB10)) (fun _ _ h => h)
            rw [HnL.out]
            exact own_mono h HTA.out.base
          have HX10 : Hid (w10.ownsRow B 37 3 (.slice ax nL cx) Lv.length (cellsN Lv)) := by
            have h := ownS_upd HX7.out (Upd.of_below (S := fun _ => False) (below_to HB8.out hB10)) (fun _ _ h => h)
            rw [HnL.out]
            exact own_mono h (Nat.le_trans HTA.out.base HB6.out.size)
          have HXlt : Hid (∀ q, (Value.slice ax nL cx).ownBlock = some q → q < w10.heap.size) := fun q hq => (HX10.out.lt q hq).2
          have HXne : Hid (∀ q, (Value.slice ax nL cx).ownBlock = some q → (Value.slice av nL cv).ownBlock ≠ some q) := fun q hq e => by
            have h1 := (HX7.out.lt q hq).1
            have h2 := (HV6.out.lt q e).2
            omega
          have HBM10 : Hid (Below B w1 w10) := HBA.out.trans (HBA10.out.mono HTA.out.base)
          have hKN := HK.out.1
          have hcn1 := nodes_any B K.bt K.vL K.vM _ _ K.N K.F K.G K.s (.slice av nL cv) Lv w10 HT10.out.bk HV10 (fun q hq h => HVa.out q hq 4 (by omega) (.inr h)) (by omega) (by rw [HnL.out]; omega)
          rw [HK.out.2] at hcn1
          have HCn1 := hide_ hcn1
          clear hcn1 G9 hB10 HV6 HX7 HY8 HB6 HB7 HB8 HB68 HBA8 HBA10 HT6 HT7 HT8 HKS HSs
          go_wp2_with fail
          refine HCn1.out.mono ?_; rintro e w11 ⟨rfl, HK11⟩
          have HK11' : KeepN B w10 w11 K.bt K.vL K.vM (.slice none 0 0) (.slice none 0 0) K.N K.F K.G (.slice av nL cv) := by
            have h := HK11.out
            rw [← HK.out.2] at h
            exact h
          obtain ⟨K1, HT11, hK1N, hK1t, HF1, HU1⟩ := HT10.out.keep HVa.out HK11'
          have HT11' := hide_ HT11
          have HXa1 := hide_ (Tb.apart2 HXa.out HF1 HXlt.out HXne.out)
          have HX11 : Hid (w11.ownsRow B 37 3 (.slice ax nL cx) Lv.length (cellsN Lv)) := ownS_upd HX10.out HU1 (fun q hq h => by
            rcases h with h | h
            · exact HXne.out q hq h
            · exact HXa.out q hq 4 (by omega) h)
          have HBM11 : Hid (Below B w1 w11) := HBM10.out.trans (HU1.below B HT10.out.base fun q hq => by
            rcases hq with h | h
            · exact (HV10.out.lt q h).1
            · exact (HT10.out.sep.lt 4 (by omega) q h).1)
          have hcn2 := nodes_any B K1.bt K1.vL K1.vM _ _ K1.N K1.F K1.G K1.s (.slice ax nL cx) Lv w11 HT11.bk HX11 (fun q hq h => HXa1.out q hq 4 (by omega) (.inr h)) (by omega) (by rw [HnL.out]; omega)
          rw [hK1t, HK.out.2] at hcn2
          have HCn2 := hide_ hcn2
          have HK1t : Hid (K1.bt = bt) := hK1t.trans HK.out.2
          have HK1N := hide_ hK1N
          clear hcn2 HCn1 HK11 HK11' HT11 HF1 HU1 HV10 HX10 HVa HXlt HXne hK1t hK1N HT10 HBM10
          go_wp2_with fail
          refine HCn2.out.mono ?_; rintro e w12 ⟨rfl, HK12⟩
          have HK12' : KeepN B w11 w12 K1.bt K1.vL K1.vM (.slice none 0 0) (.slice none 0 0) K1.N K1.F K1.G (.slice ax nL cx) := by
            have h := HK12.out
            rw [← HK1t.out] at h
            exact h
          obtain ⟨K2, HT12, hK2N, hK2t, HF2, HU2⟩ := HT11'.out.keep HXa1.out HK12'
          have HT12' := hide_ HT12
          have HBM12 : Hid (Below B w1 w12) := HBM11.out.trans (HU2.below B HT11'.out.base fun q hq => by
            rcases hq with h | h
            · exact (HX11.out.lt q h).1
            · exact (HT11'.out.sep.lt 4 (by omega) q h).1)
          have HK2 : Hid (K2.N ≤ 2 * (i + 1) ∧ K2.bt = bt) := ⟨by have := HK1N.out; omega, hK2t.trans HK1t.out⟩
          have hch := holds_any B K2.bt K2.vL K2.vM _ _ K2.N 0 K2.F K2.G (fun _ => .slice none 0 0) (fun _ => .slice none 0 0) K2.s (fun _ => 0) w12 HT12.bk (Half.none _ _ _ _ _ _) (by have := HK2.out.1; omega) (by omega)
          rw [HK2.out.2] at hch
          have HCh := hide_ hch
          have HN7 : Hid (∀ V, V < 2 → (A V).N.length ≤ i + 1) := fun V hV => Nat.le_succ_of_le (HN.out V hV)
          clear hch HCn2 HK12 HK12' HT12 HF2 HU2 HX11 HXa1 hK2N hK2t HT11' HBM11 HTA HBA HK1N HK1t
          go_wp2_with fail
          refine HCh.out.mono ?_; rintro e w13 ⟨rfl, rfl⟩
          go_wp2
          go_roundw
          case rel => exact ⟨i + 1, A, R, K2, by go_num, by omega, by omega, HT12', HN7, HK2, HBM12⟩
          case measure => simp [intOf]; omega
    ·
      have HB13 : Hid (Below w.heap.size w wr) := HB1.out.trans (by
        have h := HB.out
        rw [← HBs.out] at h
        exact h.mono HB1.out.size)
      have p0 : wr.cell? ⟨bp, 0, none⟩ = some (.pointer (some ⟨(A 0).b, 0, none⟩)) := HT.out.pc 0 (by omega)
      have p1 : wr.cell? ⟨bp, 1, none⟩ = some (.pointer (some ⟨(A 1).b, 0, none⟩)) := HT.out.pc 1 (by omega)
      have r0 : wr.cell? ⟨br, 0, none⟩ = some (.pointer (some ⟨(R 0).b, 0, none⟩)) := HT.out.rc 0 (by omega)
      have r1 : wr.cell? ⟨br, 1, none⟩ = some (.pointer (some ⟨(R 1).b, 0, none⟩)) := HT.out.rc 1 (by omega)
      have hcC := fun W (hW : W < 2) w' (h : Hid (An B w' (A W).b (A W).vn (A W).vs (A W).vm (A W).N (A W).S (A W).G)) => countA_any B (A W).b _ _ _ (A W).N (A W).S (A W).G w' h
      have hcD := fun W (hW : W < 2) w' (h : Hid (RA B w' (R W).b (R W).vl (R W).R)) => countD_any B (R W).b _ (R W).R w' h
      have hR0 := (HT.out.pl 0 (by omega)).2.1.len
      have hR1 := (HT.out.pl 1 (by omega)).2.1.len
      have H0 : Hid (∀ w', Below wr.heap.size wr w' → Calls Tryd.prog 26 #[.pointer (some ⟨(A 0).b, 0, none⟩)] w' fun e w'' => e = .returned (.int .i64 ((A 0).N.length : Int)) ∧ w' = w'') := fun w' hB => hcC 0 (by omega) w' ((HT.out.later hB).an 0 (by omega))
      have H1 : Hid (∀ w', Below wr.heap.size wr w' → Calls Tryd.prog 26 #[.pointer (some ⟨(A 1).b, 0, none⟩)] w' fun e w'' => e = .returned (.int .i64 ((A 1).N.length : Int)) ∧ w' = w'') := fun w' hB => hcC 1 (by omega) w' ((HT.out.later hB).an 1 (by omega))
      have H2 : Hid (∀ w', Below wr.heap.size wr w' → Calls Tryd.prog 29 #[.pointer (some ⟨(R 0).b, 0, none⟩)] w' fun e w'' => e = .returned (.int .i64 ((A 0).N.length : Int)) ∧ w' = w'') := fun w' hB => by rw [← hR0]; exact hcD 0 (by omega) w' ((HT.out.later hB).ra 0 (by omega))
      have H3 : Hid (∀ w', Below wr.heap.size wr w' → Calls Tryd.prog 29 #[.pointer (some ⟨(R 1).b, 0, none⟩)] w' fun e w'' => e = .returned (.int .i64 ((A 1).N.length : Int)) ∧ w' = w'') := fun w' hB => by rw [← hR1]; exact hcD 1 (by omega) w' ((HT.out.later hB).ra 1 (by omega))
      have HBd : Hid (∀ q, Below w.heap.size w (wr.drewN q)) := fun q => ⟨HB13.out.os, HB13.out.tape, HB13.out.output, HB13.out.size, HB13.out.block⟩
      have hBd : ∀ q, Below wr.heap.size wr (wr.drewN q) := fun q => ⟨rfl, rfl, rfl, Nat.le_refl _, fun _ _ => rfl⟩
      clear hcC hcD hR0 hR1 HT HN HK HB
      generalize (A 0).N.length = n0 at *
      generalize (A 1).N.length = n1 at *
      generalize (A 0).b = a0 at *
      generalize (A 1).b = a1 at *
      generalize (R 0).b = b0 at *
      generalize (R 1).b = b1 at *
      by_cases h1 : (i : Int) < len
      · have h2 : ¬ ((i : Int) < 200) := fun h => hlt ⟨by omega, by omega⟩
        go_wp2_with fail
        go_quiet (first
          | (go_at_call_of 26 (Value.pointer (some ⟨a0, 0, none⟩)); exact Calls.quiet_of_same ((H0.out _ (hBd _)).mono fun _ _ h => ⟨h.1, h.2.symm⟩))
          | (go_at_call_of 26 (Value.pointer (some ⟨a1, 0, none⟩)); exact Calls.quiet_of_same ((H1.out _ (hBd _)).mono fun _ _ h => ⟨h.1, h.2.symm⟩))
          | (go_at_call_of 29 (Value.pointer (some ⟨b0, 0, none⟩)); exact Calls.quiet_of_same ((H2.out _ (hBd _)).mono fun _ _ h => ⟨h.1, h.2.symm⟩))
          | (go_at_call_of 29 (Value.pointer (some ⟨b1, 0, none⟩)); exact Calls.quiet_of_same ((H3.out _ (hBd _)).mono fun _ _ h => ⟨h.1, h.2.symm⟩)))
        go_wp2
        go_ret
        exact ⟨rfl, HBd.out _⟩
      · go_wp2_with fail
        go_quiet (first
          | (go_at_call_of 26 (Value.pointer (some ⟨a0, 0, none⟩)); exact Calls.quiet_of_same ((H0.out _ (hBd _)).mono fun _ _ h => ⟨h.1, h.2.symm⟩))
          | (go_at_call_of 26 (Value.pointer (some ⟨a1, 0, none⟩)); exact Calls.quiet_of_same ((H1.out _ (hBd _)).mono fun _ _ h => ⟨h.1, h.2.symm⟩))
          | (go_at_call_of 29 (Value.pointer (some ⟨b0, 0, none⟩)); exact Calls.quiet_of_same ((H2.out _ (hBd _)).mono fun _ _ h => ⟨h.1, h.2.symm⟩))
          | (go_at_call_of 29 (Value.pointer (some ⟨b1, 0, none⟩)); exact Calls.quiet_of_same ((H3.out _ (hBd _)).mono fun _ _ h => ⟨h.1, h.2.symm⟩)))
        go_wp2
        go_ret
        exact ⟨rfl, HBd.out _⟩
end Go.Proofs.YtlbgdgobhiokpaaDoor

/-
  What the reading of an argument says of memory, over any program. For a new seat: copy as <Name>Read.lean; put the Name for 'Seat', also in the import.
-/
namespace Go.Proofs.YtlbgdgobhiokpaaDoor
open Go.ChangeShapes Go.WideShapes Go.ChangeAt Go.RowKit
set_option linter.unusedVariables false

variable {H : Type} {enc : TypeId × Value → H} {P : Program} {w : World} {base : Nat} {held : Bool}

/-- A slice of integers that was read, its spare room too. -/
theorem row_read {t e : TypeId} {k : IntKind} (ht : P.underlying t = some (.slice e)) (he : P.underlying e = some (.int k)) (hc : P.cellsOf e = 1) {fuel : Nat} {v : Value} {y : DataW H × List MemPlace}
    (h : DataW.trod enc P w base (fun _ => true) held fuel t [v] = some y) :
    ∃ a n cap l, v = .slice a n cap ∧ n ≤ cap ∧ cap ≤ maxLen ∧ l.length = n ∧ Row k w a l ∧ (a = none → cap = 0) ∧ ∀ x ∈ l, (Lit.int k x).wf = true := by
  rcases open_ints ht he hc h with ⟨hcs, _⟩ | ⟨x, l, c, zs, hcs, _, hl, hm, hz, _, hcell, hwz⟩
  · simp at hcs
    subst hcs
    exact ⟨none, 0, 0, [], rfl, Nat.le_refl _, Nat.zero_le _, rfl, .inl ⟨rfl, rfl⟩, fun _ => rfl, fun x hx => by cases hx⟩
  · simp at hcs
    subst hcs
    have hz' : zs.length = c := by simpa using hz
    refine ⟨some x, l, c, zs.take l, rfl, hl, hm, by simp; omega, .inr ⟨x, rfl, fun i hi => ?_⟩, (fun h => by cases h), fun x hx => hwz x (List.mem_of_mem_take hx)⟩
    have h1 : i < l := by simp at hi; omega
    rw [hcell i (by omega)]
    simp [List.getD, h1]
/-- The same, with what it weighs. -/
theorem row_weigh {t e : TypeId} {k : IntKind} (ht : P.underlying t = some (.slice e)) (he : P.underlying e = some (.int k)) (hc : P.cellsOf e = 1) {fuel : Nat} {v : Value} {y : DataW H × List MemPlace}
    (h : DataW.trod enc P w base (fun _ => true) held fuel t [v] = some y) :
    ∃ a n cap l, v = .slice a n cap ∧ n ≤ cap ∧ cap ≤ maxLen ∧ l.length = n ∧ Row k w a l ∧ (a = none → cap = 0) ∧ (∀ x ∈ l, (Lit.int k x).wf = true) ∧ (cap = 0 ∨ cap * P.bytesOf e ∈ y.1.weights P t) := by
  rcases open_ints ht he hc h with ⟨hcs, _⟩ | ⟨x, l, c, zs, hcs, _, hl, hm, hz, hy, hcell, hwz⟩
  · simp at hcs
    subst hcs
    exact ⟨none, 0, 0, [], rfl, Nat.le_refl _, Nat.zero_le _, rfl, .inl ⟨rfl, rfl⟩, fun _ => rfl, (fun x hx => by cases hx), .inl rfl⟩
  · simp at hcs
    subst hcs
    have hz' : zs.length = c := by simpa using hz
    refine ⟨some x, l, c, zs.take l, rfl, hl, hm, by simp; omega, .inr ⟨x, rfl, fun i hi => ?_⟩, (fun h => by cases h), (fun x hx => hwz x (List.mem_of_mem_take hx)), .inr ?_⟩
    · have h1 : i < l := by simp at hi; omega
      rw [hcell i (by omega)]
      simp [List.getD, h1]
    · subst hy
      simp only [DataW.weights, ht, lits, List.length_map, List.length_take, List.length_drop]
      rw [hz', show min l c + (c - l) = c from by omega]
      exact List.mem_cons_self
/-- A struct's cells, field by field: field number i of a struct whose fields are of one cell each. -/
theorem field_read {t : TypeId} {fs : Array Field} (ht : P.underlying t = some (.struct fs)) {fuel : Nat} {cs : List Value} {y : DataW H × List MemPlace} (h : DataW.trod enc P w base (fun _ => true) held fuel t cs = some y) :
    cs.length = P.cellsOf t ∧ ∃ m, ∀ (i : Nat) (f : Field) (c : Value), fs[i]? = some f → P.cellsOf f.type = 1 → cs[f.offset]? = some c → ∃ z, DataW.trod enc P w base (fun _ => true) held m f.type [c] = some z := by
  obtain ⟨xs, m, _, _, hl, hlen, hf⟩ := DataW.trod_struct ht h
  refine ⟨hl, m, fun i f c hfi hc1 hco => ?_⟩
  have hi : i < xs.length := by
    rw [hlen]
    exact (Array.getElem?_eq_some_iff.1 hfi).1
  have h1 := hf i f hfi
  rw [hc1, List.getElem?_eq_getElem hi] at h1
  obtain ⟨hol, hoc⟩ := List.getElem?_eq_some_iff.1 hco
  have e : (cs.drop f.offset).take 1 = [c] := by
    rw [List.drop_eq_getElem_cons hol, hoc]
    rfl
  rw [e] at h1
  exact ⟨_, h1⟩
/-- A slice of structs of n cells each: each element's cells, and that they were read. -/
theorem structs_read {t e : TypeId} (ht : P.underlying t = some (.slice e)) (hpos : 0 < P.cellsOf e) {fuel : Nat} {a0 : Option Addr} {len cap : Nat} {y : DataW H × List MemPlace} (h : DataW.trod enc P w base (fun _ => true) held fuel t [.slice a0 len cap] = some y) :
    len = 0 ∨ ∃ b off n, a0 = some ⟨b, off, none⟩ ∧ b < w.heap.size ∧ len ≤ cap ∧ cap ≤ maxLen ∧ ∀ i, i < len → ∃ cs z, cs.length = P.cellsOf e ∧ (∀ j, j < P.cellsOf e → w.cell? ⟨b, off + i * P.cellsOf e + j, none⟩ = cs[j]?) ∧ DataW.trod enc P w base (fun _ => true) held n e cs = some z := by
  rcases Go.Deep.open_slice ht h with ⟨hcs, _⟩ | ⟨x, l, c, m, n, D, Pl, hcs, _, hl, hm, hmm, _, hel⟩
  · left
    simp at hcs
    exact hcs.2.1
  · simp at hcs
    obtain ⟨rfl, rfl, rfl⟩ := hcs
    by_cases h0 : len = 0
    · exact .inl h0
    right
    have hmc : m = cap := by simpa using hmm
    obtain ⟨b, off, spot⟩ := x
    obtain ⟨cs0, hc0, _⟩ := hel 0 (by omega)
    have q0 := (World.cells?_some hc0).2.2 0 hpos
    have hlen0 := (World.cells?_some hc0).2.1
    have hz : ((⟨b, off, spot⟩ : Addr).add (0 * P.cellsOf e)).add 0 = ⟨b, off, spot⟩ := by simp [Addr.add]
    rw [hz] at q0
    have q1 : w.cell? ⟨b, off, spot⟩ = some (cs0[0]'(by omega)) := by rw [q0]; exact List.getElem?_eq_getElem _
    have hspot : spot = none := by simpa using World.cell?_spot q1
    subst hspot
    refine ⟨b, off, n, rfl, World.block_lt_of_cell? w _ q1, hl, hm, fun i hi => ?_⟩
    obtain ⟨cs, hcs, ht'⟩ := hel i (by omega)
    refine ⟨cs, _, (World.cells?_some hcs).2.1, fun j hj => ?_, ht'⟩
    have hcell := (World.cells?_some hcs).2.2 j hj
    rw [add_none, add_none] at hcell
    exact hcell
end Go.Proofs.YtlbgdgobhiokpaaDoor
