import Derived.Test.YtjamfbpdepahnaaGreatPart29
namespace Go.Proofs.YtjamfbpdepahnaaGreat
open Go.RowKit
set_option linter.unusedVariables false
set_option linter.unusedSimpArgs false
set_option maxRecDepth 100000 in
set_option maxHeartbeats 4000000 in
theorem bare_1 (b cc ce gs gq : Nat) (ac ae : Option Addr) (enc : Bool) (C : List In) (E : List Int) (S : List St) (Q : List Bool) (vb : Value) (k : Nat) (w : World) (hk : k < C.length) (hcc : C.length ≤ cc) (hcl : cc ≤ 9223372036854775807) (hC : Hid (CeOk enc C E)) (h : Hid (PtS w b cc ce gs gq ac ae enc C E S Q vb)) (hop : (inA C k).op = 1) : Calls Tryz.prog 38 #[.pointer (some ⟨b, 0, none⟩), .int .i64 (k : Int)] w fun e w' => ∃ v, e = .returned v ∧ Hid (IOwn w' w.heap.size v (bareP C E S Q k)) ∧ Hid (Below w.heap.size w w') := by
  obtain ⟨bc, oc, hac⟩ := h.out.adr hk
  subst hac
  obtain ⟨x, hx⟩ : ∃ x, C[k]? = some x := ⟨_, List.getElem?_eq_getElem hk⟩
  have hxA : inA C k = x := inA_at hx
  rw [hxA] at hop
  obtain ⟨w2, hw2⟩ : ∃ wx, w.alloc (.cells #[.int .i64 x.op, .int .i64 x.a, .int .i64 x.b, .int .i64 x.c] 37) = wx := ⟨_, rfl⟩
  have hB2 : Below w.heap.size w w2 := by rw [← hw2]; exact below1 _ _
  have KX : Blk w2 w.heap.size 37 (inc x) := by rw [← hw2]; exact Blk.newA w _ _
  have hz : w.heap.size + 1 ≤ w2.heap.size := by rw [← hw2]; simp
  have L2 := h.out.later hB2
  obtain ⟨-, c1, -, -, -, -⟩ := h.out.cells
  obtain ⟨j0, j1, j2, j3⟩ := h.out.code.at hx
  obtain ⟨i0, i1, i2, i3⟩ := KX.ci
  have hkc : (k : Int) < (C.length : Int) := by omega
  have HB2 := hide_ hB2
  have HWy := hide_ (fun w3 (hB : Below w2.heap.size w2 w3) => pways_any b cc ce gs gq _ ae enc C E S Q vb k w3 hk hcc hcl (hide_ hC.out.cd) (hide_ (L2.later hB)))
  have HId := hide_ (idle_any b cc ce gs gq _ ae enc C E S Q vb k w2 hk hC (hide_ L2))
  have HW : Hid (bareP C E S Q k = []) := hide_ (by unfold bareP; rw [hxA]; repeat (first | rw [if_pos (by omega)] | rw [if_neg (by omega)]))
  have Hop := hide_ hop
  clear hop hB2 KX L2 hx hxA h
  go_enter Tryz.func38, Tryz.ntmps38
  go_upto_region 2 with fail
  try rw [hw2]
  clear hw2 c1 j0 j1 j2 j3
  rw [Hop.out] at i0
  go_wp2_with fail
  go_ret
  exact ⟨_, rfl, hide_ (by rw [HW.out]; exact IOwn.nil _ _), HB2⟩
set_option maxRecDepth 100000 in
set_option maxHeartbeats 4000000 in
theorem bare_2 (b cc ce gs gq : Nat) (ac ae : Option Addr) (enc : Bool) (C : List In) (E : List Int) (S : List St) (Q : List Bool) (vb : Value) (k : Nat) (w : World) (hk : k < C.length) (hcc : C.length ≤ cc) (hcl : cc ≤ 9223372036854775807) (hC : Hid (CeOk enc C E)) (h : Hid (PtS w b cc ce gs gq ac ae enc C E S Q vb)) (hop : (inA C k).op = 2) : Calls Tryz.prog 38 #[.pointer (some ⟨b, 0, none⟩), .int .i64 (k : Int)] w fun e w' => ∃ v, e = .returned v ∧ Hid (IOwn w' w.heap.size v (bareP C E S Q k)) ∧ Hid (Below w.heap.size w w') := by
  obtain ⟨bc, oc, hac⟩ := h.out.adr hk
  subst hac
  obtain ⟨x, hx⟩ : ∃ x, C[k]? = some x := ⟨_, List.getElem?_eq_getElem hk⟩
  have hxA : inA C k = x := inA_at hx
  rw [hxA] at hop
  obtain ⟨w2, hw2⟩ : ∃ wx, w.alloc (.cells #[.int .i64 x.op, .int .i64 x.a, .int .i64 x.b, .int .i64 x.c] 37) = wx := ⟨_, rfl⟩
  have hB2 : Below w.heap.size w w2 := by rw [← hw2]; exact below1 _ _
  have KX : Blk w2 w.heap.size 37 (inc x) := by rw [← hw2]; exact Blk.newA w _ _
  have hz : w.heap.size + 1 ≤ w2.heap.size := by rw [← hw2]; simp
  have L2 := h.out.later hB2
  obtain ⟨-, c1, -, -, -, -⟩ := h.out.cells
  obtain ⟨j0, j1, j2, j3⟩ := h.out.code.at hx
  obtain ⟨i0, i1, i2, i3⟩ := KX.ci
  have hkc : (k : Int) < (C.length : Int) := by omega
  have HB2 := hide_ hB2
  have HWy := hide_ (fun w3 (hB : Below w2.heap.size w2 w3) => pways_any b cc ce gs gq _ ae enc C E S Q vb k w3 hk hcc hcl (hide_ hC.out.cd) (hide_ (L2.later hB)))
  have HId := hide_ (idle_any b cc ce gs gq _ ae enc C E S Q vb k w2 hk hC (hide_ L2))
  have HW : Hid (bareP C E S Q k = []) := hide_ (by unfold bareP; rw [hxA]; repeat (first | rw [if_pos (by omega)] | rw [if_neg (by omega)]))
  have Hop := hide_ hop
  clear hop hB2 KX L2 hx hxA h
  go_enter Tryz.func38, Tryz.ntmps38
  go_upto_region 2 with fail
  try rw [hw2]
  clear hw2 c1 j0 j1 j2 j3
  rw [Hop.out] at i0
  go_wp2_with fail
  go_ret
  exact ⟨_, rfl, hide_ (by rw [HW.out]; exact IOwn.nil _ _), HB2⟩
set_option maxRecDepth 100000 in
set_option maxHeartbeats 4000000 in
theorem bare_3 (b cc ce gs gq : Nat) (ac ae : Option Addr) (enc : Bool) (C : List In) (E : List Int) (S : List St) (Q : List Bool) (vb : Value) (k : Nat) (w : World) (hk : k < C.length) (hcc : C.length ≤ cc) (hcl : cc ≤ 9223372036854775807) (hC : Hid (CeOk enc C E)) (h : Hid (PtS w b cc ce gs gq ac ae enc C E S Q vb)) (hop : (inA C k).op = 3) : Calls Tryz.prog 38 #[.pointer (some ⟨b, 0, none⟩), .int .i64 (k : Int)] w fun e w' => ∃ v, e = .returned v ∧ Hid (IOwn w' w.heap.size v (bareP C E S Q k)) ∧ Hid (Below w.heap.size w w') := by
  obtain ⟨bc, oc, hac⟩ := h.out.adr hk
  subst hac
  obtain ⟨x, hx⟩ : ∃ x, C[k]? = some x := ⟨_, List.getElem?_eq_getElem hk⟩
  have hxA : inA C k = x := inA_at hx
  rw [hxA] at hop
  obtain ⟨w2, hw2⟩ : ∃ wx, w.alloc (.cells #[.int .i64 x.op, .int .i64 x.a, .int .i64 x.b, .int .i64 x.c] 37) = wx := ⟨_, rfl⟩
  have hB2 : Below w.heap.size w w2 := by rw [← hw2]; exact below1 _ _
  have KX : Blk w2 w.heap.size 37 (inc x) := by rw [← hw2]; exact Blk.newA w _ _
  have hz : w.heap.size + 1 ≤ w2.heap.size := by rw [← hw2]; simp
  have L2 := h.out.later hB2
  obtain ⟨-, c1, -, -, -, -⟩ := h.out.cells
  obtain ⟨j0, j1, j2, j3⟩ := h.out.code.at hx
  obtain ⟨i0, i1, i2, i3⟩ := KX.ci
  have hkc : (k : Int) < (C.length : Int) := by omega
  have HB2 := hide_ hB2
  have HWy := hide_ (fun w3 (hB : Below w2.heap.size w2 w3) => pways_any b cc ce gs gq _ ae enc C E S Q vb k w3 hk hcc hcl (hide_ hC.out.cd) (hide_ (L2.later hB)))
  have HId := hide_ (idle_any b cc ce gs gq _ ae enc C E S Q vb k w2 hk hC (hide_ L2))
  have HW : Hid (bareP C E S Q k = []) := hide_ (by unfold bareP; rw [hxA]; repeat (first | rw [if_pos (by omega)] | rw [if_neg (by omega)]))
  have Hop := hide_ hop
  clear hop hB2 KX L2 hx hxA h
  go_enter Tryz.func38, Tryz.ntmps38
  go_upto_region 2 with fail
  try rw [hw2]
  clear hw2 c1 j0 j1 j2 j3
  rw [Hop.out] at i0
  go_wp2_with fail
  go_ret
  exact ⟨_, rfl, hide_ (by rw [HW.out]; exact IOwn.nil _ _), HB2⟩
set_option maxRecDepth 100000 in
set_option maxHeartbeats 4000000 in
theorem bare_4 (b cc ce gs gq : Nat) (ac ae : Option Addr) (enc : Bool) (C : List In) (E : List Int) (S : List St) (Q : List Bool) (vb : Value) (k : Nat) (w : World) (hk : k < C.length) (hcc : C.length ≤ cc) (hcl : cc ≤ 9223372036854775807) (hC : Hid (CeOk enc C E)) (h : Hid (PtS w b cc ce gs gq ac ae enc C E S Q vb)) (hop : (inA C k).op = 4) : Calls Tryz.prog 38 #[.pointer (some ⟨b, 0, none⟩), .int .i64 (k : Int)] w fun e w' => ∃ v, e = .returned v ∧ Hid (IOwn w' w.heap.size v (bareP C E S Q k)) ∧ Hid (Below w.heap.size w w') := by
  obtain ⟨bc, oc, hac⟩ := h.out.adr hk
  subst hac
  obtain ⟨x, hx⟩ : ∃ x, C[k]? = some x := ⟨_, List.getElem?_eq_getElem hk⟩
  have hxA : inA C k = x := inA_at hx
  rw [hxA] at hop
  obtain ⟨w2, hw2⟩ : ∃ wx, w.alloc (.cells #[.int .i64 x.op, .int .i64 x.a, .int .i64 x.b, .int .i64 x.c] 37) = wx := ⟨_, rfl⟩
  have hB2 : Below w.heap.size w w2 := by rw [← hw2]; exact below1 _ _
  have KX : Blk w2 w.heap.size 37 (inc x) := by rw [← hw2]; exact Blk.newA w _ _
  have hz : w.heap.size + 1 ≤ w2.heap.size := by rw [← hw2]; simp
  have L2 := h.out.later hB2
  obtain ⟨-, c1, -, -, -, -⟩ := h.out.cells
  obtain ⟨j0, j1, j2, j3⟩ := h.out.code.at hx
  obtain ⟨i0, i1, i2, i3⟩ := KX.ci
  have hkc : (k : Int) < (C.length : Int) := by omega
  have HB2 := hide_ hB2
  have HWy := hide_ (fun w3 (hB : Below w2.heap.size w2 w3) => pways_any b cc ce gs gq _ ae enc C E S Q vb k w3 hk hcc hcl (hide_ hC.out.cd) (hide_ (L2.later hB)))
  have HId := hide_ (idle_any b cc ce gs gq _ ae enc C E S Q vb k w2 hk hC (hide_ L2))
  have HW : Hid (bareP C E S Q k = []) := hide_ (by unfold bareP; rw [hxA]; repeat (first | rw [if_pos (by omega)] | rw [if_neg (by omega)]))
  have Hop := hide_ hop
  clear hop hB2 KX L2 hx hxA h
  go_enter Tryz.func38, Tryz.ntmps38
  go_upto_region 2 with fail
  try rw [hw2]
  clear hw2 c1 j0 j1 j2 j3
  rw [Hop.out] at i0
  go_wp2_with fail
  go_ret
  exact ⟨_, rfl, hide_ (by rw [HW.out]; exact IOwn.nil _ _), HB2⟩
set_option maxRecDepth 100000 in
set_option maxHeartbeats 4000000 in
theorem bare_7 (b cc ce gs gq : Nat) (ac ae : Option Addr) (enc : Bool) (C : List In) (E : List Int) (S : List St) (Q : List Bool) (vb : Value) (k : Nat) (w : World) (hk : k < C.length) (hcc : C.length ≤ cc) (hcl : cc ≤ 9223372036854775807) (hC : Hid (CeOk enc C E)) (h : Hid (PtS w b cc ce gs gq ac ae enc C E S Q vb)) (hop : (inA C k).op = 7) : Calls Tryz.prog 38 #[.pointer (some ⟨b, 0, none⟩), .int .i64 (k : Int)] w fun e w' => ∃ v, e = .returned v ∧ Hid (IOwn w' w.heap.size v (bareP C E S Q k)) ∧ Hid (Below w.heap.size w w') := by
  obtain ⟨bc, oc, hac⟩ := h.out.adr hk
  subst hac
  obtain ⟨x, hx⟩ : ∃ x, C[k]? = some x := ⟨_, List.getElem?_eq_getElem hk⟩
  have hxA : inA C k = x := inA_at hx
  rw [hxA] at hop
  obtain ⟨w2, hw2⟩ : ∃ wx, w.alloc (.cells #[.int .i64 x.op, .int .i64 x.a, .int .i64 x.b, .int .i64 x.c] 37) = wx := ⟨_, rfl⟩
  have hB2 : Below w.heap.size w w2 := by rw [← hw2]; exact below1 _ _
  have KX : Blk w2 w.heap.size 37 (inc x) := by rw [← hw2]; exact Blk.newA w _ _
  have hz : w.heap.size + 1 ≤ w2.heap.size := by rw [← hw2]; simp
  have L2 := h.out.later hB2
  obtain ⟨-, c1, -, -, -, -⟩ := h.out.cells
  obtain ⟨j0, j1, j2, j3⟩ := h.out.code.at hx
  obtain ⟨i0, i1, i2, i3⟩ := KX.ci
  have hkc : (k : Int) < (C.length : Int) := by omega
  have HB2 := hide_ hB2
  have HWy := hide_ (fun w3 (hB : Below w2.heap.size w2 w3) => pways_any b cc ce gs gq _ ae enc C E S Q vb k w3 hk hcc hcl (hide_ hC.out.cd) (hide_ (L2.later hB)))
  have HId := hide_ (idle_any b cc ce gs gq _ ae enc C E S Q vb k w2 hk hC (hide_ L2))
  have HW : Hid (bareP C E S Q k = []) := hide_ (by unfold bareP; rw [hxA]; repeat (first | rw [if_pos (by omega)] | rw [if_neg (by omega)]))
  have Hop := hide_ hop
  clear hop hB2 KX L2 hx hxA h
  go_enter Tryz.func38, Tryz.ntmps38
  go_upto_region 2 with fail
  try rw [hw2]
  clear hw2 c1 j0 j1 j2 j3
  rw [Hop.out] at i0
  go_wp2_with fail
  go_ret
  exact ⟨_, rfl, hide_ (by rw [HW.out]; exact IOwn.nil _ _), HB2⟩
set_option maxRecDepth 100000 in
set_option maxHeartbeats 4000000 in
theorem bare_8 (b cc ce gs gq : Nat) (ac ae : Option Addr) (enc : Bool) (C : List In) (E : List Int) (S : List St) (Q : List Bool) (vb : Value) (k : Nat) (w : World) (hk : k < C.length) (hcc : C.length ≤ cc) (hcl : cc ≤ 9223372036854775807) (hC : Hid (CeOk enc C E)) (h : Hid (PtS w b cc ce gs gq ac ae enc C E S Q vb)) (hop : (inA C k).op = 8) : Calls Tryz.prog 38 #[.pointer (some ⟨b, 0, none⟩), .int .i64 (k : Int)] w fun e w' => ∃ v, e = .returned v ∧ Hid (IOwn w' w.heap.size v (bareP C E S Q k)) ∧ Hid (Below w.heap.size w w') := by
  obtain ⟨bc, oc, hac⟩ := h.out.adr hk
  subst hac
  obtain ⟨x, hx⟩ : ∃ x, C[k]? = some x := ⟨_, List.getElem?_eq_getElem hk⟩
  have hxA : inA C k = x := inA_at hx
  rw [hxA] at hop
  obtain ⟨w2, hw2⟩ : ∃ wx, w.alloc (.cells #[.int .i64 x.op, .int .i64 x.a, .int .i64 x.b, .int .i64 x.c] 37) = wx := ⟨_, rfl⟩
  have hB2 : Below w.heap.size w w2 := by rw [← hw2]; exact below1 _ _
  have KX : Blk w2 w.heap.size 37 (inc x) := by rw [← hw2]; exact Blk.newA w _ _
  have hz : w.heap.size + 1 ≤ w2.heap.size := by rw [← hw2]; simp
  have L2 := h.out.later hB2
  obtain ⟨-, c1, -, -, -, -⟩ := h.out.cells
  obtain ⟨j0, j1, j2, j3⟩ := h.out.code.at hx
  obtain ⟨i0, i1, i2, i3⟩ := KX.ci
  have hkc : (k : Int) < (C.length : Int) := by omega
  have HB2 := hide_ hB2
  have HWy := hide_ (fun w3 (hB : Below w2.heap.size w2 w3) => pways_any b cc ce gs gq _ ae enc C E S Q vb k w3 hk hcc hcl (hide_ hC.out.cd) (hide_ (L2.later hB)))
  have HId := hide_ (idle_any b cc ce gs gq _ ae enc C E S Q vb k w2 hk hC (hide_ L2))
  have HW : Hid (bareP C E S Q k = []) := hide_ (by unfold bareP; rw [hxA]; repeat (first | rw [if_pos (by omega)] | rw [if_neg (by omega)]))
  have Hop := hide_ hop
  clear hop hB2 KX L2 hx hxA h
  go_enter Tryz.func38, Tryz.ntmps38
  go_upto_region 2 with fail
  try rw [hw2]
  clear hw2 c1 j0 j1 j2 j3
  rw [Hop.out] at i0
  go_wp2_with fail
  go_ret
  exact ⟨_, rfl, hide_ (by rw [HW.out]; exact IOwn.nil _ _), HB2⟩
set_option maxRecDepth 100000 in
set_option maxHeartbeats 4000000 in
theorem bare_10 (b cc ce gs gq : Nat) (ac ae : Option Addr) (enc : Bool) (C : List In) (E : List Int) (S : List St) (Q : List Bool) (vb : Value) (k : Nat) (w : World) (hk : k < C.length) (hcc : C.length ≤ cc) (hcl : cc ≤ 9223372036854775807) (hC : Hid (CeOk enc C E)) (h : Hid (PtS w b cc ce gs gq ac ae enc C E S Q vb)) (hop : (inA C k).op = 10) : Calls Tryz.prog 38 #[.pointer (some ⟨b, 0, none⟩), .int .i64 (k : Int)] w fun e w' => ∃ v, e = .returned v ∧ Hid (IOwn w' w.heap.size v (bareP C E S Q k)) ∧ Hid (Below w.heap.size w w') := by
  obtain ⟨bc, oc, hac⟩ := h.out.adr hk
  subst hac
  obtain ⟨x, hx⟩ : ∃ x, C[k]? = some x := ⟨_, List.getElem?_eq_getElem hk⟩
  have hxA : inA C k = x := inA_at hx
  rw [hxA] at hop
  obtain ⟨w2, hw2⟩ : ∃ wx, w.alloc (.cells #[.int .i64 x.op, .int .i64 x.a, .int .i64 x.b, .int .i64 x.c] 37) = wx := ⟨_, rfl⟩
  have hB2 : Below w.heap.size w w2 := by rw [← hw2]; exact below1 _ _
  have KX : Blk w2 w.heap.size 37 (inc x) := by rw [← hw2]; exact Blk.newA w _ _
  have hz : w.heap.size + 1 ≤ w2.heap.size := by rw [← hw2]; simp
  have L2 := h.out.later hB2
  obtain ⟨-, c1, -, -, -, -⟩ := h.out.cells
  obtain ⟨j0, j1, j2, j3⟩ := h.out.code.at hx
  obtain ⟨i0, i1, i2, i3⟩ := KX.ci
  have hkc : (k : Int) < (C.length : Int) := by omega
  have HB2 := hide_ hB2
  have HWy := hide_ (fun w3 (hB : Below w2.heap.size w2 w3) => pways_any b cc ce gs gq _ ae enc C E S Q vb k w3 hk hcc hcl (hide_ hC.out.cd) (hide_ (L2.later hB)))
  have HId := hide_ (idle_any b cc ce gs gq _ ae enc C E S Q vb k w2 hk hC (hide_ L2))
  have HW : Hid (bareP C E S Q k = []) := hide_ (by unfold bareP; rw [hxA]; repeat (first | rw [if_pos (by omega)] | rw [if_neg (by omega)]))
  have Hop := hide_ hop
  clear hop hB2 KX L2 hx hxA h
  go_enter Tryz.func38, Tryz.ntmps38
  go_upto_region 2 with fail
  try rw [hw2]
  clear hw2 c1 j0 j1 j2 j3
  rw [Hop.out] at i0
  go_wp2_with fail
  go_ret
  exact ⟨_, rfl, hide_ (by rw [HW.out]; exact IOwn.nil _ _), HB2⟩
set_option maxRecDepth 100000 in
set_option maxHeartbeats 4000000 in
theorem bare_33 (b cc ce gs gq : Nat) (ac ae : Option Addr) (enc : Bool) (C : List In) (E : List Int) (S : List St) (Q : List Bool) (vb : Value) (k : Nat) (w : World) (hk : k < C.length) (hcc : C.length ≤ cc) (hcl : cc ≤ 9223372036854775807) (hC : Hid (CeOk enc C E)) (h : Hid (PtS w b cc ce gs gq ac ae enc C E S Q vb)) (hop : (inA C k).op = 33) : Calls Tryz.prog 38 #[.pointer (some ⟨b, 0, none⟩), .int .i64 (k : Int)] w fun e w' => ∃ v, e = .returned v ∧ Hid (IOwn w' w.heap.size v (bareP C E S Q k)) ∧ Hid (Below w.heap.size w w') := by
  obtain ⟨bc, oc, hac⟩ := h.out.adr hk
  subst hac
  obtain ⟨x, hx⟩ : ∃ x, C[k]? = some x := ⟨_, List.getElem?_eq_getElem hk⟩
  have hxA : inA C k = x := inA_at hx
  rw [hxA] at hop
  obtain ⟨w2, hw2⟩ : ∃ wx, w.alloc (.cells #[.int .i64 x.op, .int .i64 x.a, .int .i64 x.b, .int .i64 x.c] 37) = wx := ⟨_, rfl⟩
  have hB2 : Below w.heap.size w w2 := by rw [← hw2]; exact below1 _ _
  have KX : Blk w2 w.heap.size 37 (inc x) := by rw [← hw2]; exact Blk.newA w _ _
  have hz : w.heap.size + 1 ≤ w2.heap.size := by rw [← hw2]; simp
  have L2 := h.out.later hB2
  obtain ⟨-, c1, -, -, -, -⟩ := h.out.cells
  obtain ⟨j0, j1, j2, j3⟩ := h.out.code.at hx
  obtain ⟨i0, i1, i2, i3⟩ := KX.ci
  have hkc : (k : Int) < (C.length : Int) := by omega
  have HB2 := hide_ hB2
  have HWy := hide_ (fun w3 (hB : Below w2.heap.size w2 w3) => pways_any b cc ce gs gq _ ae enc C E S Q vb k w3 hk hcc hcl (hide_ hC.out.cd) (hide_ (L2.later hB)))
  have HId := hide_ (idle_any b cc ce gs gq _ ae enc C E S Q vb k w2 hk hC (hide_ L2))
  have HW : Hid (bareP C E S Q k = []) := hide_ (by unfold bareP; rw [hxA]; repeat (first | rw [if_pos (by omega)] | rw [if_neg (by omega)]))
  have Hop := hide_ hop
  clear hop hB2 KX L2 hx hxA h
  go_enter Tryz.func38, Tryz.ntmps38
  go_upto_region 2 with fail
  try rw [hw2]
  clear hw2 c1 j0 j1 j2 j3
  rw [Hop.out] at i0
  go_wp2_with fail
  go_ret
  exact ⟨_, rfl, hide_ (by rw [HW.out]; exact IOwn.nil _ _), HB2⟩
set_option maxRecDepth 100000 in
set_option maxHeartbeats 4000000 in
theorem bare_34 (b cc ce gs gq : Nat) (ac ae : Option Addr) (enc : Bool) (C : List In) (E : List Int) (S : List St) (Q : List Bool) (vb : Value) (k : Nat) (w : World) (hk : k < C.length) (hcc : C.length ≤ cc) (hcl : cc ≤ 9223372036854775807) (hC : Hid (CeOk enc C E)) (h : Hid (PtS w b cc ce gs gq ac ae enc C E S Q vb)) (hop : (inA C k).op = 34) : Calls Tryz.prog 38 #[.pointer (some ⟨b, 0, none⟩), .int .i64 (k : Int)] w fun e w' => ∃ v, e = .returned v ∧ Hid (IOwn w' w.heap.size v (bareP C E S Q k)) ∧ Hid (Below w.heap.size w w') := by
  obtain ⟨bc, oc, hac⟩ := h.out.adr hk
  subst hac
  obtain ⟨x, hx⟩ : ∃ x, C[k]? = some x := ⟨_, List.getElem?_eq_getElem hk⟩
  have hxA : inA C k = x := inA_at hx
  rw [hxA] at hop
  obtain ⟨w2, hw2⟩ : ∃ wx, w.alloc (.cells #[.int .i64 x.op, .int .i64 x.a, .int .i64 x.b, .int .i64 x.c] 37) = wx := ⟨_, rfl⟩
  have hB2 : Below w.heap.size w w2 := by rw [← hw2]; exact below1 _ _
  have KX : Blk w2 w.heap.size 37 (inc x) := by rw [← hw2]; exact Blk.newA w _ _
  have hz : w.heap.size + 1 ≤ w2.heap.size := by rw [← hw2]; simp
  have L2 := h.out.later hB2
  obtain ⟨-, c1, -, -, -, -⟩ := h.out.cells
  obtain ⟨j0, j1, j2, j3⟩ := h.out.code.at hx
  obtain ⟨i0, i1, i2, i3⟩ := KX.ci
  have hkc : (k : Int) < (C.length : Int) := by omega
  have HB2 := hide_ hB2
  have HWy := hide_ (fun w3 (hB : Below w2.heap.size w2 w3) => pways_any b cc ce gs gq _ ae enc C E S Q vb k w3 hk hcc hcl (hide_ hC.out.cd) (hide_ (L2.later hB)))
  have HId := hide_ (idle_any b cc ce gs gq _ ae enc C E S Q vb k w2 hk hC (hide_ L2))
  have HW : Hid (bareP C E S Q k = []) := hide_ (by unfold bareP; rw [hxA]; repeat (first | rw [if_pos (by omega)] | rw [if_neg (by omega)]))
  have Hop := hide_ hop
  clear hop hB2 KX L2 hx hxA h
  go_enter Tryz.func38, Tryz.ntmps38
  go_upto_region 2 with fail
  try rw [hw2]
  clear hw2 c1 j0 j1 j2 j3
  rw [Hop.out] at i0
  go_wp2_with fail
  go_ret
  exact ⟨_, rfl, hide_ (by rw [HW.out]; exact IOwn.nil _ _), HB2⟩
set_option maxRecDepth 100000 in
set_option maxHeartbeats 4000000 in
theorem bare_35 (b cc ce gs gq : Nat) (ac ae : Option Addr) (enc : Bool) (C : List In) (E : List Int) (S : List St) (Q : List Bool) (vb : Value) (k : Nat) (w : World) (hk : k < C.length) (hcc : C.length ≤ cc) (hcl : cc ≤ 9223372036854775807) (hC : Hid (CeOk enc C E)) (h : Hid (PtS w b cc ce gs gq ac ae enc C E S Q vb)) (hop : (inA C k).op = 35) : Calls Tryz.prog 38 #[.pointer (some ⟨b, 0, none⟩), .int .i64 (k : Int)] w fun e w' => ∃ v, e = .returned v ∧ Hid (IOwn w' w.heap.size v (bareP C E S Q k)) ∧ Hid (Below w.heap.size w w') := by
  obtain ⟨bc, oc, hac⟩ := h.out.adr hk
  subst hac
  obtain ⟨x, hx⟩ : ∃ x, C[k]? = some x := ⟨_, List.getElem?_eq_getElem hk⟩
  have hxA : inA C k = x := inA_at hx
  rw [hxA] at hop
  obtain ⟨w2, hw2⟩ : ∃ wx, w.alloc (.cells #[.int .i64 x.op, .int .i64 x.a, .int .i64 x.b, .int .i64 x.c] 37) = wx := ⟨_, rfl⟩
  have hB2 : Below w.heap.size w w2 := by rw [← hw2]; exact below1 _ _
  have KX : Blk w2 w.heap.size 37 (inc x) := by rw [← hw2]; exact Blk.newA w _ _
  have hz : w.heap.size + 1 ≤ w2.heap.size := by rw [← hw2]; simp
  have L2 := h.out.later hB2
  obtain ⟨-, c1, -, -, -, -⟩ := h.out.cells
  obtain ⟨j0, j1, j2, j3⟩ := h.out.code.at hx
  obtain ⟨i0, i1, i2, i3⟩ := KX.ci
  have hkc : (k : Int) < (C.length : Int) := by omega
  have HB2 := hide_ hB2
  have HWy := hide_ (fun w3 (hB : Below w2.heap.size w2 w3) => pways_any b cc ce gs gq _ ae enc C E S Q vb k w3 hk hcc hcl (hide_ hC.out.cd) (hide_ (L2.later hB)))
  have HId := hide_ (idle_any b cc ce gs gq _ ae enc C E S Q vb k w2 hk hC (hide_ L2))
  have HW : Hid (bareP C E S Q k = []) := hide_ (by unfold bareP; rw [hxA]; repeat (first | rw [if_pos (by omega)] | rw [if_neg (by omega)]))
  have Hop := hide_ hop
  clear hop hB2 KX L2 hx hxA h
  go_enter Tryz.func38, Tryz.ntmps38
  go_upto_region 2 with fail
  try rw [hw2]
  clear hw2 c1 j0 j1 j2 j3
  rw [Hop.out] at i0
  go_wp2_with fail
  go_ret
  exact ⟨_, rfl, hide_ (by rw [HW.out]; exact IOwn.nil _ _), HB2⟩
set_option maxRecDepth 100000 in
set_option maxHeartbeats 4000000 in
theorem bare_36 (b cc ce gs gq : Nat) (ac ae : Option Addr) (enc : Bool) (C : List In) (E : List Int) (S : List St) (Q : List Bool) (vb : Value) (k : Nat) (w : World) (hk : k < C.length) (hcc : C.length ≤ cc) (hcl : cc ≤ 9223372036854775807) (hC : Hid (CeOk enc C E)) (h : Hid (PtS w b cc ce gs gq ac ae enc C E S Q vb)) (hop : (inA C k).op = 36) : Calls Tryz.prog 38 #[.pointer (some ⟨b, 0, none⟩), .int .i64 (k : Int)] w fun e w' => ∃ v, e = .returned v ∧ Hid (IOwn w' w.heap.size v (bareP C E S Q k)) ∧ Hid (Below w.heap.size w w') := by
  obtain ⟨bc, oc, hac⟩ := h.out.adr hk
  subst hac
  obtain ⟨x, hx⟩ : ∃ x, C[k]? = some x := ⟨_, List.getElem?_eq_getElem hk⟩
  have hxA : inA C k = x := inA_at hx
  rw [hxA] at hop
  obtain ⟨w2, hw2⟩ : ∃ wx, w.alloc (.cells #[.int .i64 x.op, .int .i64 x.a, .int .i64 x.b, .int .i64 x.c] 37) = wx := ⟨_, rfl⟩
  have hB2 : Below w.heap.size w w2 := by rw [← hw2]; exact below1 _ _
  have KX : Blk w2 w.heap.size 37 (inc x) := by rw [← hw2]; exact Blk.newA w _ _
  have hz : w.heap.size + 1 ≤ w2.heap.size := by rw [← hw2]; simp
  have L2 := h.out.later hB2
  obtain ⟨-, c1, -, -, -, -⟩ := h.out.cells
  obtain ⟨j0, j1, j2, j3⟩ := h.out.code.at hx
  obtain ⟨i0, i1, i2, i3⟩ := KX.ci
  have hkc : (k : Int) < (C.length : Int) := by omega
  have HB2 := hide_ hB2
  have HWy := hide_ (fun w3 (hB : Below w2.heap.size w2 w3) => pways_any b cc ce gs gq _ ae enc C E S Q vb k w3 hk hcc hcl (hide_ hC.out.cd) (hide_ (L2.later hB)))
  have HId := hide_ (idle_any b cc ce gs gq _ ae enc C E S Q vb k w2 hk hC (hide_ L2))
  have HW : Hid (bareP C E S Q k = []) := hide_ (by unfold bareP; rw [hxA]; repeat (first | rw [if_pos (by omega)] | rw [if_neg (by omega)]))
  have Hop := hide_ hop
  clear hop hB2 KX L2 hx hxA h
  go_enter Tryz.func38, Tryz.ntmps38
  go_upto_region 2 with fail
  try rw [hw2]
  clear hw2 c1 j0 j1 j2 j3
  rw [Hop.out] at i0
  go_wp2_with fail
  go_ret
  exact ⟨_, rfl, hide_ (by rw [HW.out]; exact IOwn.nil _ _), HB2⟩
set_option maxRecDepth 100000 in
set_option maxHeartbeats 4000000 in
theorem bare_37 (b cc ce gs gq : Nat) (ac ae : Option Addr) (enc : Bool) (C : List In) (E : List Int) (S : List St) (Q : List Bool) (vb : Value) (k : Nat) (w : World) (hk : k < C.length) (hcc : C.length ≤ cc) (hcl : cc ≤ 9223372036854775807) (hC : Hid (CeOk enc C E)) (h : Hid (PtS w b cc ce gs gq ac ae enc C E S Q vb)) (hop : (inA C k).op = 37) : Calls Tryz.prog 38 #[.pointer (some ⟨b, 0, none⟩), .int .i64 (k : Int)] w fun e w' => ∃ v, e = .returned v ∧ Hid (IOwn w' w.heap.size v (bareP C E S Q k)) ∧ Hid (Below w.heap.size w w') := by
  obtain ⟨bc, oc, hac⟩ := h.out.adr hk
  subst hac
  obtain ⟨x, hx⟩ : ∃ x, C[k]? = some x := ⟨_, List.getElem?_eq_getElem hk⟩
  have hxA : inA C k = x := inA_at hx
  rw [hxA] at hop
  obtain ⟨w2, hw2⟩ : ∃ wx, w.alloc (.cells #[.int .i64 x.op, .int .i64 x.a, .int .i64 x.b, .int .i64 x.c] 37) = wx := ⟨_, rfl⟩
  have hB2 : Below w.heap.size w w2 := by rw [← hw2]; exact below1 _ _
  have KX : Blk w2 w.heap.size 37 (inc x) := by rw [← hw2]; exact Blk.newA w _ _
  have hz : w.heap.size + 1 ≤ w2.heap.size := by rw [← hw2]; simp
  have L2 := h.out.later hB2
  obtain ⟨-, c1, -, -, -, -⟩ := h.out.cells
  obtain ⟨j0, j1, j2, j3⟩ := h.out.code.at hx
  obtain ⟨i0, i1, i2, i3⟩ := KX.ci
  have hkc : (k : Int) < (C.length : Int) := by omega
  have HB2 := hide_ hB2
  have HWy := hide_ (fun w3 (hB : Below w2.heap.size w2 w3) => pways_any b cc ce gs gq _ ae enc C E S Q vb k w3 hk hcc hcl (hide_ hC.out.cd) (hide_ (L2.later hB)))
  have HId := hide_ (idle_any b cc ce gs gq _ ae enc C E S Q vb k w2 hk hC (hide_ L2))
  have HW : Hid (bareP C E S Q k = []) := hide_ (by unfold bareP; rw [hxA]; repeat (first | rw [if_pos (by omega)] | rw [if_neg (by omega)]))
  have Hop := hide_ hop
  clear hop hB2 KX L2 hx hxA h
  go_enter Tryz.func38, Tryz.ntmps38
  go_upto_region 2 with fail
  try rw [hw2]
  clear hw2 c1 j0 j1 j2 j3
  rw [Hop.out] at i0
  go_wp2_with fail
  go_ret
  exact ⟨_, rfl, hide_ (by rw [HW.out]; exact IOwn.nil _ _), HB2⟩
set_option maxRecDepth 100000 in
set_option maxHeartbeats 4000000 in
theorem bare_38 (b cc ce gs gq : Nat) (ac ae : Option Addr) (enc : Bool) (C : List In) (E : List Int) (S : List St) (Q : List Bool) (vb : Value) (k : Nat) (w : World) (hk : k < C.length) (hcc : C.length ≤ cc) (hcl : cc ≤ 9223372036854775807) (hC : Hid (CeOk enc C E)) (h : Hid (PtS w b cc ce gs gq ac ae enc C E S Q vb)) (hop : (inA C k).op = 38) : Calls Tryz.prog 38 #[.pointer (some ⟨b, 0, none⟩), .int .i64 (k : Int)] w fun e w' => ∃ v, e = .returned v ∧ Hid (IOwn w' w.heap.size v (bareP C E S Q k)) ∧ Hid (Below w.heap.size w w') := by
  obtain ⟨bc, oc, hac⟩ := h.out.adr hk
  subst hac
  obtain ⟨x, hx⟩ : ∃ x, C[k]? = some x := ⟨_, List.getElem?_eq_getElem hk⟩
  have hxA : inA C k = x := inA_at hx
  rw [hxA] at hop
  obtain ⟨w2, hw2⟩ : ∃ wx, w.alloc (.cells #[.int .i64 x.op, .int .i64 x.a, .int .i64 x.b, .int .i64 x.c] 37) = wx := ⟨_, rfl⟩
  have hB2 : Below w.heap.size w w2 := by rw [← hw2]; exact below1 _ _
  have KX : Blk w2 w.heap.size 37 (inc x) := by rw [← hw2]; exact Blk.newA w _ _
  have hz : w.heap.size + 1 ≤ w2.heap.size := by rw [← hw2]; simp
  have L2 := h.out.later hB2
  obtain ⟨-, c1, -, -, -, -⟩ := h.out.cells
  obtain ⟨j0, j1, j2, j3⟩ := h.out.code.at hx
  obtain ⟨i0, i1, i2, i3⟩ := KX.ci
  have hkc : (k : Int) < (C.length : Int) := by omega
  have HB2 := hide_ hB2
  have HWy := hide_ (fun w3 (hB : Below w2.heap.size w2 w3) => pways_any b cc ce gs gq _ ae enc C E S Q vb k w3 hk hcc hcl (hide_ hC.out.cd) (hide_ (L2.later hB)))
  have HId := hide_ (idle_any b cc ce gs gq _ ae enc C E S Q vb k w2 hk hC (hide_ L2))
  have HW : Hid (bareP C E S Q k = []) := hide_ (by unfold bareP; rw [hxA]; repeat (first | rw [if_pos (by omega)] | rw [if_neg (by omega)]))
  have Hop := hide_ hop
  clear hop hB2 KX L2 hx hxA h
  go_enter Tryz.func38, Tryz.ntmps38
  go_upto_region 2 with fail
  try rw [hw2]
  clear hw2 c1 j0 j1 j2 j3
  rw [Hop.out] at i0
  go_wp2_with fail
  go_ret
  exact ⟨_, rfl, hide_ (by rw [HW.out]; exact IOwn.nil _ _), HB2⟩
set_option maxRecDepth 100000 in
set_option maxHeartbeats 4000000 in
theorem bare_39 (b cc ce gs gq : Nat) (ac ae : Option Addr) (enc : Bool) (C : List In) (E : List Int) (S : List St) (Q : List Bool) (vb : Value) (k : Nat) (w : World) (hk : k < C.length) (hcc : C.length ≤ cc) (hcl : cc ≤ 9223372036854775807) (hC : Hid (CeOk enc C E)) (h : Hid (PtS w b cc ce gs gq ac ae enc C E S Q vb)) (hop : (inA C k).op = 39) : Calls Tryz.prog 38 #[.pointer (some ⟨b, 0, none⟩), .int .i64 (k : Int)] w fun e w' => ∃ v, e = .returned v ∧ Hid (IOwn w' w.heap.size v (bareP C E S Q k)) ∧ Hid (Below w.heap.size w w') := by
  obtain ⟨bc, oc, hac⟩ := h.out.adr hk
  subst hac
  obtain ⟨x, hx⟩ : ∃ x, C[k]? = some x := ⟨_, List.getElem?_eq_getElem hk⟩
  have hxA : inA C k = x := inA_at hx
  rw [hxA] at hop
  obtain ⟨w2, hw2⟩ : ∃ wx, w.alloc (.cells #[.int .i64 x.op, .int .i64 x.a, .int .i64 x.b, .int .i64 x.c] 37) = wx := ⟨_, rfl⟩
  have hB2 : Below w.heap.size w w2 := by rw [← hw2]; exact below1 _ _
  have KX : Blk w2 w.heap.size 37 (inc x) := by rw [← hw2]; exact Blk.newA w _ _
  have hz : w.heap.size + 1 ≤ w2.heap.size := by rw [← hw2]; simp
  have L2 := h.out.later hB2
  obtain ⟨-, c1, -, -, -, -⟩ := h.out.cells
  obtain ⟨j0, j1, j2, j3⟩ := h.out.code.at hx
  obtain ⟨i0, i1, i2, i3⟩ := KX.ci
  have hkc : (k : Int) < (C.length : Int) := by omega
  have HB2 := hide_ hB2
  have HWy := hide_ (fun w3 (hB : Below w2.heap.size w2 w3) => pways_any b cc ce gs gq _ ae enc C E S Q vb k w3 hk hcc hcl (hide_ hC.out.cd) (hide_ (L2.later hB)))
  have HId := hide_ (idle_any b cc ce gs gq _ ae enc C E S Q vb k w2 hk hC (hide_ L2))
  have HW : Hid (bareP C E S Q k = []) := hide_ (by unfold bareP; rw [hxA]; repeat (first | rw [if_pos (by omega)] | rw [if_neg (by omega)]))
  have Hop := hide_ hop
  clear hop hB2 KX L2 hx hxA h
  go_enter Tryz.func38, Tryz.ntmps38
  go_upto_region 2 with fail
  try rw [hw2]
  clear hw2 c1 j0 j1 j2 j3
  rw [Hop.out] at i0
  go_wp2_with fail
  go_ret
  exact ⟨_, rfl, hide_ (by rw [HW.out]; exact IOwn.nil _ _), HB2⟩
set_option maxRecDepth 100000 in
set_option maxHeartbeats 4000000 in
theorem bare_40 (b cc ce gs gq : Nat) (ac ae : Option Addr) (enc : Bool) (C : List In) (E : List Int) (S : List St) (Q : List Bool) (vb : Value) (k : Nat) (w : World) (hk : k < C.length) (hcc : C.length ≤ cc) (hcl : cc ≤ 9223372036854775807) (hC : Hid (CeOk enc C E)) (h : Hid (PtS w b cc ce gs gq ac ae enc C E S Q vb)) (hop : (inA C k).op = 40) : Calls Tryz.prog 38 #[.pointer (some ⟨b, 0, none⟩), .int .i64 (k : Int)] w fun e w' => ∃ v, e = .returned v ∧ Hid (IOwn w' w.heap.size v (bareP C E S Q k)) ∧ Hid (Below w.heap.size w w') := by
  obtain ⟨bc, oc, hac⟩ := h.out.adr hk
  subst hac
  obtain ⟨x, hx⟩ : ∃ x, C[k]? = some x := ⟨_, List.getElem?_eq_getElem hk⟩
  have hxA : inA C k = x := inA_at hx
  rw [hxA] at hop
  obtain ⟨w2, hw2⟩ : ∃ wx, w.alloc (.cells #[.int .i64 x.op, .int .i64 x.a, .int .i64 x.b, .int .i64 x.c] 37) = wx := ⟨_, rfl⟩
  have hB2 : Below w.heap.size w w2 := by rw [← hw2]; exact below1 _ _
  have KX : Blk w2 w.heap.size 37 (inc x) := by rw [← hw2]; exact Blk.newA w _ _
  have hz : w.heap.size + 1 ≤ w2.heap.size := by rw [← hw2]; simp
  have L2 := h.out.later hB2
  obtain ⟨-, c1, -, -, -, -⟩ := h.out.cells
  obtain ⟨j0, j1, j2, j3⟩ := h.out.code.at hx
  obtain ⟨i0, i1, i2, i3⟩ := KX.ci
  have hkc : (k : Int) < (C.length : Int) := by omega
  have HB2 := hide_ hB2
  have HWy := hide_ (fun w3 (hB : Below w2.heap.size w2 w3) => pways_any b cc ce gs gq _ ae enc C E S Q vb k w3 hk hcc hcl (hide_ hC.out.cd) (hide_ (L2.later hB)))
  have HId := hide_ (idle_any b cc ce gs gq _ ae enc C E S Q vb k w2 hk hC (hide_ L2))
  have HW : Hid (bareP C E S Q k = []) := hide_ (by unfold bareP; rw [hxA]; repeat (first | rw [if_pos (by omega)] | rw [if_neg (by omega)]))
  have Hop := hide_ hop
  clear hop hB2 KX L2 hx hxA h
  go_enter Tryz.func38, Tryz.ntmps38
  go_upto_region 2 with fail
  try rw [hw2]
  clear hw2 c1 j0 j1 j2 j3
  rw [Hop.out] at i0
  go_wp2_with fail
  go_ret
  exact ⟨_, rfl, hide_ (by rw [HW.out]; exact IOwn.nil _ _), HB2⟩
set_option maxRecDepth 100000 in
set_option maxHeartbeats 4000000 in
theorem bare_41 (b cc ce gs gq : Nat) (ac ae : Option Addr) (enc : Bool) (C : List In) (E : List Int) (S : List St) (Q : List Bool) (vb : Value) (k : Nat) (w : World) (hk : k < C.length) (hcc : C.length ≤ cc) (hcl : cc ≤ 9223372036854775807) (hC : Hid (CeOk enc C E)) (h : Hid (PtS w b cc ce gs gq ac ae enc C E S Q vb)) (hop : (inA C k).op = 41) : Calls Tryz.prog 38 #[.pointer (some ⟨b, 0, none⟩), .int .i64 (k : Int)] w fun e w' => ∃ v, e = .returned v ∧ Hid (IOwn w' w.heap.size v (bareP C E S Q k)) ∧ Hid (Below w.heap.size w w') := by
  obtain ⟨bc, oc, hac⟩ := h.out.adr hk
  subst hac
  obtain ⟨x, hx⟩ : ∃ x, C[k]? = some x := ⟨_, List.getElem?_eq_getElem hk⟩
  have hxA : inA C k = x := inA_at hx
  rw [hxA] at hop
  obtain ⟨w2, hw2⟩ : ∃ wx, w.alloc (.cells #[.int .i64 x.op, .int .i64 x.a, .int .i64 x.b, .int .i64 x.c] 37) = wx := ⟨_, rfl⟩
  have hB2 : Below w.heap.size w w2 := by rw [← hw2]; exact below1 _ _
  have KX : Blk w2 w.heap.size 37 (inc x) := by rw [← hw2]; exact Blk.newA w _ _
  have hz : w.heap.size + 1 ≤ w2.heap.size := by rw [← hw2]; simp
  have L2 := h.out.later hB2
  obtain ⟨-, c1, -, -, -, -⟩ := h.out.cells
  obtain ⟨j0, j1, j2, j3⟩ := h.out.code.at hx
  obtain ⟨i0, i1, i2, i3⟩ := KX.ci
  have hkc : (k : Int) < (C.length : Int) := by omega
  have HB2 := hide_ hB2
  have HWy := hide_ (fun w3 (hB : Below w2.heap.size w2 w3) => pways_any b cc ce gs gq _ ae enc C E S Q vb k w3 hk hcc hcl (hide_ hC.out.cd) (hide_ (L2.later hB)))
  have HId := hide_ (idle_any b cc ce gs gq _ ae enc C E S Q vb k w2 hk hC (hide_ L2))
  have HW : Hid (bareP C E S Q k = []) := hide_ (by unfold bareP; rw [hxA]; repeat (first | rw [if_pos (by omega)] | rw [if_neg (by omega)]))
  have Hop := hide_ hop
  clear hop hB2 KX L2 hx hxA h
  go_enter Tryz.func38, Tryz.ntmps38
  go_upto_region 2 with fail
  try rw [hw2]
  clear hw2 c1 j0 j1 j2 j3
  rw [Hop.out] at i0
  go_wp2_with fail
  go_ret
  exact ⟨_, rfl, hide_ (by rw [HW.out]; exact IOwn.nil _ _), HB2⟩
set_option maxRecDepth 100000 in
set_option maxHeartbeats 4000000 in
theorem bare_44 (b cc ce gs gq : Nat) (ac ae : Option Addr) (enc : Bool) (C : List In) (E : List Int) (S : List St) (Q : List Bool) (vb : Value) (k : Nat) (w : World) (hk : k < C.length) (hcc : C.length ≤ cc) (hcl : cc ≤ 9223372036854775807) (hC : Hid (CeOk enc C E)) (h : Hid (PtS w b cc ce gs gq ac ae enc C E S Q vb)) (hop : (inA C k).op = 44) : Calls Tryz.prog 38 #[.pointer (some ⟨b, 0, none⟩), .int .i64 (k : Int)] w fun e w' => ∃ v, e = .returned v ∧ Hid (IOwn w' w.heap.size v (bareP C E S Q k)) ∧ Hid (Below w.heap.size w w') := by
  obtain ⟨bc, oc, hac⟩ := h.out.adr hk
  subst hac
  obtain ⟨x, hx⟩ : ∃ x, C[k]? = some x := ⟨_, List.getElem?_eq_getElem hk⟩
  have hxA : inA C k = x := inA_at hx
  rw [hxA] at hop
  obtain ⟨w2, hw2⟩ : ∃ wx, w.alloc (.cells #[.int .i64 x.op, .int .i64 x.a, .int .i64 x.b, .int .i64 x.c] 37) = wx := ⟨_, rfl⟩
  have hB2 : Below w.heap.size w w2 := by rw [← hw2]; exact below1 _ _
  have KX : Blk w2 w.heap.size 37 (inc x) := by rw [← hw2]; exact Blk.newA w _ _
  have hz : w.heap.size + 1 ≤ w2.heap.size := by rw [← hw2]; simp
  have L2 := h.out.later hB2
  obtain ⟨-, c1, -, -, -, -⟩ := h.out.cells
  obtain ⟨j0, j1, j2, j3⟩ := h.out.code.at hx
  obtain ⟨i0, i1, i2, i3⟩ := KX.ci
  have hkc : (k : Int) < (C.length : Int) := by omega
  have HB2 := hide_ hB2
  have HWy := hide_ (fun w3 (hB : Below w2.heap.size w2 w3) => pways_any b cc ce gs gq _ ae enc C E S Q vb k w3 hk hcc hcl (hide_ hC.out.cd) (hide_ (L2.later hB)))
  have HId := hide_ (idle_any b cc ce gs gq _ ae enc C E S Q vb k w2 hk hC (hide_ L2))
  have HW : Hid (bareP C E S Q k = []) := hide_ (by unfold bareP; rw [hxA]; repeat (first | rw [if_pos (by omega)] | rw [if_neg (by omega)]))
  have Hop := hide_ hop
  clear hop hB2 KX L2 hx hxA h
  go_enter Tryz.func38, Tryz.ntmps38
  go_upto_region 2 with fail
  try rw [hw2]
  clear hw2 c1 j0 j1 j2 j3
  rw [Hop.out] at i0
  go_wp2_with fail
  go_ret
  exact ⟨_, rfl, hide_ (by rw [HW.out]; exact IOwn.nil _ _), HB2⟩
set_option maxRecDepth 100000 in
set_option maxHeartbeats 4000000 in
theorem bare_45 (b cc ce gs gq : Nat) (ac ae : Option Addr) (enc : Bool) (C : List In) (E : List Int) (S : List St) (Q : List Bool) (vb : Value) (k : Nat) (w : World) (hk : k < C.length) (hcc : C.length ≤ cc) (hcl : cc ≤ 9223372036854775807) (hC : Hid (CeOk enc C E)) (h : Hid (PtS w b cc ce gs gq ac ae enc C E S Q vb)) (hop : (inA C k).op = 45) : Calls Tryz.prog 38 #[.pointer (some ⟨b, 0, none⟩), .int .i64 (k : Int)] w fun e w' => ∃ v, e = .returned v ∧ Hid (IOwn w' w.heap.size v (bareP C E S Q k)) ∧ Hid (Below w.heap.size w w') := by
  obtain ⟨bc, oc, hac⟩ := h.out.adr hk
  subst hac
  obtain ⟨x, hx⟩ : ∃ x, C[k]? = some x := ⟨_, List.getElem?_eq_getElem hk⟩
  have hxA : inA C k = x := inA_at hx
  rw [hxA] at hop
  obtain ⟨w2, hw2⟩ : ∃ wx, w.alloc (.cells #[.int .i64 x.op, .int .i64 x.a, .int .i64 x.b, .int .i64 x.c] 37) = wx := ⟨_, rfl⟩
  have hB2 : Below w.heap.size w w2 := by rw [← hw2]; exact below1 _ _
  have KX : Blk w2 w.heap.size 37 (inc x) := by rw [← hw2]; exact Blk.newA w _ _
  have hz : w.heap.size + 1 ≤ w2.heap.size := by rw [← hw2]; simp
  have L2 := h.out.later hB2
  obtain ⟨-, c1, -, -, -, -⟩ := h.out.cells
  obtain ⟨j0, j1, j2, j3⟩ := h.out.code.at hx
  obtain ⟨i0, i1, i2, i3⟩ := KX.ci
  have hkc : (k : Int) < (C.length : Int) := by omega
  have HB2 := hide_ hB2
  have HWy := hide_ (fun w3 (hB : Below w2.heap.size w2 w3) => pways_any b cc ce gs gq _ ae enc C E S Q vb k w3 hk hcc hcl (hide_ hC.out.cd) (hide_ (L2.later hB)))
  have HId := hide_ (idle_any b cc ce gs gq _ ae enc C E S Q vb k w2 hk hC (hide_ L2))
  have HW : Hid (bareP C E S Q k = []) := hide_ (by unfold bareP; rw [hxA]; repeat (first | rw [if_pos (by omega)] | rw [if_neg (by omega)]))
  have Hop := hide_ hop
  clear hop hB2 KX L2 hx hxA h
  go_enter Tryz.func38, Tryz.ntmps38
  go_upto_region 2 with fail
  try rw [hw2]
  clear hw2 c1 j0 j1 j2 j3
  rw [Hop.out] at i0
  go_wp2_with fail
  go_ret
  exact ⟨_, rfl, hide_ (by rw [HW.out]; exact IOwn.nil _ _), HB2⟩
set_option maxRecDepth 100000 in
set_option maxHeartbeats 4000000 in
theorem bare_46 (b cc ce gs gq : Nat) (ac ae : Option Addr) (enc : Bool) (C : List In) (E : List Int) (S : List St) (Q : List Bool) (vb : Value) (k : Nat) (w : World) (hk : k < C.length) (hcc : C.length ≤ cc) (hcl : cc ≤ 9223372036854775807) (hC : Hid (CeOk enc C E)) (h : Hid (PtS w b cc ce gs gq ac ae enc C E S Q vb)) (hop : (inA C k).op = 46) : Calls Tryz.prog 38 #[.pointer (some ⟨b, 0, none⟩), .int .i64 (k : Int)] w fun e w' => ∃ v, e = .returned v ∧ Hid (IOwn w' w.heap.size v (bareP C E S Q k)) ∧ Hid (Below w.heap.size w w') := by
  obtain ⟨bc, oc, hac⟩ := h.out.adr hk
  subst hac
  obtain ⟨x, hx⟩ : ∃ x, C[k]? = some x := ⟨_, List.getElem?_eq_getElem hk⟩
  have hxA : inA C k = x := inA_at hx
  rw [hxA] at hop
  obtain ⟨w2, hw2⟩ : ∃ wx, w.alloc (.cells #[.int .i64 x.op, .int .i64 x.a, .int .i64 x.b, .int .i64 x.c] 37) = wx := ⟨_, rfl⟩
  have hB2 : Below w.heap.size w w2 := by rw [← hw2]; exact below1 _ _
  have KX : Blk w2 w.heap.size 37 (inc x) := by rw [← hw2]; exact Blk.newA w _ _
  have hz : w.heap.size + 1 ≤ w2.heap.size := by rw [← hw2]; simp
  have L2 := h.out.later hB2
  obtain ⟨-, c1, -, -, -, -⟩ := h.out.cells
  obtain ⟨j0, j1, j2, j3⟩ := h.out.code.at hx
  obtain ⟨i0, i1, i2, i3⟩ := KX.ci
  have hkc : (k : Int) < (C.length : Int) := by omega
  have HB2 := hide_ hB2
  have HWy := hide_ (fun w3 (hB : Below w2.heap.size w2 w3) => pways_any b cc ce gs gq _ ae enc C E S Q vb k w3 hk hcc hcl (hide_ hC.out.cd) (hide_ (L2.later hB)))
  have HId := hide_ (idle_any b cc ce gs gq _ ae enc C E S Q vb k w2 hk hC (hide_ L2))
  have HW : Hid (bareP C E S Q k = []) := hide_ (by unfold bareP; rw [hxA]; repeat (first | rw [if_pos (by omega)] | rw [if_neg (by omega)]))
  have Hop := hide_ hop
  clear hop hB2 KX L2 hx hxA h
  go_enter Tryz.func38, Tryz.ntmps38
  go_upto_region 2 with fail
  try rw [hw2]
  clear hw2 c1 j0 j1 j2 j3
  rw [Hop.out] at i0
  go_wp2_with fail
  go_ret
  exact ⟨_, rfl, hide_ (by rw [HW.out]; exact IOwn.nil _ _), HB2⟩
set_option maxRecDepth 100000 in
set_option maxHeartbeats 4000000 in
theorem bare_11 (b cc ce gs gq : Nat) (ac ae : Option Addr) (enc : Bool) (C : List In) (E : List Int) (S : List St) (Q : List Bool) (vb : Value) (k : Nat) (w : World) (hk : k < C.length) (hcc : C.length ≤ cc) (hcl : cc ≤ 9223372036854775807) (hC : Hid (CeOk enc C E)) (h : Hid (PtS w b cc ce gs gq ac ae enc C E S Q vb)) (hop : (inA C k).op = 11) : Calls Tryz.prog 38 #[.pointer (some ⟨b, 0, none⟩), .int .i64 (k : Int)] w fun e w' => ∃ v, e = .returned v ∧ Hid (IOwn w' w.heap.size v (bareP C E S Q k)) ∧ Hid (Below w.heap.size w w') := by
  obtain ⟨bc, oc, hac⟩ := h.out.adr hk
  subst hac
  obtain ⟨x, hx⟩ : ∃ x, C[k]? = some x := ⟨_, List.getElem?_eq_getElem hk⟩
  have hxA : inA C k = x := inA_at hx
  rw [hxA] at hop
  obtain ⟨w2, hw2⟩ : ∃ wx, w.alloc (.cells #[.int .i64 x.op, .int .i64 x.a, .int .i64 x.b, .int .i64 x.c] 37) = wx := ⟨_, rfl⟩
  have hB2 : Below w.heap.size w w2 := by rw [← hw2]; exact below1 _ _
  have KX : Blk w2 w.heap.size 37 (inc x) := by rw [← hw2]; exact Blk.newA w _ _
  have hz : w.heap.size + 1 ≤ w2.heap.size := by rw [← hw2]; simp
  have L2 := h.out.later hB2
  obtain ⟨-, c1, -, -, -, -⟩ := h.out.cells
  obtain ⟨j0, j1, j2, j3⟩ := h.out.code.at hx
  obtain ⟨i0, i1, i2, i3⟩ := KX.ci
  have hkc : (k : Int) < (C.length : Int) := by omega
  have HB2 := hide_ hB2
  have HWy := hide_ (fun w3 (hB : Below w2.heap.size w2 w3) => pways_any b cc ce gs gq _ ae enc C E S Q vb k w3 hk hcc hcl (hide_ hC.out.cd) (hide_ (L2.later hB)))
  have HId := hide_ (idle_any b cc ce gs gq _ ae enc C E S Q vb k w2 hk hC (hide_ L2))
  have HW : Hid (bareP C E S Q k = [x.b]) := hide_ (by unfold bareP; rw [hxA]; repeat (first | rw [if_pos (by omega)] | rw [if_neg (by omega)]))
  have Hop := hide_ hop
  clear hop hB2 KX L2 hx hxA h
  go_enter Tryz.func38, Tryz.ntmps38
  go_upto_region 2 with fail
  try rw [hw2]
  clear hw2 c1 j0 j1 j2 j3
  rw [Hop.out] at i0
  go_wp2_with fail
  go_ret
  refine ⟨_, rfl, hide_ ?_, hide_ (HB2.out.alloc (by omega) _)⟩
  rw [HW.out]
  exact own_base (newI w2 #[.int .i64 x.b] [x.b] rfl (by simp)) (by omega)
set_option maxRecDepth 100000 in
set_option maxHeartbeats 4000000 in
theorem bare_17 (b cc ce gs gq : Nat) (ac ae : Option Addr) (enc : Bool) (C : List In) (E : List Int) (S : List St) (Q : List Bool) (vb : Value) (k : Nat) (w : World) (hk : k < C.length) (hcc : C.length ≤ cc) (hcl : cc ≤ 9223372036854775807) (hC : Hid (CeOk enc C E)) (h : Hid (PtS w b cc ce gs gq ac ae enc C E S Q vb)) (hop : (inA C k).op = 17) : Calls Tryz.prog 38 #[.pointer (some ⟨b, 0, none⟩), .int .i64 (k : Int)] w fun e w' => ∃ v, e = .returned v ∧ Hid (IOwn w' w.heap.size v (bareP C E S Q k)) ∧ Hid (Below w.heap.size w w') := by
  obtain ⟨bc, oc, hac⟩ := h.out.adr hk
  subst hac
  obtain ⟨x, hx⟩ : ∃ x, C[k]? = some x := ⟨_, List.getElem?_eq_getElem hk⟩
  have hxA : inA C k = x := inA_at hx
  rw [hxA] at hop
  obtain ⟨w2, hw2⟩ : ∃ wx, w.alloc (.cells #[.int .i64 x.op, .int .i64 x.a, .int .i64 x.b, .int .i64 x.c] 37) = wx := ⟨_, rfl⟩
  have hB2 : Below w.heap.size w w2 := by rw [← hw2]; exact below1 _ _
  have KX : Blk w2 w.heap.size 37 (inc x) := by rw [← hw2]; exact Blk.newA w _ _
  have hz : w.heap.size + 1 ≤ w2.heap.size := by rw [← hw2]; simp
  have L2 := h.out.later hB2
  obtain ⟨-, c1, -, -, -, -⟩ := h.out.cells
  obtain ⟨j0, j1, j2, j3⟩ := h.out.code.at hx
  obtain ⟨i0, i1, i2, i3⟩ := KX.ci
  have hkc : (k : Int) < (C.length : Int) := by omega
  have HB2 := hide_ hB2
  have HWy := hide_ (fun w3 (hB : Below w2.heap.size w2 w3) => pways_any b cc ce gs gq _ ae enc C E S Q vb k w3 hk hcc hcl (hide_ hC.out.cd) (hide_ (L2.later hB)))
  have HId := hide_ (idle_any b cc ce gs gq _ ae enc C E S Q vb k w2 hk hC (hide_ L2))
  by_cases ha : x.a = -1
  · have HW : Hid (bareP C E S Q k = []) := hide_ (by unfold bareP; rw [hxA]; repeat (first | rw [if_pos (by omega)] | rw [if_neg (by omega)]))
    have Ha := hide_ ha
    clear ha
    have Hop := hide_ hop
    clear hop hB2 KX L2 hx hxA h
    go_enter Tryz.func38, Tryz.ntmps38
    go_upto_region 2 with fail
    try rw [hw2]
    clear hw2 c1 j0 j1 j2 j3
    rw [Hop.out] at i0
    have f0 : (x.a == -1) = true := by simpa using Ha.out
    go_wp2_with fail
    go_ret
    exact ⟨_, rfl, hide_ (by rw [HW.out]; exact IOwn.nil _ _), HB2⟩
  · have HW : Hid (bareP C E S Q k = waysP C k) := hide_ (by unfold bareP; rw [hxA]; repeat (first | rw [if_pos (by omega)] | rw [if_neg (by omega)]))
    have Ha := hide_ ha
    clear ha
    have Hop := hide_ hop
    clear hop hB2 KX L2 hx hxA h
    go_enter Tryz.func38, Tryz.ntmps38
    go_upto_region 2 with fail
    try rw [hw2]
    clear hw2 c1 j0 j1 j2 j3
    rw [Hop.out] at i0
    have f0 : (x.a == -1) = false := by simpa using Ha.out
    go_wp2_with fail
    refine (HWy.out w2 (Below.refl _ _)).mono ?_
    rintro e w4 ⟨v, rfl, HO, HB4⟩
    go_wp2_with fail
    go_ret
    exact ⟨v, rfl, hide_ (by rw [HW.out]; exact own_base HO.out (by have := HB2.out.size; omega)), hide_ (below_to HB2.out HB4.out)⟩
set_option maxRecDepth 100000 in
set_option maxHeartbeats 4000000 in
theorem bare_16 (b cc ce gs gq : Nat) (ac ae : Option Addr) (enc : Bool) (C : List In) (E : List Int) (S : List St) (Q : List Bool) (vb : Value) (k : Nat) (w : World) (hk : k < C.length) (hcc : C.length ≤ cc) (hcl : cc ≤ 9223372036854775807) (hC : Hid (CeOk enc C E)) (h : Hid (PtS w b cc ce gs gq ac ae enc C E S Q vb)) (hop : (inA C k).op = 16) : Calls Tryz.prog 38 #[.pointer (some ⟨b, 0, none⟩), .int .i64 (k : Int)] w fun e w' => ∃ v, e = .returned v ∧ Hid (IOwn w' w.heap.size v (bareP C E S Q k)) ∧ Hid (Below w.heap.size w w') := by
  obtain ⟨bc, oc, hac⟩ := h.out.adr hk
  subst hac
  obtain ⟨x, hx⟩ : ∃ x, C[k]? = some x := ⟨_, List.getElem?_eq_getElem hk⟩
  have hxA : inA C k = x := inA_at hx
  rw [hxA] at hop
  obtain ⟨w2, hw2⟩ : ∃ wx, w.alloc (.cells #[.int .i64 x.op, .int .i64 x.a, .int .i64 x.b, .int .i64 x.c] 37) = wx := ⟨_, rfl⟩
  have hB2 : Below w.heap.size w w2 := by rw [← hw2]; exact below1 _ _
  have KX : Blk w2 w.heap.size 37 (inc x) := by rw [← hw2]; exact Blk.newA w _ _
  have hz : w.heap.size + 1 ≤ w2.heap.size := by rw [← hw2]; simp
  have L2 := h.out.later hB2
  obtain ⟨-, c1, -, -, -, -⟩ := h.out.cells
  obtain ⟨j0, j1, j2, j3⟩ := h.out.code.at hx
  obtain ⟨i0, i1, i2, i3⟩ := KX.ci
  have hkc : (k : Int) < (C.length : Int) := by omega
  have HB2 := hide_ hB2
  have HWy := hide_ (fun w3 (hB : Below w2.heap.size w2 w3) => pways_any b cc ce gs gq _ ae enc C E S Q vb k w3 hk hcc hcl (hide_ hC.out.cd) (hide_ (L2.later hB)))
  have HId := hide_ (idle_any b cc ce gs gq _ ae enc C E S Q vb k w2 hk hC (hide_ L2))
  by_cases hd : idleP C E S Q k = true
  · have HW : Hid (bareP C E S Q k = waysP C k) := hide_ (by unfold bareP; rw [hxA]; repeat (first | rw [if_neg (by rw [hd]; simp)] | rw [if_pos (by omega)] | rw [if_neg (by omega)]))
    have Hd := hide_ hd
    clear hd
    have Hop := hide_ hop
    clear hop hB2 KX L2 hx hxA h
    go_enter Tryz.func38, Tryz.ntmps38
    go_upto_region 2 with fail
    try rw [hw2]
    clear hw2 c1 j0 j1 j2 j3
    rw [Hop.out] at i0
    rw [Hd.out] at HId
    clear Hd
    go_wp2_with fail
    refine HId.out.mono ?_
    rintro e w3 ⟨rfl, hB3⟩
    have HB3 := hide_ (below_to HB2.out hB3)
    have HB23 := hide_ hB3
    clear hB3
    go_wp2_with fail
    refine (HWy.out w3 HB23.out).mono ?_
    rintro e w4 ⟨v, rfl, HO, HB4⟩
    go_wp2_with fail
    go_ret
    exact ⟨v, rfl, hide_ (by rw [HW.out]; exact own_base HO.out (by have := HB3.out.size; omega)), hide_ (below_to HB3.out HB4.out)⟩
  · have hd : idleP C E S Q k = false := by simpa using hd
    have HW : Hid (bareP C E S Q k = []) := hide_ (by unfold bareP; rw [hxA]; repeat (first | rw [if_pos (And.intro hop hd)] | rw [if_pos (by omega)] | rw [if_neg (by omega)]))
    have Hd := hide_ hd
    clear hd
    have Hop := hide_ hop
    clear hop hB2 KX L2 hx hxA h
    go_enter Tryz.func38, Tryz.ntmps38
    go_upto_region 2 with fail
    try rw [hw2]
    clear hw2 c1 j0 j1 j2 j3
    rw [Hop.out] at i0
    rw [Hd.out] at HId
    clear Hd
    go_wp2_with fail
    refine HId.out.mono ?_
    rintro e w3 ⟨rfl, hB3⟩
    have HB3 := hide_ (below_to HB2.out hB3)
    have HB23 := hide_ hB3
    clear hB3
    go_wp2_with fail
    go_ret
    exact ⟨_, rfl, hide_ (by rw [HW.out]; exact IOwn.nil _ _), HB3⟩
set_option maxRecDepth 100000 in
set_option maxHeartbeats 4000000 in
theorem bare_x (b cc ce gs gq : Nat) (ac ae : Option Addr) (enc : Bool) (C : List In) (E : List Int) (S : List St) (Q : List Bool) (vb : Value) (k : Nat) (w : World) (hk : k < C.length) (hcc : C.length ≤ cc) (hcl : cc ≤ 9223372036854775807) (hC : Hid (CeOk enc C E)) (h : Hid (PtS w b cc ce gs gq ac ae enc C E S Q vb)) (hop : (inA C k).op ≠ 1 ∧ (inA C k).op ≠ 2 ∧ (inA C k).op ≠ 3 ∧ (inA C k).op ≠ 4 ∧ (inA C k).op ≠ 7 ∧ (inA C k).op ≠ 8 ∧ (inA C k).op ≠ 10 ∧ (inA C k).op ≠ 33 ∧ (inA C k).op ≠ 34 ∧ (inA C k).op ≠ 35 ∧ (inA C k).op ≠ 36 ∧ (inA C k).op ≠ 37 ∧ (inA C k).op ≠ 38 ∧ (inA C k).op ≠ 39 ∧ (inA C k).op ≠ 40 ∧ (inA C k).op ≠ 41 ∧ (inA C k).op ≠ 44 ∧ (inA C k).op ≠ 45 ∧ (inA C k).op ≠ 46 ∧ (inA C k).op ≠ 11 ∧ (inA C k).op ≠ 17 ∧ (inA C k).op ≠ 16) : Calls Tryz.prog 38 #[.pointer (some ⟨b, 0, none⟩), .int .i64 (k : Int)] w fun e w' => ∃ v, e = .returned v ∧ Hid (IOwn w' w.heap.size v (bareP C E S Q k)) ∧ Hid (Below w.heap.size w w') := by
  obtain ⟨bc, oc, hac⟩ := h.out.adr hk
  subst hac
  obtain ⟨x, hx⟩ : ∃ x, C[k]? = some x := ⟨_, List.getElem?_eq_getElem hk⟩
  have hxA : inA C k = x := inA_at hx
  rw [hxA] at hop
  obtain ⟨w2, hw2⟩ : ∃ wx, w.alloc (.cells #[.int .i64 x.op, .int .i64 x.a, .int .i64 x.b, .int .i64 x.c] 37) = wx := ⟨_, rfl⟩
  have hB2 : Below w.heap.size w w2 := by rw [← hw2]; exact below1 _ _
  have KX : Blk w2 w.heap.size 37 (inc x) := by rw [← hw2]; exact Blk.newA w _ _
  have hz : w.heap.size + 1 ≤ w2.heap.size := by rw [← hw2]; simp
  have L2 := h.out.later hB2
  obtain ⟨-, c1, -, -, -, -⟩ := h.out.cells
  obtain ⟨j0, j1, j2, j3⟩ := h.out.code.at hx
  obtain ⟨i0, i1, i2, i3⟩ := KX.ci
  have hkc : (k : Int) < (C.length : Int) := by omega
  have HB2 := hide_ hB2
  have HWy := hide_ (fun w3 (hB : Below w2.heap.size w2 w3) => pways_any b cc ce gs gq _ ae enc C E S Q vb k w3 hk hcc hcl (hide_ hC.out.cd) (hide_ (L2.later hB)))
  have HId := hide_ (idle_any b cc ce gs gq _ ae enc C E S Q vb k w2 hk hC (hide_ L2))
  have HW : Hid (bareP C E S Q k = waysP C k) := hide_ (by unfold bareP; rw [hxA]; repeat (first | rw [if_pos (by omega)] | rw [if_neg (by omega)]))
  have Hop := hide_ hop
  clear hop hB2 KX L2 hx hxA h
  go_enter Tryz.func38, Tryz.ntmps38
  go_upto_region 2 with fail
  try rw [hw2]
  clear hw2 c1 j0 j1 j2 j3
  have q1 : (x.op == 1) = false := by have := Hop.out; simp; omega
  have q2 : (x.op == 2) = false := by have := Hop.out; simp; omega
  have q3 : (x.op == 3) = false := by have := Hop.out; simp; omega
  have q4 : (x.op == 4) = false := by have := Hop.out; simp; omega
  have q7 : (x.op == 7) = false := by have := Hop.out; simp; omega
  have q8 : (x.op == 8) = false := by have := Hop.out; simp; omega
  have q10 : (x.op == 10) = false := by have := Hop.out; simp; omega
  have q33 : (x.op == 33) = false := by have := Hop.out; simp; omega
  have q34 : (x.op == 34) = false := by have := Hop.out; simp; omega
  have q35 : (x.op == 35) = false := by have := Hop.out; simp; omega
  have q36 : (x.op == 36) = false := by have := Hop.out; simp; omega
  have q37 : (x.op == 37) = false := by have := Hop.out; simp; omega
  have q38 : (x.op == 38) = false := by have := Hop.out; simp; omega
  have q39 : (x.op == 39) = false := by have := Hop.out; simp; omega
  have q40 : (x.op == 40) = false := by have := Hop.out; simp; omega
  have q41 : (x.op == 41) = false := by have := Hop.out; simp; omega
  have q44 : (x.op == 44) = false := by have := Hop.out; simp; omega
  have q45 : (x.op == 45) = false := by have := Hop.out; simp; omega
  have q46 : (x.op == 46) = false := by have := Hop.out; simp; omega
  have q11 : (x.op == 11) = false := by have := Hop.out; simp; omega
  have q17 : (x.op == 17) = false := by have := Hop.out; simp; omega
  have q16 : (x.op == 16) = false := by have := Hop.out; simp; omega
  go_wp2_with fail
  refine (HWy.out w2 (Below.refl _ _)).mono ?_
  rintro e w4 ⟨v, rfl, HO, HB4⟩
  go_wp2_with fail
  go_ret
  exact ⟨v, rfl, hide_ (by rw [HW.out]; exact own_base HO.out (by have := HB2.out.size; omega)), hide_ (below_to HB2.out HB4.out)⟩
theorem bare_any (b cc ce gs gq : Nat) (ac ae : Option Addr) (enc : Bool) (C : List In) (E : List Int) (S : List St) (Q : List Bool) (vb : Value) (k : Nat) (w : World) (hk : k < C.length) (hcc : C.length ≤ cc) (hcl : cc ≤ 9223372036854775807) (hC : Hid (CeOk enc C E)) (h : Hid (PtS w b cc ce gs gq ac ae enc C E S Q vb)) : Calls Tryz.prog 38 #[.pointer (some ⟨b, 0, none⟩), .int .i64 (k : Int)] w fun e w' => ∃ v, e = .returned v ∧ Hid (IOwn w' w.heap.size v (bareP C E S Q k)) ∧ Hid (Below w.heap.size w w') := by
  obtain ⟨bc, oc, hac⟩ := h.out.adr hk
  subst hac
  by_cases h1 : (inA C k).op = 1
  · exact bare_1 b cc ce gs gq _ ae enc C E S Q vb k w hk hcc hcl hC h h1
  by_cases h2 : (inA C k).op = 2
  · exact bare_2 b cc ce gs gq _ ae enc C E S Q vb k w hk hcc hcl hC h h2
  by_cases h3 : (inA C k).op = 3
  · exact bare_3 b cc ce gs gq _ ae enc C E S Q vb k w hk hcc hcl hC h h3
  by_cases h4 : (inA C k).op = 4
  · exact bare_4 b cc ce gs gq _ ae enc C E S Q vb k w hk hcc hcl hC h h4
  by_cases h7 : (inA C k).op = 7
  · exact bare_7 b cc ce gs gq _ ae enc C E S Q vb k w hk hcc hcl hC h h7
  by_cases h8 : (inA C k).op = 8
  · exact bare_8 b cc ce gs gq _ ae enc C E S Q vb k w hk hcc hcl hC h h8
  by_cases h10 : (inA C k).op = 10
  · exact bare_10 b cc ce gs gq _ ae enc C E S Q vb k w hk hcc hcl hC h h10
  by_cases h33 : (inA C k).op = 33
  · exact bare_33 b cc ce gs gq _ ae enc C E S Q vb k w hk hcc hcl hC h h33
  by_cases h34 : (inA C k).op = 34
  · exact bare_34 b cc ce gs gq _ ae enc C E S Q vb k w hk hcc hcl hC h h34
  by_cases h35 : (inA C k).op = 35
  · exact bare_35 b cc ce gs gq _ ae enc C E S Q vb k w hk hcc hcl hC h h35
  by_cases h36 : (inA C k).op = 36
  · exact bare_36 b cc ce gs gq _ ae enc C E S Q vb k w hk hcc hcl hC h h36
  by_cases h37 : (inA C k).op = 37
  · exact bare_37 b cc ce gs gq _ ae enc C E S Q vb k w hk hcc hcl hC h h37
  by_cases h38 : (inA C k).op = 38
  · exact bare_38 b cc ce gs gq _ ae enc C E S Q vb k w hk hcc hcl hC h h38
  by_cases h39 : (inA C k).op = 39
  · exact bare_39 b cc ce gs gq _ ae enc C E S Q vb k w hk hcc hcl hC h h39
  by_cases h40 : (inA C k).op = 40
  · exact bare_40 b cc ce gs gq _ ae enc C E S Q vb k w hk hcc hcl hC h h40
  by_cases h41 : (inA C k).op = 41
  · exact bare_41 b cc ce gs gq _ ae enc C E S Q vb k w hk hcc hcl hC h h41
  by_cases h44 : (inA C k).op = 44
  · exact bare_44 b cc ce gs gq _ ae enc C E S Q vb k w hk hcc hcl hC h h44
  by_cases h45 : (inA C k).op = 45
  · exact bare_45 b cc ce gs gq _ ae enc C E S Q vb k w hk hcc hcl hC h h45
  by_cases h46 : (inA C k).op = 46
  · exact bare_46 b cc ce gs gq _ ae enc C E S Q vb k w hk hcc hcl hC h h46
  by_cases h11 : (inA C k).op = 11
  · exact bare_11 b cc ce gs gq _ ae enc C E S Q vb k w hk hcc hcl hC h h11
  by_cases h17 : (inA C k).op = 17
  · exact bare_17 b cc ce gs gq _ ae enc C E S Q vb k w hk hcc hcl hC h h17
  by_cases h16 : (inA C k).op = 16
  · exact bare_16 b cc ce gs gq _ ae enc C E S Q vb k w hk hcc hcl hC h h16
  exact bare_x b cc ce gs gq _ ae enc C E S Q vb k w hk hcc hcl hC h ⟨h1, h2, h3, h4, h7, h8, h10, h33, h34, h35, h36, h37, h38, h39, h40, h41, h44, h45, h46, h11, h17, h16⟩
end Go.Proofs.YtjamfbpdepahnaaGreat
