import Derived.Test.YtnoigmdmgdcliaaGreatDoorA16
import Derived.Deep.QuietTactic
import Derived.BigQuiet
namespace Go.Proofs.YtnoigmdmgdcliaaGreatDoor
set_option maxRecDepth 100000
set_option maxHeartbeats 8000000
section
open Go.RowKit Go.Extern.Stop Go.Stop Go.Extern Go.Maps Go.WideMaps Go.Sort
variable {cs:List (List Ins)} {a:Nat->Addr} {w:World} {p:MkPl} {K t:Nat} {m:Mk} {i:Nat} {j:Nat} {k:Nat} {L':Nat}
theorem kjump_any{t i:Nat}{L:List Ins}{to:ByteArray}(ht:cs[t]? =some L)(hs:to.size<=maxLen)(hi:labelAt L to=i)(f:Bool)(h:MkAt a cs p m w):
  Calls Tryz.prog 218 #[.pointer (some ⟨p.b,0,none⟩), .int .i64 t, .string to, .bool f] w fun e w'=>e= .returned (.tuple #[])/\MkStep a cs p w p.mv (if f=true then m.jump t L to else m) w':=by
 cases f
 ·exact kjump_no t to h
 ·exact kjump_yes ht hs hi h
theorem kdo_const(D:DoX a cs p m K t w)(L:List Ins)(x:Ins)(e:x.op=⟨#[99,111,110,115,116]⟩)(hi:i<8)(ei:x.a=i):
  Calls Tryz.prog 168 #[.pointer (some ⟨p.b,0,none⟩), .int .i64 t, .agg #[.string x.op, .int .i64 x.a, .int .i64 x.b, .int .i64 x.c, .string x.to]] w fun e w'=>e= .returned (.tuple #[])/\ ∃v,MkStep a cs p w v (m.exec L t x) w':=by
 rw[exec_const m L t e]
 rw[ei]
 simp only[Int.toNat_natCast]
 obtain⟨xo,xa,xb,xc,xt⟩:=x
 dsimp only at e ei ⊢
 subst e ei
 have t6:=D.t6
 have t6i:(t:Int)<6:=by omega
 have hba:Below w.heap.size w (w.alloc (.cells #[.string ⟨#[99,111,110,115,116]⟩, .int .i64 i, .int .i64 xb, .int .i64 xc, .string xt] 57)):=bRf.alloc nL _
 obtain⟨q0,q1,q2,q3,q4⟩:=box5 w 57 (.string ⟨#[99,111,110,115,116]⟩) (.int .i64 i) (.int .i64 xb) (.int .i64 xc) (.string xt)
 have D1:=D.below hba
 have hlw:=D.at'.lt
 have gi:=D1.at'.reg t i t6 (by omega)
 have li:(i:Int)<8:=by omega
 generalize hw:w.alloc (.cells #[.string ⟨#[99,111,110,115,116]⟩, .int .i64 i, .int .i64 xb, .int .i64 xc, .string xt] 57)=w1 at*
 have zi:w1.frozen? ⟨p.b,585+t*9+i,none⟩=false:=D1.at'.frozen _ (by omega) (by omega)
 have HS:Hid (MkStep a cs p w p.mv (m.setReg t i xb) ((w1.setCell ⟨p.b,585+t*9+i,none⟩ (.int .i64 xb)).drew)):=(MkStep.of_below hba (D1.at'.setReg t6 (by omega) xb)).below bRf.drew
 clear D D1 hba
 generalize m.regs t i=Ri at*
 go_enter Tryz.func168,Tryz.ntmps168
 go_wp2_with fail
 clear hw
 refine wp_region_F (S:=(fun w'=>w'.cell? ⟨w.heap.size,1,none⟩=some (.int .i64 i)/\w'.cell? ⟨w.heap.size,2,none⟩=some (.int .i64 xb))) (by kernel_rfl) (by(try dsimp only);go_keep) (fun hHeld=>?_)
 iterate 7
  refine' wpAnyF_next (sz:=8) (n:=7) (v:=_) rfl (by kernel_rfl) (fun _ _ _ h=>h) (by assumption) (Or.inl ⟨by rfl,?_⟩) ?_
  case' refine'_2=>(intro w' hSw;(try dsimp only at hSw);go_simp;try with_reducible rfl)
  try simp only[Act.put,fxs]
 clear hHeld
 refine wpAnyF_only (i:=7) rfl (by kernel_rfl) (fun K hK=>?_)
 go_simp
 refine hK.out _ _ (Or.inl (by kernel_rfl)) ?_
 clear hK K
 try simp only[Act.put,fxs]
 refine wpAnyF_done (by kernel_rfl) ?_ _
 go_wp2
 go_end0
 exact⟨rfl,_,HS.out⟩
theorem kdo_move(D:DoX a cs p m K t w)(L:List Ins)(x:Ins)(e:x.op=⟨#[109,111,118,101]⟩)(hi:i<8)(ei:x.a=i)(hj:j<8)(ej:x.b=j):
  Calls Tryz.prog 168 #[.pointer (some ⟨p.b,0,none⟩), .int .i64 t, .agg #[.string x.op, .int .i64 x.a, .int .i64 x.b, .int .i64 x.c, .string x.to]] w fun e w'=>e= .returned (.tuple #[])/\ ∃v,MkStep a cs p w v (m.exec L t x) w':=by
 rw[exec_move m L t e]
 rw[ei]
 rw[ej]
 simp only[Int.toNat_natCast]
 obtain⟨xo,xa,xb,xc,xt⟩:=x
 dsimp only at e ei ej ⊢
 subst e ei ej
 have t6:=D.t6
 have t6i:(t:Int)<6:=by omega
 have hba:Below w.heap.size w (w.alloc (.cells #[.string ⟨#[109,111,118,101]⟩, .int .i64 i, .int .i64 j, .int .i64 xc, .string xt] 57)):=bRf.alloc nL _
 obtain⟨q0,q1,q2,q3,q4⟩:=box5 w 57 (.string ⟨#[109,111,118,101]⟩) (.int .i64 i) (.int .i64 j) (.int .i64 xc) (.string xt)
 have D1:=D.below hba
 have hlw:=D.at'.lt
 have gi:=D1.at'.reg t i t6 (by omega)
 have gj:=D1.at'.reg t j t6 (by omega)
 have li:(i:Int)<8:=by omega
 have lj:(j:Int)<8:=by omega
 generalize hw:w.alloc (.cells #[.string ⟨#[109,111,118,101]⟩, .int .i64 i, .int .i64 j, .int .i64 xc, .string xt] 57)=w1 at*
 have zi:w1.frozen? ⟨p.b,585+t*9+i,none⟩=false:=D1.at'.frozen _ (by omega) (by omega)
 have HS:Hid (MkStep a cs p w p.mv (m.setReg t i (m.regs t j)) ((w1.setCell ⟨p.b,585+t*9+i,none⟩ (.int .i64 (m.regs t j))).drew)):=(MkStep.of_below hba (D1.at'.setReg t6 (by omega) (m.regs t j))).below bRf.drew
 clear D D1 hba
 generalize m.regs t i=Ri at*
 generalize m.regs t j=Rj at*
 go_enter Tryz.func168,Tryz.ntmps168
 go_wp2_with fail
 clear hw
 refine wp_region_F (S:=(fun w'=>w'.cell? ⟨w.heap.size,1,none⟩=some (.int .i64 i)/\w'.cell? ⟨w.heap.size,2,none⟩=some (.int .i64 j)/\w'.cell? ⟨p.b,585+t*9+i,none⟩=some (.int .i64 Ri)/\w'.cell? ⟨p.b,585+t*9+j,none⟩=some (.int .i64 Rj))) (by kernel_rfl) (by(try dsimp only);go_keep) (fun hHeld=>?_)
 iterate 11
  refine' wpAnyF_next (sz:=12) (n:=11) (v:=_) rfl (by kernel_rfl) (fun _ _ _ h=>h) (by assumption) (Or.inl ⟨by rfl,?_⟩) ?_
  case' refine'_2=>(intro w' hSw;(try dsimp only at hSw);go_simp;try with_reducible rfl)
  try simp only[Act.put,fxs]
 clear hHeld
 refine wpAnyF_only (i:=11) rfl (by kernel_rfl) (fun K hK=>?_)
 go_simp
 refine hK.out _ _ (Or.inl (by kernel_rfl)) ?_
 clear hK K
 try simp only[Act.put,fxs]
 refine wpAnyF_done (by kernel_rfl) ?_ _
 go_wp2
 go_end0
 exact⟨rfl,_,HS.out⟩
theorem kdo_and(D:DoX a cs p m K t w)(L:List Ins)(x:Ins)(e:x.op=⟨#[97,110,100]⟩)(hi:i<8)(ei:x.a=i)(hj:j<8)(ej:x.b=j)(hk:k<8)(ek:x.c=k):
  Calls Tryz.prog 168 #[.pointer (some ⟨p.b,0,none⟩), .int .i64 t, .agg #[.string x.op, .int .i64 x.a, .int .i64 x.b, .int .i64 x.c, .string x.to]] w fun e w'=>e= .returned (.tuple #[])/\ ∃v,MkStep a cs p w v (m.exec L t x) w':=by
 rw[exec_and m L t e]
 rw[ei]
 rw[ej]
 rw[ek]
 simp only[Int.toNat_natCast]
 obtain⟨xo,xa,xb,xc,xt⟩:=x
 dsimp only at e ei ej ek ⊢
 subst e ei ej ek
 have t6:=D.t6
 have t6i:(t:Int)<6:=by omega
 have hba:Below w.heap.size w (w.alloc (.cells #[.string ⟨#[97,110,100]⟩, .int .i64 i, .int .i64 j, .int .i64 k, .string xt] 57)):=bRf.alloc nL _
 obtain⟨q0,q1,q2,q3,q4⟩:=box5 w 57 (.string ⟨#[97,110,100]⟩) (.int .i64 i) (.int .i64 j) (.int .i64 k) (.string xt)
 have D1:=D.below hba
 have hlw:=D.at'.lt
 have gi:=D1.at'.reg t i t6 (by omega)
 have gj:=D1.at'.reg t j t6 (by omega)
 have gk:=D1.at'.reg t k t6 (by omega)
 have li:(i:Int)<8:=by omega
 have lj:(j:Int)<8:=by omega
 have lk:(k:Int)<8:=by omega
 generalize hw:w.alloc (.cells #[.string ⟨#[97,110,100]⟩, .int .i64 i, .int .i64 j, .int .i64 k, .string xt] 57)=w1 at*
 have zi:w1.frozen? ⟨p.b,585+t*9+i,none⟩=false:=D1.at'.frozen _ (by omega) (by omega)
 have HS:Hid (MkStep a cs p w p.mv (m.setReg t i (andW (m.regs t j) (m.regs t k))) ((w1.setCell ⟨p.b,585+t*9+i,none⟩ (.int .i64 (andW (m.regs t j) (m.regs t k)))).drew)):=(MkStep.of_below hba (D1.at'.setReg t6 (by omega) (andW (m.regs t j) (m.regs t k)))).below bRf.drew
 have HB:Hid (bits .and .i64 (m.regs t j) (m.regs t k)=andW (m.regs t j) (m.regs t k)):=and_word (D.ok.regs _ _) (D.ok.regs _ _)
 clear D D1 hba
 generalize m.regs t i=Ri at*
 generalize m.regs t j=Rj at*
 generalize m.regs t k=Rk at*
 go_enter Tryz.func168,Tryz.ntmps168
 go_wp2_with fail
 clear hw
 refine wp_region_F (S:=(fun w'=>w'.cell? ⟨w.heap.size,1,none⟩=some (.int .i64 i)/\w'.cell? ⟨w.heap.size,2,none⟩=some (.int .i64 j)/\w'.cell? ⟨w.heap.size,3,none⟩=some (.int .i64 k)/\w'.cell? ⟨p.b,585+t*9+i,none⟩=some (.int .i64 Ri)/\w'.cell? ⟨p.b,585+t*9+j,none⟩=some (.int .i64 Rj)/\w'.cell? ⟨p.b,585+t*9+k,none⟩=some (.int .i64 Rk))) (by kernel_rfl) (by(try dsimp only);go_keep) (fun hHeld=>?_)
 iterate 18
  refine' wpAnyF_next (sz:=19) (n:=18) (v:=_) rfl (by kernel_rfl) (fun _ _ _ h=>h) (by assumption) (Or.inl ⟨by rfl,?_⟩) ?_
  case' refine'_2=>(intro w' hSw;(try dsimp only at hSw);go_simp;try with_reducible rfl)
  try simp only[Act.put,fxs]
 clear hHeld
 refine wpAnyF_only (i:=18) rfl (by kernel_rfl) (fun K hK=>?_)
 go_simp
 refine hK.out _ _ (Or.inl (by kernel_rfl)) ?_
 clear hK K
 try simp only[Act.put,fxs]
 refine wpAnyF_done (by kernel_rfl) ?_ _
 go_wp2
 go_end0
 rw[HB.out]
 exact⟨rfl,_,HS.out⟩
theorem kdo_xor(D:DoX a cs p m K t w)(L:List Ins)(x:Ins)(e:x.op=⟨#[120,111,114]⟩)(hi:i<8)(ei:x.a=i)(hj:j<8)(ej:x.b=j)(hk:k<8)(ek:x.c=k):
  Calls Tryz.prog 168 #[.pointer (some ⟨p.b,0,none⟩), .int .i64 t, .agg #[.string x.op, .int .i64 x.a, .int .i64 x.b, .int .i64 x.c, .string x.to]] w fun e w'=>e= .returned (.tuple #[])/\ ∃v,MkStep a cs p w v (m.exec L t x) w':=by
 rw[exec_xor m L t e]
 rw[ei]
 rw[ej]
 rw[ek]
 simp only[Int.toNat_natCast]
 obtain⟨xo,xa,xb,xc,xt⟩:=x
 dsimp only at e ei ej ek ⊢
 subst e ei ej ek
 have t6:=D.t6
 have t6i:(t:Int)<6:=by omega
 have hba:Below w.heap.size w (w.alloc (.cells #[.string ⟨#[120,111,114]⟩, .int .i64 i, .int .i64 j, .int .i64 k, .string xt] 57)):=bRf.alloc nL _
 obtain⟨q0,q1,q2,q3,q4⟩:=box5 w 57 (.string ⟨#[120,111,114]⟩) (.int .i64 i) (.int .i64 j) (.int .i64 k) (.string xt)
 have D1:=D.below hba
 have hlw:=D.at'.lt
 have gi:=D1.at'.reg t i t6 (by omega)
 have gj:=D1.at'.reg t j t6 (by omega)
 have gk:=D1.at'.reg t k t6 (by omega)
 have li:(i:Int)<8:=by omega
 have lj:(j:Int)<8:=by omega
 have lk:(k:Int)<8:=by omega
 generalize hw:w.alloc (.cells #[.string ⟨#[120,111,114]⟩, .int .i64 i, .int .i64 j, .int .i64 k, .string xt] 57)=w1 at*
 have zi:w1.frozen? ⟨p.b,585+t*9+i,none⟩=false:=D1.at'.frozen _ (by omega) (by omega)
 have HS:Hid (MkStep a cs p w p.mv (m.setReg t i (xorW (m.regs t j) (m.regs t k))) ((w1.setCell ⟨p.b,585+t*9+i,none⟩ (.int .i64 (xorW (m.regs t j) (m.regs t k)))).drew)):=(MkStep.of_below hba (D1.at'.setReg t6 (by omega) (xorW (m.regs t j) (m.regs t k)))).below bRf.drew
 have HB:Hid (bits .xor .i64 (m.regs t j) (m.regs t k)=xorW (m.regs t j) (m.regs t k)):=xor_word (D.ok.regs _ _) (D.ok.regs _ _)
 clear D D1 hba
 generalize m.regs t i=Ri at*
 generalize m.regs t j=Rj at*
 generalize m.regs t k=Rk at*
 go_enter Tryz.func168,Tryz.ntmps168
 go_wp2_with fail
 clear hw
 refine wp_region_F (S:=(fun w'=>w'.cell? ⟨w.heap.size,1,none⟩=some (.int .i64 i)/\w'.cell? ⟨w.heap.size,2,none⟩=some (.int .i64 j)/\w'.cell? ⟨w.heap.size,3,none⟩=some (.int .i64 k)/\w'.cell? ⟨p.b,585+t*9+i,none⟩=some (.int .i64 Ri)/\w'.cell? ⟨p.b,585+t*9+j,none⟩=some (.int .i64 Rj)/\w'.cell? ⟨p.b,585+t*9+k,none⟩=some (.int .i64 Rk))) (by kernel_rfl) (by(try dsimp only);go_keep) (fun hHeld=>?_)
 iterate 18
  refine' wpAnyF_next (sz:=19) (n:=18) (v:=_) rfl (by kernel_rfl) (fun _ _ _ h=>h) (by assumption) (Or.inl ⟨by rfl,?_⟩) ?_
  case' refine'_2=>(intro w' hSw;(try dsimp only at hSw);go_simp;try with_reducible rfl)
  try simp only[Act.put,fxs]
 clear hHeld
 refine wpAnyF_only (i:=18) rfl (by kernel_rfl) (fun K hK=>?_)
 go_simp
 refine hK.out _ _ (Or.inl (by kernel_rfl)) ?_
 clear hK K
 try simp only[Act.put,fxs]
 refine wpAnyF_done (by kernel_rfl) ?_ _
 go_wp2
 go_end0
 rw[HB.out]
 exact⟨rfl,_,HS.out⟩
theorem kdo_add(D:DoX a cs p m K t w)(L:List Ins)(x:Ins)(e:x.op=⟨#[97,100,100]⟩)(hi:i<8)(ei:x.a=i)(hj:j<8)(ej:x.b=j)(hk:k<8)(ek:x.c=k):
  Calls Tryz.prog 168 #[.pointer (some ⟨p.b,0,none⟩), .int .i64 t, .agg #[.string x.op, .int .i64 x.a, .int .i64 x.b, .int .i64 x.c, .string x.to]] w fun e w'=>e= .returned (.tuple #[])/\ ∃v,MkStep a cs p w v (m.exec L t x) w':=by
 rw[exec_add m L t e]
 rw[ei]
 rw[ej]
 rw[ek]
 simp only[Int.toNat_natCast]
 obtain⟨xo,xa,xb,xc,xt⟩:=x
 dsimp only at e ei ej ek ⊢
 subst e ei ej ek
 have t6:=D.t6
 have t6i:(t:Int)<6:=by omega
 have hba:Below w.heap.size w (w.alloc (.cells #[.string ⟨#[97,100,100]⟩, .int .i64 i, .int .i64 j, .int .i64 k, .string xt] 57)):=bRf.alloc nL _
 obtain⟨q0,q1,q2,q3,q4⟩:=box5 w 57 (.string ⟨#[97,100,100]⟩) (.int .i64 i) (.int .i64 j) (.int .i64 k) (.string xt)
 have D1:=D.below hba
 have hlw:=D.at'.lt
 have gi:=D1.at'.reg t i t6 (by omega)
 have gj:=D1.at'.reg t j t6 (by omega)
 have gk:=D1.at'.reg t k t6 (by omega)
 have li:(i:Int)<8:=by omega
 have lj:(j:Int)<8:=by omega
 have lk:(k:Int)<8:=by omega
 generalize hw:w.alloc (.cells #[.string ⟨#[97,100,100]⟩, .int .i64 i, .int .i64 j, .int .i64 k, .string xt] 57)=w1 at*
 have hj:=D.ok.regs t j
 have hk:=D.ok.regs t k
 have hw1:IntKind.i64.wrap (m.regs t j+m.regs t k)=m.regs t j+m.regs t k:=by obtain⟨_,_⟩:=hj;obtain⟨_,_⟩:=hk;rw[IntKind.wrap_i64];omega
 have H1:=hide D1.at'
 have zi:w1.frozen? ⟨p.b,585+t*9+i,none⟩=false:=D1.at'.frozen _ (by omega) (by omega)
 have HS:Hid (MkStep a cs p w p.mv (m.setReg t i ((m.regs t j+m.regs t k) % 4294967296)) ((w1.setCell ⟨p.b,585+t*9+i,none⟩ (.int .i64 ((m.regs t j+m.regs t k) % 4294967296))).drew)):=(MkStep.of_below hba (D1.at'.setReg t6 (by omega) ((m.regs t j+m.regs t k) % 4294967296))).below bRf.drew
 clear D D1 hba hj hk H1
 generalize m.regs t i=Ri at*
 generalize m.regs t j=Rj at*
 generalize m.regs t k=Rk at*
 go_enter Tryz.func168,Tryz.ntmps168
 go_wp2_with fail
 clear hw
 refine wp_region_F (S:=(fun w'=>w'.cell? ⟨w.heap.size,1,none⟩=some (.int .i64 i)/\w'.cell? ⟨w.heap.size,2,none⟩=some (.int .i64 j)/\w'.cell? ⟨w.heap.size,3,none⟩=some (.int .i64 k)/\w'.cell? ⟨p.b,585+t*9+i,none⟩=some (.int .i64 Ri)/\w'.cell? ⟨p.b,585+t*9+j,none⟩=some (.int .i64 Rj)/\w'.cell? ⟨p.b,585+t*9+k,none⟩=some (.int .i64 Rk))) (by kernel_rfl) (by(try dsimp only);go_keep) (fun hHeld=>?_)
 iterate 16
  refine' wpAnyF_next (sz:=20) (n:=19) (v:=_) rfl (by kernel_rfl) (fun _ _ _ h=>h) (by assumption) (Or.inl ⟨by rfl,?_⟩) ?_
  case' refine'_2=>(intro w' hSw;(try dsimp only at hSw);go_simp;try with_reducible rfl)
  try simp only[Act.put,fxs]
 refine' wpAnyF_take (i:=17) (n:=19) (v:=_) rfl (by kernel_rfl) (fun _ _ _ h=>h) (by assumption) (Or.inl ⟨by rfl,?hy71⟩) ?rest71
 case' hy71=>(intro w' hSw;(try dsimp only at hSw);go_simp;try with_reducible rfl)
 try simp only[Act.put,fxs]
 refine wpAnyF_only (i:=16) rfl (by kernel_rfl) (fun K hK=>?_)
 go_simp
 go_at_call 217
 refine(round_any _ _).mono ?_
 rintro e w4 ⟨rfl,rfl⟩
 dsimp only
 refine hK.out _ _ (Or.inr (by(try dsimp only);exact hHeld)) ?_
 clear hK K
 try simp only[Act.put,fxs]
 refine' wpAnyF_take (i:=18) (n:=19) (v:=_) rfl (by kernel_rfl) (fun _ _ _ h=>h) (by assumption) (Or.inl ⟨by rfl,?hy72⟩) ?rest72
 case' hy72=>(intro w' hSw;(try dsimp only at hSw);go_simp;try with_reducible rfl)
 try simp only[Act.put,fxs]
 clear hHeld
 refine wpAnyF_only (i:=19) rfl (by kernel_rfl) (fun K hK=>?_)
 go_simp
 refine hK.out _ _ (Or.inl (by kernel_rfl)) ?_
 clear hK K
 try simp only[Act.put,fxs]
 refine wpAnyF_done (by kernel_rfl) ?_ _
 go_wp2
 go_end0
 exact⟨rfl,_,HS.out⟩
theorem kdo_sub(D:DoX a cs p m K t w)(L:List Ins)(x:Ins)(e:x.op=⟨#[115,117,98]⟩)(hi:i<8)(ei:x.a=i)(hj:j<8)(ej:x.b=j)(hk:k<8)(ek:x.c=k):
  Calls Tryz.prog 168 #[.pointer (some ⟨p.b,0,none⟩), .int .i64 t, .agg #[.string x.op, .int .i64 x.a, .int .i64 x.b, .int .i64 x.c, .string x.to]] w fun e w'=>e= .returned (.tuple #[])/\ ∃v,MkStep a cs p w v (m.exec L t x) w':=by
 rw[exec_sub m L t e]
 rw[ei]
 rw[ej]
 rw[ek]
 simp only[Int.toNat_natCast]
 obtain⟨xo,xa,xb,xc,xt⟩:=x
 dsimp only at e ei ej ek ⊢
 subst e ei ej ek
 have t6:=D.t6
 have t6i:(t:Int)<6:=by omega
 have hba:Below w.heap.size w (w.alloc (.cells #[.string ⟨#[115,117,98]⟩, .int .i64 i, .int .i64 j, .int .i64 k, .string xt] 57)):=bRf.alloc nL _
 obtain⟨q0,q1,q2,q3,q4⟩:=box5 w 57 (.string ⟨#[115,117,98]⟩) (.int .i64 i) (.int .i64 j) (.int .i64 k) (.string xt)
 have D1:=D.below hba
 have hlw:=D.at'.lt
 have gi:=D1.at'.reg t i t6 (by omega)
 have gj:=D1.at'.reg t j t6 (by omega)
 have gk:=D1.at'.reg t k t6 (by omega)
 have li:(i:Int)<8:=by omega
 have lj:(j:Int)<8:=by omega
 have lk:(k:Int)<8:=by omega
 generalize hw:w.alloc (.cells #[.string ⟨#[115,117,98]⟩, .int .i64 i, .int .i64 j, .int .i64 k, .string xt] 57)=w1 at*
 have hj:=D.ok.regs t j
 have hk:=D.ok.regs t k
 have hw1:IntKind.i64.wrap (m.regs t j - m.regs t k)=m.regs t j - m.regs t k:=by obtain⟨_,_⟩:=hj;obtain⟨_,_⟩:=hk;rw[IntKind.wrap_i64];omega
 have H1:=hide D1.at'
 have zi:w1.frozen? ⟨p.b,585+t*9+i,none⟩=false:=D1.at'.frozen _ (by omega) (by omega)
 have HS:Hid (MkStep a cs p w p.mv (m.setReg t i ((m.regs t j - m.regs t k) % 4294967296)) ((w1.setCell ⟨p.b,585+t*9+i,none⟩ (.int .i64 ((m.regs t j - m.regs t k) % 4294967296))).drew)):=(MkStep.of_below hba (D1.at'.setReg t6 (by omega) ((m.regs t j - m.regs t k) % 4294967296))).below bRf.drew
 clear D D1 hba hj hk H1
 generalize m.regs t i=Ri at*
 generalize m.regs t j=Rj at*
 generalize m.regs t k=Rk at*
 go_enter Tryz.func168,Tryz.ntmps168
 go_wp2_with fail
 clear hw
 refine wp_region_F (S:=(fun w'=>w'.cell? ⟨w.heap.size,1,none⟩=some (.int .i64 i)/\w'.cell? ⟨w.heap.size,2,none⟩=some (.int .i64 j)/\w'.cell? ⟨w.heap.size,3,none⟩=some (.int .i64 k)/\w'.cell? ⟨p.b,585+t*9+i,none⟩=some (.int .i64 Ri)/\w'.cell? ⟨p.b,585+t*9+j,none⟩=some (.int .i64 Rj)/\w'.cell? ⟨p.b,585+t*9+k,none⟩=some (.int .i64 Rk))) (by kernel_rfl) (by(try dsimp only);go_keep) (fun hHeld=>?_)
 iterate 16
  refine' wpAnyF_next (sz:=20) (n:=19) (v:=_) rfl (by kernel_rfl) (fun _ _ _ h=>h) (by assumption) (Or.inl ⟨by rfl,?_⟩) ?_
  case' refine'_2=>(intro w' hSw;(try dsimp only at hSw);go_simp;try with_reducible rfl)
  try simp only[Act.put,fxs]
 refine' wpAnyF_take (i:=17) (n:=19) (v:=_) rfl (by kernel_rfl) (fun _ _ _ h=>h) (by assumption) (Or.inl ⟨by rfl,?hy89⟩) ?rest89
 case' hy89=>(intro w' hSw;(try dsimp only at hSw);go_simp;try with_reducible rfl)
 try simp only[Act.put,fxs]
 refine wpAnyF_only (i:=16) rfl (by kernel_rfl) (fun K hK=>?_)
 go_simp
 go_at_call 217
 refine(round_any _ _).mono ?_
 rintro e w4 ⟨rfl,rfl⟩
 dsimp only
 refine hK.out _ _ (Or.inr (by(try dsimp only);exact hHeld)) ?_
 clear hK K
 try simp only[Act.put,fxs]
 refine' wpAnyF_take (i:=18) (n:=19) (v:=_) rfl (by kernel_rfl) (fun _ _ _ h=>h) (by assumption) (Or.inl ⟨by rfl,?hy90⟩) ?rest90
 case' hy90=>(intro w' hSw;(try dsimp only at hSw);go_simp;try with_reducible rfl)
 try simp only[Act.put,fxs]
 clear hHeld
 refine wpAnyF_only (i:=19) rfl (by kernel_rfl) (fun K hK=>?_)
 go_simp
 refine hK.out _ _ (Or.inl (by kernel_rfl)) ?_
 clear hK K
 try simp only[Act.put,fxs]
 refine wpAnyF_done (by kernel_rfl) ?_ _
 go_wp2
 go_end0
 exact⟨rfl,_,HS.out⟩
theorem kdo_zero(D:DoX a cs p m K t w)(L:List Ins)(x:Ins)(e:x.op=⟨#[122,101,114,111]⟩)(hi:i<8)(ei:x.a=i)(ht:cs[t]? =some L)(hs:x.to.size<=maxLen)(hi:labelAt L x.to=L'):
  Calls Tryz.prog 168 #[.pointer (some ⟨p.b,0,none⟩), .int .i64 t, .agg #[.string x.op, .int .i64 x.a, .int .i64 x.b, .int .i64 x.c, .string x.to]] w fun e w'=>e= .returned (.tuple #[])/\ ∃v,MkStep a cs p w v (m.exec L t x) w':=by
 rw[exec_zero m L t e]
 rw[ei]
 simp only[Int.toNat_natCast]
 obtain⟨xo,xa,xb,xc,xt⟩:=x
 dsimp only at e ei hs hi ⊢
 subst e ei
 have t6:=D.t6
 have t6i:(t:Int)<6:=by omega
 have hba:Below w.heap.size w (w.alloc (.cells #[.string ⟨#[122,101,114,111]⟩, .int .i64 i, .int .i64 xb, .int .i64 xc, .string xt] 57)):=bRf.alloc nL _
 obtain⟨q0,q1,q2,q3,q4⟩:=box5 w 57 (.string ⟨#[122,101,114,111]⟩) (.int .i64 i) (.int .i64 xb) (.int .i64 xc) (.string xt)
 have D1:=D.below hba
 have hlw:=D.at'.lt
 have gi:=D1.at'.reg t i t6 (by omega)
 have li:(i:Int)<8:=by omega
 generalize hw:w.alloc (.cells #[.string ⟨#[122,101,114,111]⟩, .int .i64 i, .int .i64 xb, .int .i64 xc, .string xt] 57)=w1 at*
 have HL:Hid (Calls Tryz.prog 218 #[.pointer (some ⟨p.b,0,none⟩), .int .i64 t, .string xt, .bool (m.regs t i==0)] (w1.drewN 1) fun e w''=>e= .returned (.tuple #[])/\Hid (∃v,MkStep a cs p w v (if m.regs t i=0 then m.jump t L xt else m) w'')):=
  (kjump_any ht hs hi _ (D1.at'.drewN 1)).mono fun e w'' ⟨e1,e2⟩=>⟨e1,⟨_,by have e3:=MkStep.of_below (below_dN hba 1) e2;simpa only[beq_iff_eq] using e3⟩⟩
 clear D D1 hba
 generalize (if m.regs t i=0 then m.jump t L xt else m)=m1 at*
 generalize m.regs t i=Ri at*
 go_enter Tryz.func168,Tryz.ntmps168
 go_wp2_with fail
 clear hw
 refine wp_region_F (S:=(fun w'=>w'.cell? ⟨w.heap.size,1,none⟩=some (.int .i64 i)/\w'.cell? ⟨w.heap.size,4,none⟩=some (.string xt)/\w'.cell? ⟨p.b,585+t*9+i,none⟩=some (.int .i64 Ri))) (by kernel_rfl) (by(try dsimp only);go_keep) (fun hHeld=>?_)
 iterate 11
  refine' wpAnyF_next (sz:=12) (n:=11) (v:=_) rfl (by kernel_rfl) (fun _ _ _ h=>h) (by assumption) (Or.inl ⟨by rfl,?_⟩) ?_
  case' refine'_2=>(intro w' hSw;(try dsimp only at hSw);go_simp;try with_reducible rfl)
  try simp only[Act.put,fxs]
 refine wpAnyF_only (i:=11) rfl (by kernel_rfl) (fun K hK=>?_)
 go_simp
 go_at_call 218
 refine HL.out.mono ?_
 rintro e w4 ⟨rfl,k4⟩
 dsimp only
 refine hK.out _ _ (Or.inl (by kernel_rfl)) ?_
 clear hK K
 try simp only[Act.put,fxs]
 refine wpAnyF_done (by kernel_rfl) ?_ _
 go_wp2
 go_end0
 exact⟨rfl,k4.out⟩
theorem kdo_same(D:DoX a cs p m K t w)(L:List Ins)(x:Ins)(e:x.op=⟨#[115,97,109,101]⟩)(hi:i<8)(ei:x.a=i)(hj:j<8)(ej:x.b=j)(ht:cs[t]? =some L)(hs:x.to.size<=maxLen)(hi:labelAt L x.to=L'):
  Calls Tryz.prog 168 #[.pointer (some ⟨p.b,0,none⟩), .int .i64 t, .agg #[.string x.op, .int .i64 x.a, .int .i64 x.b, .int .i64 x.c, .string x.to]] w fun e w'=>e= .returned (.tuple #[])/\ ∃v,MkStep a cs p w v (m.exec L t x) w':=by
 rw[exec_same m L t e]
 rw[ei]
 rw[ej]
 simp only[Int.toNat_natCast]
 obtain⟨xo,xa,xb,xc,xt⟩:=x
 dsimp only at e ei ej hs hi ⊢
 subst e ei ej
 have t6:=D.t6
 have t6i:(t:Int)<6:=by omega
 have hba:Below w.heap.size w (w.alloc (.cells #[.string ⟨#[115,97,109,101]⟩, .int .i64 i, .int .i64 j, .int .i64 xc, .string xt] 57)):=bRf.alloc nL _
 obtain⟨q0,q1,q2,q3,q4⟩:=box5 w 57 (.string ⟨#[115,97,109,101]⟩) (.int .i64 i) (.int .i64 j) (.int .i64 xc) (.string xt)
 have D1:=D.below hba
 have hlw:=D.at'.lt
 have gi:=D1.at'.reg t i t6 (by omega)
 have gj:=D1.at'.reg t j t6 (by omega)
 have li:(i:Int)<8:=by omega
 have lj:(j:Int)<8:=by omega
 generalize hw:w.alloc (.cells #[.string ⟨#[115,97,109,101]⟩, .int .i64 i, .int .i64 j, .int .i64 xc, .string xt] 57)=w1 at*
 have HL:Hid (Calls Tryz.prog 218 #[.pointer (some ⟨p.b,0,none⟩), .int .i64 t, .string xt, .bool (m.regs t i==m.regs t j)] (w1.drewN 1) fun e w''=>e= .returned (.tuple #[])/\Hid (∃v,MkStep a cs p w v (if m.regs t i=m.regs t j then m.jump t L xt else m) w'')):=
  (kjump_any ht hs hi _ (D1.at'.drewN 1)).mono fun e w'' ⟨e1,e2⟩=>⟨e1,⟨_,by have e3:=MkStep.of_below (below_dN hba 1) e2;simpa only[beq_iff_eq] using e3⟩⟩
 clear D D1 hba
 generalize (if m.regs t i=m.regs t j then m.jump t L xt else m)=m1 at*
 generalize m.regs t i=Ri at*
 generalize m.regs t j=Rj at*
 go_enter Tryz.func168,Tryz.ntmps168
 go_wp2_with fail
 clear hw
 refine wp_region_F (S:=(fun w'=>w'.cell? ⟨w.heap.size,1,none⟩=some (.int .i64 i)/\w'.cell? ⟨w.heap.size,2,none⟩=some (.int .i64 j)/\w'.cell? ⟨w.heap.size,4,none⟩=some (.string xt)/\w'.cell? ⟨p.b,585+t*9+i,none⟩=some (.int .i64 Ri)/\w'.cell? ⟨p.b,585+t*9+j,none⟩=some (.int .i64 Rj))) (by kernel_rfl) (by(try dsimp only);go_keep) (fun hHeld=>?_)
 iterate 17
  refine' wpAnyF_next (sz:=18) (n:=17) (v:=_) rfl (by kernel_rfl) (fun _ _ _ h=>h) (by assumption) (Or.inl ⟨by rfl,?_⟩) ?_
  case' refine'_2=>(intro w' hSw;(try dsimp only at hSw);go_simp;try with_reducible rfl)
  try simp only[Act.put,fxs]
 refine wpAnyF_only (i:=17) rfl (by kernel_rfl) (fun K hK=>?_)
 go_simp
 go_at_call 218
 refine HL.out.mono ?_
 rintro e w4 ⟨rfl,k4⟩
 dsimp only
 refine hK.out _ _ (Or.inl (by kernel_rfl)) ?_
 clear hK K
 try simp only[Act.put,fxs]
 refine wpAnyF_done (by kernel_rfl) ?_ _
 go_wp2
 go_end0
 exact⟨rfl,k4.out⟩
theorem kdo_mark(D:DoX a cs p m K t w)(L:List Ins)(x:Ins)(e:x.op=⟨#[109,97,114,107]⟩)(hi:i<8)(ei:x.a=i):
  Calls Tryz.prog 168 #[.pointer (some ⟨p.b,0,none⟩), .int .i64 t, .agg #[.string x.op, .int .i64 x.a, .int .i64 x.b, .int .i64 x.c, .string x.to]] w fun e w'=>e= .returned (.tuple #[])/\ ∃v,MkStep a cs p w v (m.exec L t x) w':=by
 rw[exec_mark m L t e]
 rw[ei]
 simp only[Int.toNat_natCast]
 obtain⟨xo,xa,xb,xc,xt⟩:=x
 dsimp only at e ei ⊢
 subst e ei
 have t6:=D.t6
 have t6i:(t:Int)<6:=by omega
 have hba:Below w.heap.size w (w.alloc (.cells #[.string ⟨#[109,97,114,107]⟩, .int .i64 i, .int .i64 xb, .int .i64 xc, .string xt] 57)):=bRf.alloc nL _
 obtain⟨q0,q1,q2,q3,q4⟩:=box5 w 57 (.string ⟨#[109,97,114,107]⟩) (.int .i64 i) (.int .i64 xb) (.int .i64 xc) (.string xt)
 have D1:=D.below hba
 have hlw:=D.at'.lt
 have gi:=D1.at'.reg t i t6 (by omega)
 have li:(i:Int)<8:=by omega
 generalize hw:w.alloc (.cells #[.string ⟨#[109,97,114,107]⟩, .int .i64 i, .int .i64 xb, .int .i64 xc, .string xt] 57)=w1 at*
 have HL:Hid (Calls Tryz.prog 219 #[.pointer (some ⟨p.b,0,none⟩), .int .i64 t, .int .i64 (m.regs t i)] (w1.drewN 1) fun e w''=>e= .returned (.tuple #[])/\Hid (∃v,MkStep a cs p w v (m.mark t (m.regs t i)) w'')):=
  (kmark_any t _ (D1.at'.drewN 1) D.ok.marks).mono fun e w'' ⟨e1,e2⟩=>⟨e1,let ⟨v,e3⟩:=e2;⟨v,MkStep.of_below (below_dN hba 1) e3⟩⟩
 clear D D1 hba
 generalize (m.mark t (m.regs t i))=m1 at*
 generalize m.regs t i=Ri at*
 go_enter Tryz.func168,Tryz.ntmps168
 go_wp2_with fail
 clear hw
 refine wp_region_F (S:=(fun w'=>w'.cell? ⟨w.heap.size,1,none⟩=some (.int .i64 i)/\w'.cell? ⟨p.b,585+t*9+i,none⟩=some (.int .i64 Ri))) (by kernel_rfl) (by(try dsimp only);go_keep) (fun hHeld=>?_)
 iterate 8
  refine' wpAnyF_next (sz:=9) (n:=8) (v:=_) rfl (by kernel_rfl) (fun _ _ _ h=>h) (by assumption) (Or.inl ⟨by rfl,?_⟩) ?_
  case' refine'_2=>(intro w' hSw;(try dsimp only at hSw);go_simp;try with_reducible rfl)
  try simp only[Act.put,fxs]
 refine wpAnyF_only (i:=8) rfl (by kernel_rfl) (fun K hK=>?_)
 go_simp
 go_at_call 219
 refine HL.out.mono ?_
 rintro e w4 ⟨rfl,k4⟩
 dsimp only
 refine hK.out _ _ (Or.inl (by kernel_rfl)) ?_
 clear hK K
 try simp only[Act.put,fxs]
 refine wpAnyF_done (by kernel_rfl) ?_ _
 go_wp2
 go_end0
 exact⟨rfl,k4.out⟩
theorem kdo_need(D:DoX a cs p m K t w)(L:List Ins)(x:Ins)(e:x.op=⟨#[110,101,101,100]⟩)(hi:i<8)(ei:x.a=i):
  Calls Tryz.prog 168 #[.pointer (some ⟨p.b,0,none⟩), .int .i64 t, .agg #[.string x.op, .int .i64 x.a, .int .i64 x.b, .int .i64 x.c, .string x.to]] w fun e w'=>e= .returned (.tuple #[])/\ ∃v,MkStep a cs p w v (m.exec L t x) w':=by
 rw[exec_need m L t e]
 rw[ei]
 simp only[Int.toNat_natCast]
 obtain⟨xo,xa,xb,xc,xt⟩:=x
 dsimp only at e ei ⊢
 subst e ei
 have t6:=D.t6
 have t6i:(t:Int)<6:=by omega
 have hba:Below w.heap.size w (w.alloc (.cells #[.string ⟨#[110,101,101,100]⟩, .int .i64 i, .int .i64 xb, .int .i64 xc, .string xt] 57)):=bRf.alloc nL _
 obtain⟨q0,q1,q2,q3,q4⟩:=box5 w 57 (.string ⟨#[110,101,101,100]⟩) (.int .i64 i) (.int .i64 xb) (.int .i64 xc) (.string xt)
 have D1:=D.below hba
 have hlw:=D.at'.lt
 have gi:=D1.at'.reg t i t6 (by omega)
 have li:(i:Int)<8:=by omega
 generalize hw:w.alloc (.cells #[.string ⟨#[110,101,101,100]⟩, .int .i64 i, .int .i64 xb, .int .i64 xc, .string xt] 57)=w1 at*
 have HL:Hid (Calls Tryz.prog 220 #[.pointer (some ⟨p.b,0,none⟩), .int .i64 (m.regs t i)] (w1.drewN 1) fun e w''=>e= .returned (.tuple #[])/\Hid (∃v,MkStep a cs p w v (m.need (m.regs t i)) w'')):=
  (need_any _ (D1.at'.drewN 1) (by have:=D.faults;omega)).mono fun e w'' ⟨e1,e2⟩=>⟨e1,⟨_,MkStep.of_below (below_dN hba 1) e2⟩⟩
 clear D D1 hba
 generalize (m.need (m.regs t i))=m1 at*
 generalize m.regs t i=Ri at*
 go_enter Tryz.func168,Tryz.ntmps168
 go_wp2_with fail
 clear hw
 refine wp_region_F (S:=(fun w'=>w'.cell? ⟨w.heap.size,1,none⟩=some (.int .i64 i)/\w'.cell? ⟨p.b,585+t*9+i,none⟩=some (.int .i64 Ri))) (by kernel_rfl) (by(try dsimp only);go_keep) (fun hHeld=>?_)
 iterate 7
  refine' wpAnyF_next (sz:=8) (n:=7) (v:=_) rfl (by kernel_rfl) (fun _ _ _ h=>h) (by assumption) (Or.inl ⟨by rfl,?_⟩) ?_
  case' refine'_2=>(intro w' hSw;(try dsimp only at hSw);go_simp;try with_reducible rfl)
  try simp only[Act.put,fxs]
 refine wpAnyF_only (i:=7) rfl (by kernel_rfl) (fun K hK=>?_)
 go_simp
 go_at_call 220
 refine HL.out.mono ?_
 rintro e w4 ⟨rfl,k4⟩
 dsimp only
 refine hK.out _ _ (Or.inl (by kernel_rfl)) ?_
 clear hK K
 try simp only[Act.put,fxs]
 refine wpAnyF_done (by kernel_rfl) ?_ _
 go_wp2
 go_end0
 exact⟨rfl,k4.out⟩
theorem kdo_goto(D:DoX a cs p m K t w)(L:List Ins)(x:Ins)(e:x.op=⟨#[103,111,116,111]⟩)(ht:cs[t]? =some L)(hs:x.to.size<=maxLen)(hi:labelAt L x.to=L'):
  Calls Tryz.prog 168 #[.pointer (some ⟨p.b,0,none⟩), .int .i64 t, .agg #[.string x.op, .int .i64 x.a, .int .i64 x.b, .int .i64 x.c, .string x.to]] w fun e w'=>e= .returned (.tuple #[])/\ ∃v,MkStep a cs p w v (m.exec L t x) w':=by
 rw[exec_goto m L t e]
 obtain⟨xo,xa,xb,xc,xt⟩:=x
 dsimp only at e hs hi ⊢
 subst e
 have t6:=D.t6
 have t6i:(t:Int)<6:=by omega
 have hba:Below w.heap.size w (w.alloc (.cells #[.string ⟨#[103,111,116,111]⟩, .int .i64 xa, .int .i64 xb, .int .i64 xc, .string xt] 57)):=bRf.alloc nL _
 obtain⟨q0,q1,q2,q3,q4⟩:=box5 w 57 (.string ⟨#[103,111,116,111]⟩) (.int .i64 xa) (.int .i64 xb) (.int .i64 xc) (.string xt)
 have D1:=D.below hba
 have hlw:=D.at'.lt
 generalize hw:w.alloc (.cells #[.string ⟨#[103,111,116,111]⟩, .int .i64 xa, .int .i64 xb, .int .i64 xc, .string xt] 57)=w1 at*
 have HL:Hid (Calls Tryz.prog 218 #[.pointer (some ⟨p.b,0,none⟩), .int .i64 t, .string xt, .bool true] w1 fun e w''=>e= .returned (.tuple #[])/\Hid (∃v,MkStep a cs p w v (m.jump t L xt) w'')):=
  (kjump_yes ht hs hi D1.at').mono fun e w'' ⟨e1,e2⟩=>⟨e1,⟨_,MkStep.of_below hba e2⟩⟩
 clear D D1 hba
 generalize m.jump t L xt=m1 at*
 go_enter Tryz.func168,Tryz.ntmps168
 go_wp2_with fail
 clear hw
 refine HL.out.mono ?_
 rintro e w4 ⟨rfl,k4⟩
 go_wp2
 go_end0
 exact⟨rfl,k4.out⟩
theorem kdo_load{t:Nat}(x:Ins)(e:x.op=⟨#[108,111,97,100]⟩)(m':Mk) 
  (HT: ∀w',Below w.heap.size w w'->Calls Tryz.prog 221 #[.pointer (some ⟨p.b,0,none⟩), .int .i64 t, .agg #[.string x.op, .int .i64 x.a, .int .i64 x.b, .int .i64 x.c, .string x.to]] w' fun e w''=>e= .returned (.tuple #[])/\MkStep a cs p w' p.mv m' w'') (t6:t<6):
  Calls Tryz.prog 168 #[.pointer (some ⟨p.b,0,none⟩), .int .i64 t, .agg #[.string x.op, .int .i64 x.a, .int .i64 x.b, .int .i64 x.c, .string x.to]] w fun e w'=>e= .returned (.tuple #[])/\ ∃v,MkStep a cs p w v m' w':=by
 obtain⟨xo,xa,xb,xc,xt⟩:=x
 dsimp only at e HT ⊢
 subst e
 have t6i:(t:Int)<6:=by omega
 have hba:Below w.heap.size w (w.alloc (.cells #[.string ⟨#[108,111,97,100]⟩, .int .i64 xa, .int .i64 xb, .int .i64 xc, .string xt] 57)):=bRf.alloc nL _
 have HL:Hid (Calls Tryz.prog 221 #[.pointer (some ⟨p.b,0,none⟩), .int .i64 t, .agg #[.string ⟨#[108,111,97,100]⟩, .int .i64 xa, .int .i64 xb, .int .i64 xc, .string xt]] (w.alloc (.cells #[.string ⟨#[108,111,97,100]⟩, .int .i64 xa, .int .i64 xb, .int .i64 xc, .string xt] 57)) fun e w''=>e= .returned (.tuple #[])/\Hid (∃v,MkStep a cs p w v m' w'')):=
  (HT _ hba).mono fun e w'' ⟨e1,e2⟩=>⟨e1,⟨_,MkStep.of_below hba e2⟩⟩
 clear HT
 go_enter Tryz.func168,Tryz.ntmps168
 go_wp2_with fail
 refine HL.out.mono ?_
 rintro e w4 ⟨rfl,k4⟩
 go_wp2
 go_end0
 exact⟨rfl,k4.out⟩
theorem kdo_store{t:Nat}(x:Ins)(e:x.op=⟨#[115,116,111,114,101]⟩)(m':Mk) 
  (HT: ∀w',Below w.heap.size w w'->Calls Tryz.prog 221 #[.pointer (some ⟨p.b,0,none⟩), .int .i64 t, .agg #[.string x.op, .int .i64 x.a, .int .i64 x.b, .int .i64 x.c, .string x.to]] w' fun e w''=>e= .returned (.tuple #[])/\MkStep a cs p w' p.mv m' w'') (t6:t<6):
  Calls Tryz.prog 168 #[.pointer (some ⟨p.b,0,none⟩), .int .i64 t, .agg #[.string x.op, .int .i64 x.a, .int .i64 x.b, .int .i64 x.c, .string x.to]] w fun e w'=>e= .returned (.tuple #[])/\ ∃v,MkStep a cs p w v m' w':=by
 obtain⟨xo,xa,xb,xc,xt⟩:=x
 dsimp only at e HT ⊢
 subst e
 have t6i:(t:Int)<6:=by omega
 have hba:Below w.heap.size w (w.alloc (.cells #[.string ⟨#[115,116,111,114,101]⟩, .int .i64 xa, .int .i64 xb, .int .i64 xc, .string xt] 57)):=bRf.alloc nL _
 have HL:Hid (Calls Tryz.prog 221 #[.pointer (some ⟨p.b,0,none⟩), .int .i64 t, .agg #[.string ⟨#[115,116,111,114,101]⟩, .int .i64 xa, .int .i64 xb, .int .i64 xc, .string xt]] (w.alloc (.cells #[.string ⟨#[115,116,111,114,101]⟩, .int .i64 xa, .int .i64 xb, .int .i64 xc, .string xt] 57)) fun e w''=>e= .returned (.tuple #[])/\Hid (∃v,MkStep a cs p w v m' w'')):=
  (HT _ hba).mono fun e w'' ⟨e1,e2⟩=>⟨e1,⟨_,MkStep.of_below hba e2⟩⟩
 clear HT
 go_enter Tryz.func168,Tryz.ntmps168
 go_wp2_with fail
 refine HL.out.mono ?_
 rintro e w4 ⟨rfl,k4⟩
 go_wp2
 go_end0
 exact⟨rfl,k4.out⟩
theorem kdo_swap{t:Nat}(x:Ins)(e:x.op=⟨#[115,119,97,112]⟩)(m':Mk) 
  (HT: ∀w',Below w.heap.size w w'->Calls Tryz.prog 221 #[.pointer (some ⟨p.b,0,none⟩), .int .i64 t, .agg #[.string x.op, .int .i64 x.a, .int .i64 x.b, .int .i64 x.c, .string x.to]] w' fun e w''=>e= .returned (.tuple #[])/\MkStep a cs p w' p.mv m' w'') (t6:t<6):
  Calls Tryz.prog 168 #[.pointer (some ⟨p.b,0,none⟩), .int .i64 t, .agg #[.string x.op, .int .i64 x.a, .int .i64 x.b, .int .i64 x.c, .string x.to]] w fun e w'=>e= .returned (.tuple #[])/\ ∃v,MkStep a cs p w v m' w':=by
 obtain⟨xo,xa,xb,xc,xt⟩:=x
 dsimp only at e HT ⊢
 subst e
 have t6i:(t:Int)<6:=by omega
 have hba:Below w.heap.size w (w.alloc (.cells #[.string ⟨#[115,119,97,112]⟩, .int .i64 xa, .int .i64 xb, .int .i64 xc, .string xt] 57)):=bRf.alloc nL _
 have HL:Hid (Calls Tryz.prog 221 #[.pointer (some ⟨p.b,0,none⟩), .int .i64 t, .agg #[.string ⟨#[115,119,97,112]⟩, .int .i64 xa, .int .i64 xb, .int .i64 xc, .string xt]] (w.alloc (.cells #[.string ⟨#[115,119,97,112]⟩, .int .i64 xa, .int .i64 xb, .int .i64 xc, .string xt] 57)) fun e w''=>e= .returned (.tuple #[])/\Hid (∃v,MkStep a cs p w v m' w'')):=
  (HT _ hba).mono fun e w'' ⟨e1,e2⟩=>⟨e1,⟨_,MkStep.of_below hba e2⟩⟩
 clear HT
 go_enter Tryz.func168,Tryz.ntmps168
 go_wp2_with fail
 refine HL.out.mono ?_
 rintro e w4 ⟨rfl,k4⟩
 go_wp2
 go_end0
 exact⟨rfl,k4.out⟩
theorem kdo_cas{t:Nat}(x:Ins)(e:x.op=⟨#[99,97,115]⟩)(m':Mk) 
  (HT: ∀w',Below w.heap.size w w'->Calls Tryz.prog 221 #[.pointer (some ⟨p.b,0,none⟩), .int .i64 t, .agg #[.string x.op, .int .i64 x.a, .int .i64 x.b, .int .i64 x.c, .string x.to]] w' fun e w''=>e= .returned (.tuple #[])/\MkStep a cs p w' p.mv m' w'') (t6:t<6):
  Calls Tryz.prog 168 #[.pointer (some ⟨p.b,0,none⟩), .int .i64 t, .agg #[.string x.op, .int .i64 x.a, .int .i64 x.b, .int .i64 x.c, .string x.to]] w fun e w'=>e= .returned (.tuple #[])/\ ∃v,MkStep a cs p w v m' w':=by
 obtain⟨xo,xa,xb,xc,xt⟩:=x
 dsimp only at e HT ⊢
 subst e
 have t6i:(t:Int)<6:=by omega
 have hba:Below w.heap.size w (w.alloc (.cells #[.string ⟨#[99,97,115]⟩, .int .i64 xa, .int .i64 xb, .int .i64 xc, .string xt] 57)):=bRf.alloc nL _
 have HL:Hid (Calls Tryz.prog 221 #[.pointer (some ⟨p.b,0,none⟩), .int .i64 t, .agg #[.string ⟨#[99,97,115]⟩, .int .i64 xa, .int .i64 xb, .int .i64 xc, .string xt]] (w.alloc (.cells #[.string ⟨#[99,97,115]⟩, .int .i64 xa, .int .i64 xb, .int .i64 xc, .string xt] 57)) fun e w''=>e= .returned (.tuple #[])/\Hid (∃v,MkStep a cs p w v m' w'')):=
  (HT _ hba).mono fun e w'' ⟨e1,e2⟩=>⟨e1,⟨_,MkStep.of_below hba e2⟩⟩
 clear HT
 go_enter Tryz.func168,Tryz.ntmps168
 go_wp2_with fail
 refine HL.out.mono ?_
 rintro e w4 ⟨rfl,k4⟩
 go_wp2
 go_end0
 exact⟨rfl,k4.out⟩
theorem kdo_alloc{t:Nat}(x:Ins)(e:x.op=⟨#[97,108,108,111,99]⟩)(m':Mk) 
  (HT: ∀w',Below w.heap.size w w'->Calls Tryz.prog 221 #[.pointer (some ⟨p.b,0,none⟩), .int .i64 t, .agg #[.string x.op, .int .i64 x.a, .int .i64 x.b, .int .i64 x.c, .string x.to]] w' fun e w''=>e= .returned (.tuple #[])/\MkStep a cs p w' p.mv m' w'') (t6:t<6):
  Calls Tryz.prog 168 #[.pointer (some ⟨p.b,0,none⟩), .int .i64 t, .agg #[.string x.op, .int .i64 x.a, .int .i64 x.b, .int .i64 x.c, .string x.to]] w fun e w'=>e= .returned (.tuple #[])/\ ∃v,MkStep a cs p w v m' w':=by
 obtain⟨xo,xa,xb,xc,xt⟩:=x
 dsimp only at e HT ⊢
 subst e
 have t6i:(t:Int)<6:=by omega
 have hba:Below w.heap.size w (w.alloc (.cells #[.string ⟨#[97,108,108,111,99]⟩, .int .i64 xa, .int .i64 xb, .int .i64 xc, .string xt] 57)):=bRf.alloc nL _
 have HL:Hid (Calls Tryz.prog 221 #[.pointer (some ⟨p.b,0,none⟩), .int .i64 t, .agg #[.string ⟨#[97,108,108,111,99]⟩, .int .i64 xa, .int .i64 xb, .int .i64 xc, .string xt]] (w.alloc (.cells #[.string ⟨#[97,108,108,111,99]⟩, .int .i64 xa, .int .i64 xb, .int .i64 xc, .string xt] 57)) fun e w''=>e= .returned (.tuple #[])/\Hid (∃v,MkStep a cs p w v m' w'')):=
  (HT _ hba).mono fun e w'' ⟨e1,e2⟩=>⟨e1,⟨_,MkStep.of_below hba e2⟩⟩
 clear HT
 go_enter Tryz.func168,Tryz.ntmps168
 go_wp2_with fail
 refine HL.out.mono ?_
 rintro e w4 ⟨rfl,k4⟩
 go_wp2
 go_end0
 exact⟨rfl,k4.out⟩
theorem kdo_free{t:Nat}(x:Ins)(e:x.op=⟨#[102,114,101,101]⟩)(m':Mk) 
  (HT: ∀w',Below w.heap.size w w'->Calls Tryz.prog 221 #[.pointer (some ⟨p.b,0,none⟩), .int .i64 t, .agg #[.string x.op, .int .i64 x.a, .int .i64 x.b, .int .i64 x.c, .string x.to]] w' fun e w''=>e= .returned (.tuple #[])/\MkStep a cs p w' p.mv m' w'') (t6:t<6):
  Calls Tryz.prog 168 #[.pointer (some ⟨p.b,0,none⟩), .int .i64 t, .agg #[.string x.op, .int .i64 x.a, .int .i64 x.b, .int .i64 x.c, .string x.to]] w fun e w'=>e= .returned (.tuple #[])/\ ∃v,MkStep a cs p w v m' w':=by
 obtain⟨xo,xa,xb,xc,xt⟩:=x
 dsimp only at e HT ⊢
 subst e
 have t6i:(t:Int)<6:=by omega
 have hba:Below w.heap.size w (w.alloc (.cells #[.string ⟨#[102,114,101,101]⟩, .int .i64 xa, .int .i64 xb, .int .i64 xc, .string xt] 57)):=bRf.alloc nL _
 have HL:Hid (Calls Tryz.prog 221 #[.pointer (some ⟨p.b,0,none⟩), .int .i64 t, .agg #[.string ⟨#[102,114,101,101]⟩, .int .i64 xa, .int .i64 xb, .int .i64 xc, .string xt]] (w.alloc (.cells #[.string ⟨#[102,114,101,101]⟩, .int .i64 xa, .int .i64 xb, .int .i64 xc, .string xt] 57)) fun e w''=>e= .returned (.tuple #[])/\Hid (∃v,MkStep a cs p w v m' w'')):=
  (HT _ hba).mono fun e w'' ⟨e1,e2⟩=>⟨e1,⟨_,MkStep.of_below hba e2⟩⟩
 clear HT
 go_enter Tryz.func168,Tryz.ntmps168
 go_wp2_with fail
 refine HL.out.mono ?_
 rintro e w4 ⟨rfl,k4⟩
 go_wp2
 go_end0
 exact⟨rfl,k4.out⟩
theorem kdo_fence{t:Nat}(x:Ins)(e:x.op=⟨#[102,101,110,99,101]⟩)(m':Mk) 
  (HT: ∀w',Below w.heap.size w w'->Calls Tryz.prog 221 #[.pointer (some ⟨p.b,0,none⟩), .int .i64 t, .agg #[.string x.op, .int .i64 x.a, .int .i64 x.b, .int .i64 x.c, .string x.to]] w' fun e w''=>e= .returned (.tuple #[])/\MkStep a cs p w' p.mv m' w'') (t6:t<6):
  Calls Tryz.prog 168 #[.pointer (some ⟨p.b,0,none⟩), .int .i64 t, .agg #[.string x.op, .int .i64 x.a, .int .i64 x.b, .int .i64 x.c, .string x.to]] w fun e w'=>e= .returned (.tuple #[])/\ ∃v,MkStep a cs p w v m' w':=by
 obtain⟨xo,xa,xb,xc,xt⟩:=x
 dsimp only at e HT ⊢
 subst e
 have t6i:(t:Int)<6:=by omega
 have hba:Below w.heap.size w (w.alloc (.cells #[.string ⟨#[102,101,110,99,101]⟩, .int .i64 xa, .int .i64 xb, .int .i64 xc, .string xt] 57)):=bRf.alloc nL _
 have HL:Hid (Calls Tryz.prog 221 #[.pointer (some ⟨p.b,0,none⟩), .int .i64 t, .agg #[.string ⟨#[102,101,110,99,101]⟩, .int .i64 xa, .int .i64 xb, .int .i64 xc, .string xt]] (w.alloc (.cells #[.string ⟨#[102,101,110,99,101]⟩, .int .i64 xa, .int .i64 xb, .int .i64 xc, .string xt] 57)) fun e w''=>e= .returned (.tuple #[])/\Hid (∃v,MkStep a cs p w v m' w'')):=
  (HT _ hba).mono fun e w'' ⟨e1,e2⟩=>⟨e1,⟨_,MkStep.of_below hba e2⟩⟩
 clear HT
 go_enter Tryz.func168,Tryz.ntmps168
 go_wp2_with fail
 refine HL.out.mono ?_
 rintro e w4 ⟨rfl,k4⟩
 go_wp2
 go_end0
 exact⟨rfl,k4.out⟩
theorem kdo_force{t:Nat}(x:Ins)(e:x.op=⟨#[102,111,114,99,101]⟩)(m':Mk) 
  (HT: ∀w',Below w.heap.size w w'->Calls Tryz.prog 221 #[.pointer (some ⟨p.b,0,none⟩), .int .i64 t, .agg #[.string x.op, .int .i64 x.a, .int .i64 x.b, .int .i64 x.c, .string x.to]] w' fun e w''=>e= .returned (.tuple #[])/\MkStep a cs p w' p.mv m' w'') (t6:t<6):
  Calls Tryz.prog 168 #[.pointer (some ⟨p.b,0,none⟩), .int .i64 t, .agg #[.string x.op, .int .i64 x.a, .int .i64 x.b, .int .i64 x.c, .string x.to]] w fun e w'=>e= .returned (.tuple #[])/\ ∃v,MkStep a cs p w v m' w':=by
 obtain⟨xo,xa,xb,xc,xt⟩:=x
 dsimp only at e HT ⊢
 subst e
 have t6i:(t:Int)<6:=by omega
 have hba:Below w.heap.size w (w.alloc (.cells #[.string ⟨#[102,111,114,99,101]⟩, .int .i64 xa, .int .i64 xb, .int .i64 xc, .string xt] 57)):=bRf.alloc nL _
 have HL:Hid (Calls Tryz.prog 221 #[.pointer (some ⟨p.b,0,none⟩), .int .i64 t, .agg #[.string ⟨#[102,111,114,99,101]⟩, .int .i64 xa, .int .i64 xb, .int .i64 xc, .string xt]] (w.alloc (.cells #[.string ⟨#[102,111,114,99,101]⟩, .int .i64 xa, .int .i64 xb, .int .i64 xc, .string xt] 57)) fun e w''=>e= .returned (.tuple #[])/\Hid (∃v,MkStep a cs p w v m' w'')):=
  (HT _ hba).mono fun e w'' ⟨e1,e2⟩=>⟨e1,⟨_,MkStep.of_below hba e2⟩⟩
 clear HT
 go_enter Tryz.func168,Tryz.ntmps168
 go_wp2_with fail
 refine HL.out.mono ?_
 rintro e w4 ⟨rfl,k4⟩
 go_wp2
 go_end0
 exact⟨rfl,k4.out⟩
theorem kdo_stop{t:Nat}(x:Ins)(e:x.op=⟨#[115,116,111,112]⟩)(m':Mk) 
  (HT: ∀w',Below w.heap.size w w'->Calls Tryz.prog 221 #[.pointer (some ⟨p.b,0,none⟩), .int .i64 t, .agg #[.string x.op, .int .i64 x.a, .int .i64 x.b, .int .i64 x.c, .string x.to]] w' fun e w''=>e= .returned (.tuple #[])/\MkStep a cs p w' p.mv m' w'') (t6:t<6):
  Calls Tryz.prog 168 #[.pointer (some ⟨p.b,0,none⟩), .int .i64 t, .agg #[.string x.op, .int .i64 x.a, .int .i64 x.b, .int .i64 x.c, .string x.to]] w fun e w'=>e= .returned (.tuple #[])/\ ∃v,MkStep a cs p w v m' w':=by
 obtain⟨xo,xa,xb,xc,xt⟩:=x
 dsimp only at e HT ⊢
 subst e
 have t6i:(t:Int)<6:=by omega
 have hba:Below w.heap.size w (w.alloc (.cells #[.string ⟨#[115,116,111,112]⟩, .int .i64 xa, .int .i64 xb, .int .i64 xc, .string xt] 57)):=bRf.alloc nL _
 have HL:Hid (Calls Tryz.prog 221 #[.pointer (some ⟨p.b,0,none⟩), .int .i64 t, .agg #[.string ⟨#[115,116,111,112]⟩, .int .i64 xa, .int .i64 xb, .int .i64 xc, .string xt]] (w.alloc (.cells #[.string ⟨#[115,116,111,112]⟩, .int .i64 xa, .int .i64 xb, .int .i64 xc, .string xt] 57)) fun e w''=>e= .returned (.tuple #[])/\Hid (∃v,MkStep a cs p w v m' w'')):=
  (HT _ hba).mono fun e w'' ⟨e1,e2⟩=>⟨e1,⟨_,MkStep.of_below hba e2⟩⟩
 clear HT
 go_enter Tryz.func168,Tryz.ntmps168
 go_wp2_with fail
 refine HL.out.mono ?_
 rintro e w4 ⟨rfl,k4⟩
 go_wp2
 go_end0
 exact⟨rfl,k4.out⟩
theorem kdo_label{t:Nat}(x:Ins)(e:x.op=⟨#[108,97,98,101,108]⟩)(m':Mk) 
  (HT: ∀w',Below w.heap.size w w'->Calls Tryz.prog 221 #[.pointer (some ⟨p.b,0,none⟩), .int .i64 t, .agg #[.string x.op, .int .i64 x.a, .int .i64 x.b, .int .i64 x.c, .string x.to]] w' fun e w''=>e= .returned (.tuple #[])/\MkStep a cs p w' p.mv m' w'') (t6:t<6):
  Calls Tryz.prog 168 #[.pointer (some ⟨p.b,0,none⟩), .int .i64 t, .agg #[.string x.op, .int .i64 x.a, .int .i64 x.b, .int .i64 x.c, .string x.to]] w fun e w'=>e= .returned (.tuple #[])/\ ∃v,MkStep a cs p w v m' w':=by
 obtain⟨xo,xa,xb,xc,xt⟩:=x
 dsimp only at e HT ⊢
 subst e
 have t6i:(t:Int)<6:=by omega
 have hba:Below w.heap.size w (w.alloc (.cells #[.string ⟨#[108,97,98,101,108]⟩, .int .i64 xa, .int .i64 xb, .int .i64 xc, .string xt] 57)):=bRf.alloc nL _
 have HL:Hid (Calls Tryz.prog 221 #[.pointer (some ⟨p.b,0,none⟩), .int .i64 t, .agg #[.string ⟨#[108,97,98,101,108]⟩, .int .i64 xa, .int .i64 xb, .int .i64 xc, .string xt]] (w.alloc (.cells #[.string ⟨#[108,97,98,101,108]⟩, .int .i64 xa, .int .i64 xb, .int .i64 xc, .string xt] 57)) fun e w''=>e= .returned (.tuple #[])/\Hid (∃v,MkStep a cs p w v m' w'')):=
  (HT _ hba).mono fun e w'' ⟨e1,e2⟩=>⟨e1,⟨_,MkStep.of_below hba e2⟩⟩
 clear HT
 go_enter Tryz.func168,Tryz.ntmps168
 go_wp2_with fail
 refine HL.out.mono ?_
 rintro e w4 ⟨rfl,k4⟩
 go_wp2
 go_end0
 exact⟨rfl,k4.out⟩
end
section
open Go.RowKit Go.Extern.Stop Go.Stop Go.Extern Go.Maps Go.WideMaps Go.Sort
variable {cs:List (List Ins)} {a:Nat->Addr} {K t:Nat} {w:World} {p:MkPl} {m:Mk}
theorem ktouch_force (D:DoX a cs p m K t w) (L:List Ins) (x:Ins) (e:x.op=⟨#[102,111,114,99,101]⟩):
  Calls Tryz.prog 221 #[.pointer (some ⟨p.b,0,none⟩), .int .i64 t, .agg #[.string x.op, .int .i64 x.a, .int .i64 x.b, .int .i64 x.c, .string x.to]] w fun e w'=>e= .returned (.tuple #[])/\MkStep a cs p w p.mv (m.exec L t x) w':=by
 rw[exec_force m L t e]
 obtain⟨xo,xa,xb,xc,xt⟩:=x
 dsimp only at e ⊢
 subst e
 have t6:=D.t6
 have t6i:(t:Int)<6:=by omega
 have hba:Below w.heap.size w (w.alloc (.cells #[.string ⟨#[102,111,114,99,101]⟩, .int .i64 xa, .int .i64 xb, .int .i64 xc, .string xt] 57)):=bRf.alloc nL _
 have q0:(w.alloc (.cells #[.string ⟨#[102,111,114,99,101]⟩, .int .i64 xa, .int .i64 xb, .int .i64 xc, .string xt] 57)).cell? ⟨w.heap.size,0,none⟩=some (.string ⟨#[102,111,114,99,101]⟩):=by simp
 have D1:=D.below hba
 have hp:=D1.at'.prog
 have h6:=D1.at'.few
 have hthr:=D.ok.thr
 have hK:=D.hK
 rw[hthr]
 have HI:Hid (∃mj,MkStep a cs p w p.mv mj (w.alloc (.cells #[.string ⟨#[102,111,114,99,101]⟩, .int .i64 xa, .int .i64 xb, .int .i64 xc, .string xt] 57))/\MkIn cs.length K (64*K+8*0) mj/\mj.fenceFrom 0 (cs.length - 0)=m.fenceFrom 0 cs.length):=⟨m,MkStep.of_below' D.at' hba,D.ok.in,rfl⟩
 generalize m.fenceFrom 0 cs.length=R at*
 clear D D1 hba hthr
 generalize hw:w.alloc (.cells #[.string ⟨#[102,111,114,99,101]⟩, .int .i64 xa, .int .i64 xb, .int .i64 xc, .string xt] 57)=w1 at*
 go_enter Tryz.func221,Tryz.ntmps221
 go_wp2_with fail
 clear hw
 go_loopw [7,141] (fun _ i wr=> ∃j:Nat,j<=cs.length/\i= .int .i64 j/\ ∃mj,MkStep a cs p w p.mv mj wr/\MkIn cs.length K (64*K+8*j) mj/\mj.fenceFrom j (cs.length - j)=R) (fun _ i _=>cs.length - (intOf i).toNat)
 case atStart=>exact⟨0,Nat.zero_le _,rfl,HI.out⟩
 case round=>
  clear HI
  obtain⟨j,hj,rfl,mj,h1,h2,h3⟩:=hrel
  have H1:=hide h1
  clear h1
  by_cases hlt:j<cs.length
  ·have ji:(j:Int)<cs.length:=by omega
   have hth:mj.mem.threads=cs.length:=h2.thr
   have HF:=hide (kfence_any hlt H1.out.at' (h2.mem.ok j (by rw[hth];exact hlt)) (by have:=h2.faults;omega))
   have HN:Hid (∀w2,MkStep a cs (p.marked p.mv) wr p.mv (mj.fence j) w2-> ∃m2,MkStep a cs p w p.mv m2 w2/\MkIn cs.length K (64*K+8*(j+1)) m2/\m2.fenceFrom (j+1) (cs.length - (j+1))=R):=fun w2 k=>
    ⟨mj.fence j,H1.out.trans k,(h2.fence hlt).mono nL (by omega),by
     rw[show cs.length - j=cs.length - (j+1)+1 by omega] at h3
     exact h3⟩
   clear h2 h3 H1
   go_wp2_with fail
   refine HF.out.mono ?_
   rintro e w2 ⟨rfl,k2⟩
   have HR:=hide (HN.out _ k2)
   clear HF HN k2
   go_wp2_with fail
   go_roundw
   case rel=>exact⟨j+1,by omega,by go_num,HR.out⟩
   case measure=>simp[intOf];omega
  ·obtain rfl:j=cs.length:=by omega
   have HD:Hid (mj=R):=by rw[Nat.sub_self] at h3;exact h3
   clear h2 h3
   go_wp2
   go_end0
   exact⟨rfl,by rw[<-HD.out];exact H1.out⟩
theorem ktouch_none(D:DoX a cs p m K t w)(x:Ins)(e:x.op=⟨#[115,116,111,112]⟩∨x.op=⟨#[108,97,98,101,108]⟩):
  Calls Tryz.prog 221 #[.pointer (some ⟨p.b,0,none⟩), .int .i64 t, .agg #[.string x.op, .int .i64 x.a, .int .i64 x.b, .int .i64 x.c, .string x.to]] w fun e w'=>e= .returned (.tuple #[])/\MkStep a cs p w p.mv m w':=by
 obtain⟨xo,xa,xb,xc,xt⟩:=x
 dsimp only at e ⊢
 have t6:=D.t6
 have t6i:(t:Int)<6:=by omega
 rcases e with rfl |rfl
 ·have HS:=hide (MkStep.of_below' D.at' (bRf.alloc nL (.cells #[.string ⟨#[115,116,111,112]⟩, .int .i64 xa, .int .i64 xb, .int .i64 xc, .string xt] 57)))
  clear D
  go_enter Tryz.func221,Tryz.ntmps221
  go_wp2
  go_end0
  exact⟨rfl,HS.out⟩
 ·have HS:=hide (MkStep.of_below' D.at' (bRf.alloc nL (.cells #[.string ⟨#[108,97,98,101,108]⟩, .int .i64 xa, .int .i64 xb, .int .i64 xc, .string xt] 57)))
  clear D
  go_enter Tryz.func221,Tryz.ntmps221
  go_wp2
  go_end0
  exact⟨rfl,HS.out⟩
theorem kdo_any(D:DoX a cs p m K t w){L:List Ins}(ht:cs[t]? =some L){x:Ins}(hx:InsOk L x)(hs:x.to.size<=maxLen):
  Calls Tryz.prog 168 #[.pointer (some ⟨p.b,0,none⟩), .int .i64 t, .agg #[.string x.op, .int .i64 x.a, .int .i64 x.b, .int .i64 x.c, .string x.to]] w fun e w'=>e= .returned (.tuple #[])/\ ∃v,MkStep a cs p w v (m.exec L t x) w':=by
 rcases kinds hx with⟨e,⟨i0,l0,g0⟩, -⟩ |⟨e,⟨i0,l0,g0⟩,⟨i1,l1,g1⟩⟩ |⟨e,⟨i0,l0,g0⟩,⟨i1,l1,g1⟩,⟨i2,l2,g2⟩⟩ |⟨e,⟨i0,l0,g0⟩,⟨i1,l1,g1⟩,⟨i2,l2,g2⟩⟩ |⟨e,⟨i0,l0,g0⟩,⟨i1,l1,g1⟩,⟨i2,l2,g2⟩⟩ |⟨e,⟨i0,l0,g0⟩,⟨i1,l1,g1⟩,⟨i2,l2,g2⟩⟩ |⟨e,⟨i0,l0,g0⟩,⟨i1,l1,g1⟩,⟨i2,l2,g2⟩⟩ |⟨e,⟨i0,l0,g0⟩,⟨i1,l1,g1⟩,⟨i2,l2,g2⟩⟩ |⟨e,⟨i0,l0,g0⟩,⟨i1,l1,g1⟩,⟨i2,l2,g2⟩⟩ |⟨e,⟨i0,l0,g0⟩,⟨i1,l1,g1⟩,⟨i2,l2,g2⟩⟩ |⟨e,⟨i0,l0,g0⟩⟩ |⟨e,⟨i0,l0,g0⟩⟩ |⟨e,⟨i0,l0,g0⟩⟩ |⟨e,⟨i0,l0,g0⟩⟩ |e |e |e |⟨e,⟨i0,l0,g0⟩,⟨L',hi⟩⟩ |⟨e,⟨i0,l0,g0⟩,⟨i1,l1,g1⟩,⟨L',hi⟩⟩ |⟨e,⟨L',hi⟩⟩ |⟨e,⟨L',hi⟩⟩
 ·exact kdo_const D L x e l0 g0
 ·exact kdo_move D L x e l0 g0 l1 g1
 ·exact kdo_add D L x e l0 g0 l1 g1 l2 g2
 ·exact kdo_sub D L x e l0 g0 l1 g1 l2 g2
 ·exact kdo_and D L x e l0 g0 l1 g1 l2 g2
 ·exact kdo_xor D L x e l0 g0 l1 g1 l2 g2
 ·exact kdo_load x e _ (fun w' hb=>ktouch_load (D.below hb) L x e l0 g0 l1 g1 l2 g2) D.t6
 ·exact kdo_store x e _ (fun w' hb=>ktouch_store (D.below hb) L x e l0 g0 l1 g1 l2 g2) D.t6
 ·exact kdo_swap x e _ (fun w' hb=>ktouch_swap (D.below hb) L x e l0 g0 l1 g1 l2 g2) D.t6
 ·exact kdo_cas x e _ (fun w' hb=>ktouch_cas (D.below hb) L x e l0 g0 l1 g1 l2 g2) D.t6
 ·exact kdo_alloc x e _ (fun w' hb=>ktouch_alloc (D.below hb) L x e l0 g0) D.t6
 ·exact kdo_free x e _ (fun w' hb=>ktouch_free (D.below hb) L x e l0 g0) D.t6
 ·exact kdo_mark D L x e l0 g0
 ·exact kdo_need D L x e l0 g0
 ·exact kdo_fence x e _ (fun w' hb=>ktouch_fence (D.below hb) L x e ) D.t6
 ·exact kdo_force x e _ (fun w' hb=>ktouch_force (D.below hb) L x e ) D.t6
 ·rw[exec_stop m L t e];exact kdo_stop x e m (fun w' hb=>ktouch_none (D.below hb) x (.inl e)) D.t6
 ·exact kdo_zero D L x e l0 g0 ht hs hi
 ·exact kdo_same D L x e l0 g0 l1 g1 ht hs hi
 ·exact kdo_goto D L x e  ht hs hi
 ·rw[exec_label m L t e];exact kdo_label x e m (fun w' hb=>ktouch_none (D.below hb) x (.inr e)) D.t6
end
section
open Go.RowKit Go.Extern.Stop Go.Stop Go.Extern Go.Maps Go.WideMaps Go.Sort
variable {cs:List (List Ins)} {a:Nat->Addr} {w:World} {L:List Ins} {p:MkPl} {t:Nat} {m:Mk}
abbrev insZ:Array Value:=#[.string ⟨#[]⟩, .int .i64 0, .int .i64 0, .int .i64 0, .string ⟨#[]⟩]
theorem setFive{b:Nat}{W:World}(hB:Below b W w)(hW:b=W.heap.size)(v0 v1 v2 v3 v4:Value):Below b W (((((w.setCell ⟨b,0,none⟩ v0).setCell ⟨b,1,none⟩ v1).setCell ⟨b,2,none⟩ v2).setCell ⟨b,3,none⟩ v3).setCell ⟨b,4,none⟩ v4):=by
 subst hW
 exact((((hB.setCell nL _).setCell nL _).setCell nL _).setCell nL _).setCell nL _
theorem next_no (ht:cs[t]? =some L) (hd:doneAt L (m.pc t)=true) (h:MkAt a cs p m w):
  Calls Tryz.prog 167 #[.pointer (some ⟨p.b,0,none⟩), .int .i64 t] w fun e w'=>e= .returned (.tuple #[.agg insZ, .bool false])/\Below w.heap.size w w':=by
 have hlt:=lt_of_some ht
 have h6:=h.few
 obtain⟨ad,cap,lb,hc,hcc, -,hins, -⟩:=h.pg.pg.code t L ht
 have hcap:=h.pg.pg.cap
 have ti:(t:Int)<cs.length:=by omega
 have t6:(t:Int)<6:=by omega
 have h1:=h.alloc (.cells insZ 57)
 have hba:Below w.heap.size w (w.alloc (.cells insZ 57)):=bRf.alloc nL _
 have hp:=h1.prog
 have hpc:=h1.pc t (by omega)
 replace hc:=keep_cell hba hc
 have hin1:=insAt_below hins hba
 have z0:(w.alloc (.cells insZ 57)).cell? ⟨w.heap.size,0,none⟩=some (.string ⟨#[]⟩):=by simp
 have z1:(w.alloc (.cells insZ 57)).cell? ⟨w.heap.size,1,none⟩=some (.int .i64 0):=by simp
 have z2:(w.alloc (.cells insZ 57)).cell? ⟨w.heap.size,2,none⟩=some (.int .i64 0):=by simp
 have z3:(w.alloc (.cells insZ 57)).cell? ⟨w.heap.size,3,none⟩=some (.int .i64 0):=by simp
 have z4:(w.alloc (.cells insZ 57)).cell? ⟨w.heap.size,4,none⟩=some (.string ⟨#[]⟩):=by simp
 have y0:(w.alloc (.cells insZ 57)).frozen? ⟨w.heap.size,0,none⟩=false:=by simp
 have y1:(w.alloc (.cells insZ 57)).frozen? ⟨w.heap.size,1,none⟩=false:=by simp
 have y2:(w.alloc (.cells insZ 57)).frozen? ⟨w.heap.size,2,none⟩=false:=by simp
 have y3:(w.alloc (.cells insZ 57)).frozen? ⟨w.heap.size,3,none⟩=false:=by simp
 have y4:(w.alloc (.cells insZ 57)).frozen? ⟨w.heap.size,4,none⟩=false:=by simp
 generalize hPC:m.pc t=pc at*
 clear h h1 hPC hins
 by_cases hle:L.length<=pc
 ·have hd1:decide ((L.length:Int)<=pc)=true:=by simp;omega
  have hle':(L.length:Int)<=pc:=by omega
  clear hin1 hd ht
  generalize hw:w.alloc (.cells insZ 57)=w1 at*
  go_enter Tryz.func167,Tryz.ntmps167
  go_wp2_with fail
  clear hw
  go_quiet (fail)
  go_wp2
  refine bodyPost_ret (v:= .tuple #[.agg insZ, .bool false]) (by simp only[results,Tryz.results167];go_simp) rfl ⟨rfl,?_⟩
  exact setFive (below_dN hba nq) rfl _ _ _ _ _
 ·obtain ⟨x,hx⟩: ∃x,L[pc]? =some x:=⟨_,List.getElem?_eq_getElem (by omega)⟩
  obtain⟨b,off,rfl,a0, -, -, -, -⟩:=hin1 pc x hx
  have hst:(x.op.toList==[115,116,111,112])=true:=by
   unfold doneAt at hd
   rw[hx] at hd
   exact hd
  have hd1:decide ((L.length:Int)<=pc)=false:=by simp;omega
  have hle': ¬(L.length:Int)<=pc:=by omega
  have pi:(pc:Int)<L.length:=by omega
  clear hin1 hd ht hx
  generalize hw:w.alloc (.cells insZ 57)=w1 at*
  go_enter Tryz.func167,Tryz.ntmps167
  go_wp2_with fail
  clear hw
  go_quiet (fail)
  go_wp2
  refine bodyPost_ret (v:= .tuple #[.agg insZ, .bool false]) (by simp only[results,Tryz.results167];go_simp) rfl ⟨rfl,?_⟩
  exact setFive (below_dN hba nq) rfl _ _ _ _ _
theorem next_yes{x:Ins}(ht:cs[t]? =some L)(hx:L[m.pc t]? =some x)(hst:(x.op.toList==[115,116,111,112])=false)(h:MkAt a cs p m w):
  Calls Tryz.prog 167 #[.pointer (some ⟨p.b,0,none⟩), .int .i64 t] w fun e w'=>e= .returned (.tuple #[.agg #[.string x.op, .int .i64 x.a, .int .i64 x.b, .int .i64 x.c, .string x.to], .bool true])/\Below w.heap.size w w':=by
 have hlt:=lt_of_some ht
 have h6:=h.few
 obtain⟨ad,cap,lb,hc,hcc, -,hins, -⟩:=h.pg.pg.code t L ht
 have hcap:=h.pg.pg.cap
 have ti:(t:Int)<cs.length:=by omega
 have t6:(t:Int)<6:=by omega
 have hpl:=lt_of_some hx
 have h1:=h.alloc (.cells insZ 57)
 have hba:Below w.heap.size w (w.alloc (.cells insZ 57)):=bRf.alloc nL _
 have hp:=h1.prog
 have hpc:=h1.pc t (by omega)
 replace hc:=keep_cell hba hc
 obtain⟨b',off',e',c0, -⟩:=hins (m.pc t) x hx
 have hlb':b'<w.heap.size:=bLt c0
 obtain⟨b,off,rfl,a0,a1,a2,a3,a4⟩:=insAt_below hins hba (m.pc t) x hx
 have hlb:b<w.heap.size:=by cases e';exact hlb'
 clear e' c0 hlb'
 have z0:(w.alloc (.cells insZ 57)).cell? ⟨w.heap.size,0,none⟩=some (.string ⟨#[]⟩):=by simp
 have z1:(w.alloc (.cells insZ 57)).cell? ⟨w.heap.size,1,none⟩=some (.int .i64 0):=by simp
 have z2:(w.alloc (.cells insZ 57)).cell? ⟨w.heap.size,2,none⟩=some (.int .i64 0):=by simp
 have z3:(w.alloc (.cells insZ 57)).cell? ⟨w.heap.size,3,none⟩=some (.int .i64 0):=by simp
 have z4:(w.alloc (.cells insZ 57)).cell? ⟨w.heap.size,4,none⟩=some (.string ⟨#[]⟩):=by simp
 have y0:(w.alloc (.cells insZ 57)).frozen? ⟨w.heap.size,0,none⟩=false:=by simp
 have y1:(w.alloc (.cells insZ 57)).frozen? ⟨w.heap.size,1,none⟩=false:=by simp
 have y2:(w.alloc (.cells insZ 57)).frozen? ⟨w.heap.size,2,none⟩=false:=by simp
 have y3:(w.alloc (.cells insZ 57)).frozen? ⟨w.heap.size,3,none⟩=false:=by simp
 have y4:(w.alloc (.cells insZ 57)).frozen? ⟨w.heap.size,4,none⟩=false:=by simp
 generalize hPC:m.pc t=pc at*
 clear h h1 hPC hins
 have hd1:decide ((L.length:Int)<=pc)=false:=by simp;omega
 have hle': ¬(L.length:Int)<=pc:=by omega
 have pi:(pc:Int)<L.length:=by omega
 clear ht hx
 generalize hw:w.alloc (.cells insZ 57)=w1 at*
 go_enter Tryz.func167,Tryz.ntmps167
 go_wp2_with fail
 clear hw
 go_quiet (fail)
 go_wp2
 refine bodyPost_ret (v:= .tuple #[.agg #[.string x.op, .int .i64 x.a, .int .i64 x.b, .int .i64 x.c, .string x.to], .bool true]) (by simp only[results,Tryz.results167];go_simp) rfl ⟨rfl,?_⟩
 exact setFive (below_dN hba nq) rfl _ _ _ _ _
theorem kdone_any (ht:cs[t]? =some L) (h:MkAt a cs p m w):
  Calls Tryz.prog 143 #[.pointer (some ⟨p.b,0,none⟩), .int .i64 t] w fun e w'=>e= .returned (.bool (doneAt L (m.pc t)))/\Below w.heap.size w w':=by
 have HH:=hide (khas_yes (lt_of_some ht) h)
 cases hd:doneAt L (m.pc t)
 ·obtain ⟨x,hx,hst⟩: ∃x,L[m.pc t]? =some x/\(x.op.toList==[115,116,111,112])=false:=by
   unfold doneAt at hd
   cases hx:L[m.pc t]? with
   |none=>rw[hx] at hd;cases hd
   |some x=>rw[hx] at hd;exact⟨x,rfl,hd⟩
  have HN:=hide (next_yes ht hx hst h)
  clear h hd hx hst ht
  go_enter Tryz.func143,Tryz.ntmps143
  go_wp2_with fail
  refine HH.out.mono ?_
  rintro e w1 ⟨rfl,rfl⟩
  clear HH
  go_wp2_with fail
  refine HN.out.mono ?_
  rintro e w2 ⟨rfl,hb2⟩
  go_wp2
  go_ret
  exact⟨rfl,by first |exact hb2 |exact hb2.alloc hb2.size _⟩
 ·have HN:=hide (next_no ht hd h)
  clear h hd ht
  go_enter Tryz.func143,Tryz.ntmps143
  go_wp2_with fail
  refine HH.out.mono ?_
  rintro e w1 ⟨rfl,rfl⟩
  clear HH
  go_wp2_with fail
  refine HN.out.mono ?_
  rintro e w2 ⟨rfl,hb2⟩
  go_wp2
  go_ret
  exact⟨rfl,by first |exact hb2 |exact hb2.alloc hb2.size _⟩
end
section
open Go.RowKit Go.Extern.Stop Go.Stop Go.Extern Go.Maps Go.WideMaps Go.Sort
variable {cs:List (List Ins)} {a:Nat->Addr} {w:World} {p:MkPl} {m:Mk} {L:List Ins}
theorem kstep_no{t:Int}(ht: ¬(0<=t/\t<cs.length))(h:MkAt a cs p m w):
  Calls Tryz.prog 93 #[.pointer (some ⟨p.b,0,none⟩), .int .i64 t] w fun e w'=>e= .returned (errAt (a 1))/\w'=w:=by
 have HH:=hide (khas_no ht h)
 have c1:w.cell? ⟨0,0,none⟩=some (errAt (a 1)):=h.env.cell 1 (by decide)
 clear h ht
 go_enter Tryz.func93,Tryz.ntmps93
 go_wp2_with fail
 refine HH.out.mono ?_
 rintro e w1 ⟨rfl,rfl⟩
 go_wp2
 go_ret
 exact⟨rfl,rfl⟩
theorem kstep_done{t:Nat}(ht:cs[t]? =some L)(hd:doneAt L (m.pc t)=true)(h:MkAt a cs p m w):
  Calls Tryz.prog 93 #[.pointer (some ⟨p.b,0,none⟩), .int .i64 t] w fun e w'=>e= .returned (errAt (a 8))/\Below w.heap.size w w':=by
 have HH:=hide (khas_yes (lt_of_some ht) h)
 have HN:=hide (next_no ht hd h)
 have HE:=hide h.env
 clear h ht hd
 go_enter Tryz.func93,Tryz.ntmps93
 go_wp2_with fail
 refine HH.out.mono ?_
 rintro e w1 ⟨rfl,rfl⟩
 go_wp2_with fail
 refine HN.out.mono ?_
 rintro e w2 ⟨rfl,hb2⟩
 have c8:w2.cell? ⟨8,0,none⟩=some (errAt (a 8)):=(HE.out.below hb2.block).cell 8 (by decide)
 have l8:8<w2.heap.size:=bLt c8
 go_wp2
 go_ret
 exact⟨rfl,hb2.alloc hb2.size _⟩
theorem kstep_any{K t:Nat}(D:DoX a cs p m K t w)(ht:cs[t]? =some L)(hd:doneAt L (m.pc t)=false):
  Calls Tryz.prog 93 #[.pointer (some ⟨p.b,0,none⟩), .int .i64 t] w fun e w'=>e= .returned .nilIface/\ ∃v,MkStep a cs p w v (m.step L t) w':=by
 obtain ⟨x,hx,hst⟩: ∃x,L[m.pc t]? =some x/\(x.op.toList==[115,116,111,112])=false:=by
  unfold doneAt at hd
  cases hx:L[m.pc t]? with
  |none=>rw[hx] at hd;cases hd
  |some x=>rw[hx] at hd;exact⟨x,rfl,hd⟩
 obtain⟨hL,hI⟩:=D.at'.pg.pg.right t L ht
 obtain⟨hok,hs⟩:=hI _ x hx
 have hpl:=lt_of_some hx
 have HM:Hid (m.step L t=(m.setPc t (m.pc t+1)).exec L t x):=by show _=_;unfold Mk.step;rw[hx]
 rw[HM.out]
 have HH:=hide (khas_yes (lt_of_some ht) D.at')
 have HN:=hide (next_yes ht hx hst D.at')
 have HD:=hide D
 have t6:=D.t6
 have t6i:(t:Int)<6:=by omega
 have hpc2:m.pc t<=2000:=D.ok.pcs t
 have hw1:IntKind.i64.wrap ((m.pc t:Int)+1)=(m.pc t:Int)+1:=by rw[IntKind.wrap_i64];omega
 have HS:Hid (∀w',MkStep a cs p w p.mv (m.setPc t (m.pc t+1)) w'->Calls Tryz.prog 168 #[.pointer (some ⟨p.b,0,none⟩), .int .i64 t, .agg #[.string x.op, .int .i64 x.a, .int .i64 x.b, .int .i64 x.c, .string x.to]] w' fun e w''=>e= .returned (.tuple #[])/\Hid (∃v,MkStep a cs p w v ((m.setPc t (m.pc t+1)).exec L t x) w'')):=fun w' k=>by
  have D2:DoX a cs (p.marked p.mv) (m.setPc t (m.pc t+1)) K t w':=⟨k.at',D.ok.setPc t (by omega),D.ht,D.hK⟩
  exact(kdo_any D2 ht hok hs).mono fun e w'' ⟨e1,v,e2⟩=>⟨e1,v,k.trans e2⟩
 clear HM hd hL hI hok hs hst ht D
 go_enter Tryz.func93,Tryz.ntmps93
 go_wp2_with fail
 refine HH.out.mono ?_
 rintro e w1 ⟨rfl,rfl⟩
 clear HH
 go_wp2_with fail
 refine HN.out.mono ?_
 rintro e w2 ⟨rfl,hb2⟩
 obtain⟨W3,hW3⟩: ∃W3,W3=w2.alloc (.cells #[.string x.op, .int .i64 x.a, .int .i64 x.b, .int .i64 x.c, .string x.to] 57):=⟨_,rfl⟩
 obtain⟨q0,q1,q2,q3,q4⟩:=insX w2 x
 have B3:Below w1.heap.size w1 W3:=by rw[hW3];exact hb2.alloc hb2.size _
 rw[<-hW3] at q0 q1 q2 q3 q4
 have H3:=hide (HD.out.below B3)
 have hpc:=H3.out.at'.pc t t6
 have hz:W3.frozen? ⟨p.b,585+t*9+8,none⟩=false:=H3.out.at'.frozen _ (by omega) (by omega)
 have hbn:w2.heap.size≠p.b:=by have:=HD.out.at'.lt;have:=hb2.size;omega
 clear HN hb2
 go_wp2_with fail
 rw[<-hW3]
 clear hW3
 refine wp_region_F (S:=(fun w'=>w'.cell? ⟨p.b,585+t*9+8,none⟩=some (.int .i64 (m.pc t)))) (by kernel_rfl) (by(try dsimp only);go_keep) (fun hHeld=>?_)
 iterate 12
  refine' wpAnyF_next (sz:=13) (n:=12) (v:=_) rfl (by kernel_rfl) (fun _ _ _ h=>h) (by assumption) (Or.inl ⟨by rfl,?_⟩) ?_
  case' refine'_2=>(intro w' hSw;(try dsimp only at hSw);go_simp;try with_reducible rfl)
  try simp only[Act.put,fxs]
 clear hHeld
 refine wpAnyF_only (i:=12) rfl (by kernel_rfl) (fun K hK=>?_)
 go_simp
 refine hK.out _ _ (Or.inl (by kernel_rfl)) ?_
 clear hK K
 try simp only[Act.put,fxs]
 refine wpAnyF_done (by kernel_rfl) ?_ _
 obtain⟨W4,hW4⟩: ∃W4,W4=(W3.setCell ⟨p.b,585+t*9+8,none⟩ (.int .i64 ((m.pc t:Int)+1))).drew:=⟨_,rfl⟩
 have H4:Hid (MkStep a cs p w1 p.mv (m.setPc t (m.pc t+1)) W4):=by rw[hW4];exact hide ((MkStep.of_below B3 (H3.out.at'.setPc t6 (m.pc t+1))).below bRf.drew)
 replace q0:W4.cell? ⟨w2.heap.size,0,none⟩=some (.string x.op):=by rw[hW4];exact cell_ne q0 (Or.inl hbn)
 replace q1:W4.cell? ⟨w2.heap.size,1,none⟩=some (.int .i64 x.a):=by rw[hW4];exact cell_ne q1 (Or.inl hbn)
 replace q2:W4.cell? ⟨w2.heap.size,2,none⟩=some (.int .i64 x.b):=by rw[hW4];exact cell_ne q2 (Or.inl hbn)
 replace q3:W4.cell? ⟨w2.heap.size,3,none⟩=some (.int .i64 x.c):=by rw[hW4];exact cell_ne q3 (Or.inl hbn)
 replace q4:W4.cell? ⟨w2.heap.size,4,none⟩=some (.string x.to):=by rw[hW4];exact cell_ne q4 (Or.inl hbn)
 rw[<-hW4]
 clear hW4 H3 hpc hz HD B3 hw1 hbn
 go_wp2_with fail
 refine(HS.out _ H4.out).mono ?_
 rintro e w5 ⟨rfl,k5⟩
 go_wp2
 go_ret
 exact⟨rfl,k5.out⟩
end
end Go.Proofs.YtnoigmdmgdcliaaGreatDoor
