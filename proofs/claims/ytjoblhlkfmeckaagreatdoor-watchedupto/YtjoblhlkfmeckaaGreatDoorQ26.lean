import Derived.Test.YtjoblhlkfmeckaaGreatDoorQ25
import Derived.Test.YtjoblhlkfmeckaaGreatDoorQ17
import Derived.Test.YtjoblhlkfmeckaaGreatDoorQ24
import Derived.Lib.ConvBytes
set_option maxHeartbeats 1000000
set_option maxRecDepth 8000
set_option linter.unusedVariables false
set_option linter.unusedSimpArgs false
open Option renaming some → lp,none → od
open Go.Proofs.Tryz renaming prog → ly,f34 → qh,runUnderlying105 → kg
open Go renaming undef → yj,World → qq,Value → tj,stored → ve,Addr → zu,execOp → xz
open Bool renaming false → vp,true → s7
open Go.Act renaming eval → cj
open Go.World renaming cell? → q7
open Go.Region renaming wanted → br
open Go.Conc renaming listed_nil → vj
open Go.Deferred renaming ofValue → zr
open List renaming range → qw
open Go.MapKept renaming Stamped → wj
open Go.Value renaming int → rl,pointer → om,slice → cf,bool → gf,tuple → fh,agg → lx
open Go.Obj renaming cells → ye
open Go.IntKind renaming i64 → tz
open Or renaming inr → o5
open Go.Proofs.Tryz
theorem Yiv{p:Prop}(h:p:=by
 rintro e v' ⟨rfl,rfl⟩
 have T:=(Bn.refl gS).set 5 (.slice none 0 0)
 exact⟨⟨_,rfl,rfl,T.blk⟩,T.grown.os,T.grown.tape,T.grown.output,T.grown.size,fun k hk hx=>T.grown.block k hk fun e=>hx (by cases e;rfl)⟩):p:=h
theorem Kqh{p:Prop}(h:p:=by
 subst e
 refine Bo w' c cs fz hk hn' hS' ((hs.same hn' (Jw hS)).symm.trans hb) hc fun j hj=>?_
 rw [←hby j hj]
 unfold World.cell?
 rw [hs.same hn' (Jw hS)]):p:=h
theorem La3{p:Prop}(h:p:=by
 refine Bo x w' (Ks hn hv hk hs hX) (hk.nf hn) (fun l hl=>?_) ⟨v',hs,hR⟩
 obtain⟨a,rfl,o,h5,h6⟩:=hS l hl
 exact⟨a,rfl,o,(hk.keep _ ⟨a,hl,rfl⟩).trans h5,h6⟩):p:=h
theorem Ajo{p:Prop}(h:p:=by
 have hc:=Lib.run_convert_string_bytes (P:=Tryz.prog) v 9 35 5 s Tryz.underlying9 Tryz.underlying35 Tryz.underlying5
 refine⟨_,_,.inl ?_,⟨?_,?_,?_,?_,fun k hk _=>Lib.bytesWorld_at_old v 5 s k hk⟩,grownCap v s.size 0 5,_,_,by rw [←hv.size],grownCap_ge _ _ _ _,by rw [←hv.size];exact Lib.bytesWorld_at_new v 5 s,fun j hj=>?_⟩
 ·unfold execOp
  rw [Bt]
  simp only [hx]
  simp [hc,go_sem]
 ·rfl
 ·rfl
 ·rfl
 ·rw [Lib.bytesWorld_size];omega
 ·rw [aM,←hv.size,Lib.bytesWorld_cell v 5 s j (by simpa using hj)]
  have hj':j<s.data.size:=by simpa using hj
  rw [cR,aR hj]
  rfl):p:=h
theorem Zox{p q:Prop}(k:q)(h:Hd q->p:=by
 intro kz
 refine Dd rfl Ac ?_;walk_nrm
 exact kz.1):p:=h ⟨k⟩
theorem Flo{p q:Prop}(k:q)(h:Hd q->p:=by
 intro kz
 refine Gj (.cells #[.pointer (some ⟨D,0,none⟩)] 78) (.pointer (some ⟨w.heap.size,0,none⟩)) rfl Ac Aa hS hn (fun vz hvz=>by walk_nrm;go_simp;first|done|(simp only [hvz];first|done|rfl|exact⟨rfl,rfl⟩)) ?_
 exact kz.1):p:=h ⟨k⟩
theorem Dwb{p q:Prop}(k:q)(h:Hd q->p:=by
 intro kz
 refine F0 (x:=(.agg #[.pointer (some ⟨D,0,none⟩)])) rfl Ac Aa S3 (fun vz hvz=>by have hcz:=g3 vz hvz;walk_nrm;go_simp) ?_;walk_nrm
 exact kz.1):p:=h ⟨k⟩
theorem Gvy{p q:Prop}(k:q)(h:Hd q->p:=by
 intro kz
 refine Gj (.cells #[.pointer none] 78) (.pointer (some ⟨w1.heap.size,0,none⟩)) rfl Ac Aa S1 n1 (fun vz hvz=>by walk_nrm;go_simp;first|done|(simp only [hvz];first|done|rfl|exact⟨rfl,rfl⟩)) ?_
 exact kz.1):p:=h ⟨k⟩
theorem Kew{p:Prop}(h:p:=by
 have c0:=Kl (w:=z) 0 hz
 have f0:=EX (w:=z) 0 hz
 walk_nrm
 go_simp):p:=h
theorem Hb2{p q:Prop}(k:q)(h:Hd q->p:=by
 intro kz
 walk_nrm
 iterate 5(refine Al ?_)
 exact kz.1):p:=h ⟨k⟩
namespace Go.Proofs.YtjoblhlkfmeckaaGreatDoor
open Go Go.Conc Go.Pair Go.RowKit Go.Maps
def Lx:List FuncId:=[14,15,19,23,24,27,32,38,39,40,57,59,106,107,108,109,110,111,112,113,158,161,162,185]++Lv
def Dn:Dv:=⟨fun f=>match f with|38=>[1,12]|57=>[4,29,36,43,51,60,79,84,102,110,133,145]|106=>[3,22]|107=>[3,28,58]|108=>[3]|109=>[3,39,43,47,53]|110=>[3]|111=>[3,23,72,112]|112=>[4,35,54]|113=>[4,36,54,109,127]|158=>[4,24,43]|161=>[3,16]|162=>[5,18,27,36]|185=>[4,12]|_=>[],lp 39⟩
theorem YL:(Lx.all fun f=>Sr ly Lx Dn f)=s7:=Aa
theorem Ac4:BL ly (FI Lx Dn):=FT (fun g e=>by cases e;exact⟨Ad,rfl⟩) fun f hf=>eN.1 YL f hf
section
variable {Post:Da} {Shun:Loc->Prop} {w:qq}
theorem Nf{f:FuncId}(hf:f∈Lx)(hD:Dn.at_ f = [])(hS:Bf Shun w)(hn:NF w){X:Nat->Prop}{args:Array tj}{R:tj->qq->Prop}(H:∀v,Cq (F6 Shun) w v->Calls ly f args v fun e v'=>(∃x,e=.returned x/\R x v')/\Ar v v' X) :
  De ly Post f args Shun w fun x w' Sh=>Sh=Shun/\Ar w w' X/\NF w'/\Bf Shun w'/\∃v',Cq (F6 Shun) w' v'/\R x v':=by
 refine D6 (Rp (Bs:=F6 Shun) (R:=fun x v'=>∃v,Cq (F6 Shun) w v/\R x v'/\Ar v v' X) fun P' W e=>?_) fun val w' Sh ⟨h1,hk,v',hs,v,hv,hR,hX⟩=>?_
 ·have hS':Bf Shun W:=Jv.1 (e▸hS)
  obtain⟨fc,c,h1,h2,h3,h4⟩:=carry (Post:=P') (S:=FI Lx Dn) Ac4 (show f∈Lx from hf) (fun a h=>⟨a,h,rfl⟩) hS'.obj hS'.cells (fun j hj=>by rw [hD] at hj;cases hj) (args:=args) (R:=fun e v'=>∃v,Cq (F6 Shun) w v/\(∃x,e=.returned x/\R x v')/\Ar v v' X) (fun c v h=>by obtain⟨_,_,⟨x,e,_⟩,_⟩:=h;cases e) (fun v h=>by obtain⟨_,_,⟨x,e,_⟩,_⟩:=h;cases e) (fun v hv=>(H v (e▸Mb hv)).mono fun e' v' h=>⟨v,e▸Mb hv,h⟩)
  refine⟨fc,c,h1,h2,h3,fun fr cs hnx=>h4 fr cs ?_⟩
  rintro val w' Sh ⟨rfl,hk,v',hs,v,hv,⟨x,e,hR⟩,hX⟩
  cases e
  exact hnx _ _ _ ⟨rfl,hk,v',hs,v,hv,hR,hX⟩
 ·exact Au7
end
section
variable {Post:Da} {Tabs:qq->Prop} {gN:Nat} {Shun Sh:Loc->Prop} {w w':qq} {Cp svb D K tb mb wm sm s1 s2:Nat} {lg:Option (Nat×Nat)} {last num:Int} {ns:List (ByteArray×Nd)} {ks:List tj} {p1 o1 p2 o2 o1' o2':tj} {X:Nat->Prop}
theorem Base.keep(B:Base Tabs gN Shun w)(Kx:Ar w w' X)(hn:NF w')(hS:Bf Shun w')(hX:∀j,X j->gN<=j):Base Tabs gN Shun w':=by
 have Di:=B.sz
 have lo:∀j,j<gN->w'.heap[j]? = w.heap[j]?:=fun j hj=>Kx.block j Ab fun hx=>by have:=hX j hx;omega
 refine⟨hn,hS,fun z hz hs=>B.G z (fun j hj=>(hz j hj).trans (lo j hj)) hs,aE Di Kx.size,B.g8,B.low⟩
theorem W2.keep(h:W2 Tabs gN Shun w Cp svb D K tb mb wm sm s1 s2 lg last num ns ks p1 o1 p2 o2)(Kx:Ar w w' X)(hn:NF w')(hS:Bf Shun w')(hX:∀j,X j->j=s1∨j=s2)(b1:w'.heap[s1]? = lp (ye (Bl (rl tz 1) p1 (gf vp) (rl tz 1) (gf vp) o1') 75))(b2:w'.heap[s2]? = lp (ye (Bl (rl tz 2) p2 (gf vp) (rl tz 1) (gf vp) o2') 75)) :
  W2 Tabs gN Shun w' Cp svb D K tb mb wm sm s1 s2 lg last num ns ks p1 o1' p2 o2':=by
 have st:∀{j:Nat} {ob:Obj},w.heap[j]? = lp ob->kindOf ob≠lp 75->w'.heap[j]? = lp ob:=fun {j ob} hj hk=>(Kx.block j (Ax hj) fun hx=>by
  rcases hX j hx with rfl|rfl
  ·exact Qb h.b1 hj hk rfl
  ·exact Qb h.b2 hj hk rfl).trans hj
 refine⟨h.B.keep Kx hn hS fun j hj=>?_,h.srv.turn fun j ob h1 h2 h3=>⟨st h2 h3.1,h1⟩,b1,b2,h.r1.keep fun g c hg hc=>st hc (by simp [kindOf]),h.r2.keep fun g c hg hc=>st hc (by simp [kindOf]),h.dis,h.g1,h.g2,h.ne,st h.os (by simp [kindOf])⟩
 rcases hX j hj with rfl|rfl
 ·exact h.g1
 ·exact h.g2
theorem W2.at(h:W2 Tabs gN Shun w Cp svb D K tb mb wm sm s1 s2 lg last num ns ks p1 o1 p2 o2)(d:Nat):W2 Tabs gN Shun (w.at d) Cp svb D K tb mb wm sm s1 s2 lg last num ns ks p1 o1 p2 o2:=
 h.keep ((Ar.refl w (fun _=>False)).at d) h.B.nf h.B.S (fun _ h=>h.elim) h.b1 h.b2
theorem W2.grow(h:W2 Tabs gN Shun w Cp svb D K tb mb wm sm s1 s2 lg last num ns ks p1 o1 p2 o2)(Kx:Ar w w' (fun _=>False))(hn:NF w')(hS:Bf Shun w'):W2 Tabs gN Shun w' Cp svb D K tb mb wm sm s1 s2 lg last num ns ks p1 o1 p2 o2:=
 h.keep Kx hn hS (fun _ h=>h.elim) (Kx.get h.b1 id) (Kx.get h.b2 id)
theorem W2.getS(h:W2 Tabs gN Shun w Cp svb D K tb mb wm sm s1 s2 lg last num ns ks p1 o1 p2 o2){z:qq}(hz:Cq (F6 Shun) w z){j:Nat}{ob:Obj}(hj:w.heap[j]? = lp ob)(hk:kindOf ob≠lp 115):z.heap[j]? = lp ob:=Dl h.B.S h.B.nf hz hj hk
theorem QF{oa:Option zu}{ol oc:Nat}(h:W2 Tabs gN Shun w Cp svb D K tb mb wm sm s1 s2 lg last num ns ks p1 o1 p2 (cf oa ol oc)) :
  De ly Post 14 #[om (lp ⟨Cp,0,od⟩),rl tz 2] Shun w fun val w' Sh=>Sh=Shun/\val=fh #[cf oa ol oc,rl tz 0]/\Ar w w' (· = s2)/\W2 Tabs gN Shun w' Cp svb D K tb mb wm sm s1 s2 lg last num ns ks p1 o1 p2 (cf od 0 0):=by
 refine D6 (Nf (Post:=Post) (f:=14) Ad rfl h.B.S h.B.nf (X:=(· = s2)) (R:=fun x v'=>x=fh #[cf oa ol oc,rl tz 0]/\v'.heap[s2]? = lp (ye (Bl (rl tz 2) p2 (gf vp) (rl tz 1) (gf vp) (cf od 0 0)) 75)) fun v hv=>?_) ?_
 ·have gS:=h.getS hv h.b2 (by simp [kindOf])
  have gV:=h.getS hv h.srv.hv (by simp [kindOf])
  have gO:=h.getS hv h.os (by simp [kindOf])
  obtain⟨es,ck,hm⟩:=h.srv.hm.obj
  have gM:=h.getS hv hm (by simp [kindOf])
  refine(EH v Cp svb sm s2 2 (cellOf (j:=0) gO rfl) (cellOf (j:=3) gV rfl) (Of (o5 ⟨rfl,rfl⟩) (h.srv.hm.of_block (gM.trans hm.symm))) _ _ _ _ _ oa ol oc gS).mono ?_
  exact Yiv
 ·rintro x w' Sh ⟨rfl,Kx,hn,hS,v',hs,rfl,hb⟩
  have Es:w'.heap[s2]? = lp (ye (Bl (rl tz 2) p2 (gf vp) (rl tz 1) (gf vp) (cf od 0 0)) 75):=by
   refine(hs.same hn fun hB=>?_).symm.trans hb
   exact Jm h.B.S h.b2 (by simp [kindOf]) hB
  exact⟨rfl,rfl,Kx,h.keep Kx hn hS (fun j e=>o5 e) (Kx.get h.b1 h.ne) Es⟩
theorem ZN{oa:Option zu}{ol oc:Nat}(h:W2 Tabs gN Shun w Cp svb D K tb mb wm sm s1 s2 lg last num ns ks p1 (cf oa ol oc) p2 o2) :
  De ly Post 14 #[om (lp ⟨Cp,0,od⟩),rl tz 1] Shun w fun val w' Sh=>Sh=Shun/\val=fh #[cf oa ol oc,rl tz 0]/\Ar w w' (· = s1)/\W2 Tabs gN Shun w' Cp svb D K tb mb wm sm s1 s2 lg last num ns ks p1 (cf od 0 0) p2 o2:=by
 refine D6 (Nf (Post:=Post) (f:=14) Ad rfl h.B.S h.B.nf (X:=(· = s1)) (R:=fun x v'=>x=fh #[cf oa ol oc,rl tz 0]/\v'.heap[s1]? = lp (ye (Bl (rl tz 1) p1 (gf vp) (rl tz 1) (gf vp) (cf od 0 0)) 75)) fun v hv=>?_) ?_
 ·have gS:=h.getS hv h.b1 (by simp [kindOf])
  have gV:=h.getS hv h.srv.hv (by simp [kindOf])
  have gO:=h.getS hv h.os (by simp [kindOf])
  obtain⟨es,ck,hm⟩:=h.srv.hm.obj
  have gM:=h.getS hv hm (by simp [kindOf])
  refine(EH v Cp svb sm s1 1 (cellOf (j:=0) gO rfl) (cellOf (j:=3) gV rfl) (Of (.inl ⟨rfl,rfl⟩) (h.srv.hm.of_block (gM.trans hm.symm))) _ _ _ _ _ oa ol oc gS).mono ?_
  exact Yiv
 ·rintro x w' Sh ⟨rfl,Kx,hn,hS,v',hs,rfl,hb⟩
  have Es:w'.heap[s1]? = lp (ye (Bl (rl tz 1) p1 (gf vp) (rl tz 1) (gf vp) (cf od 0 0)) 75):=by
   refine(hs.same hn fun hB=>?_).symm.trans hb
   exact Jm h.B.S h.b1 (by simp [kindOf]) hB
  exact⟨rfl,rfl,Kx,h.keep Kx hn hS (fun j e=>.inl e) Es (Kx.get h.b2 h.ne.symm)⟩
theorem WH(h:W2 Tabs gN Shun w Cp svb D K tb mb wm sm s1 s2 lg last num ns ks p1 o1 p2 o2) :
  De ly Post 15 #[om (lp ⟨Cp,0,od⟩)] Shun w fun val w' Sh=>Sh=Shun/\(∃v,val=fh #[rl tz num,v])/\Ar w w' (fun _=>False)/\W2 Tabs gN Shun w' Cp svb D K tb mb wm sm s1 s2 lg last num ns ks p1 o1 p2 o2:=by
 refine D6 (Nf (Post:=Post) (f:=15) Ad rfl h.B.S h.B.nf (X:=fun _=>False) (R:=fun x v'=>∃v,x=fh #[rl tz num,v]) fun v hv=>?_) ?_
 ·have gV:=h.getS hv h.srv.hv (by simp [kindOf])
  have gO:=h.getS hv h.os (by simp [kindOf])
  have gT:=h.getS hv h.srv.ht.blk (by simp [kindOf])
  obtain⟨es,ck,hm⟩:=h.srv.ht.map.obj
  have gM:=h.getS hv hm (by simp [kindOf])
  refine(ZY v Cp svb tb mb num ns (cellOf (j:=0) gO rfl) (cellOf (j:=1) gV rfl) (ltOf gV) ⟨gT,h.srv.ht.map.of_block (gM.trans hm.symm)⟩ (by have:=h.srv.tk.len;omega)).mono ?_
  rintro e v' ⟨⟨x,rfl⟩,hb⟩
  exact⟨⟨_,rfl,x,rfl⟩,Bp hb⟩
 ·rintro x w' Sh ⟨rfl,Kx,hn,hS,v',hs,hx⟩
  exact⟨rfl,hx,Kx,h.grow Kx hn hS⟩
end
section
variable {Post:tj->qq->Prop} {Shun:Loc->Prop} {w w0 w₁:qq} {fr:Frame} {cs:List Frame} {sb bl cap:Nat} {cv:tj} {ba:Option zu}
noncomputable def Wt(sb N:Nat)(cv:tj)(ba:Option zu)(bl cap:Nat)(x15:tj):Act:=
 {tmps:=#[om (lp ⟨sb,0,od⟩),cf ba bl cap,cv,om (lp ⟨N,0,od⟩),om (lp ⟨N+1,0,od⟩),yj,gf vp,om (lp ⟨N+3,0,od⟩),om (lp ⟨N+4,0,od⟩),yj,om (lp ⟨sb,0,od⟩),om (lp ⟨sb,0,od⟩),om (lp ⟨sb,1,od⟩),gf vp,.chan (lp (N+2)),x15,yj,yj,yj,yj,yj,yj,yj,yj,yj,yj,yj,yj,yj,yj],defers:=[] }
def Ml(sb N:Nat)(bsl:tj)(st:Int):List Obj:=[ye #[om (lp ⟨sb,0,od⟩)] 104,ye #[bsl] 35,.chan 0 #[] vp 0 0 vp,ye #[.chan (lp (N+2))] 105,KY 115 st 0]
set_option maxRecDepth 100000 in
theorem CG(hS:Bf Shun w){cc:Array tj}(hr:w.heap[sb]? = lp (ye cc 73))(h2:cc[1]? = lp (gf vp))(Bo:∀w',PV w (Ml sb w.heap.size (cf ba bl cap) 0) w'->EA ly Post Shun (G ((base 34).at (Wt sb w.heap.size cv ba bl cap yj) [.inRegion Sb [0],.code M6]) (fr :: cs)) w') :
  EA ly Post Shun (G ((base 34).at { tmps:=#[om (lp ⟨sb,0,od⟩),cf ba bl cap,cv]++Array.replicate 27 yj,defers:=[] } [.code Et]) (fr :: cs)) w:=by
 have T:=Ln Shun
 have hF:=PV.start w
 generalize hw0:w=w0 at hS hr Bo
 rw [hw0] at hF
 refine Oso ?_
 refine Jc0 ?_
 refine Bj rfl Ac Ad fun _ hRz Kz hKz=>?_
 replace hF:=PV.rely hF hRz
 clear hRz
 (skip)
 go_simp
 try(unfold ve;go_simp)
 refine hKz _ _ ⟨?_,?_⟩
 ·(rw [vj (by simp [go_sem])];exact Gg _ _)
 clear hKz Kz
 try walk_nrm
 simp only [hF.size,aI,Nat.add_zero]
 replace hF:=hF.push (ye #[om (lp ⟨sb,0,od⟩)] 104)
 refine Bj rfl Ac Ad fun _ hRz Kz hKz=>?_
 replace hF:=PV.rely hF hRz
 clear hRz
 (skip)
 go_simp
 try(unfold ve;go_simp)
 refine hKz _ _ ⟨?_,?_⟩
 ·(rw [vj (by simp [go_sem])];exact Gg _ _)
 clear hKz Kz
 try walk_nrm
 simp only [hF.size,aI,aP,aK,aM]
 replace hF:=hF.push (ye #[cf ba bl cap] 35)
 simp only [aP,bK] at hF
 refine Bj rfl Ac Ad fun _ hRz Kz hKz=>?_
 replace hF:=PV.rely hF hRz
 clear hRz
 go_simp
 try(unfold ve;go_simp)
 refine hKz _ _ ⟨?_,?_⟩
 ·co_quiet T
 clear hKz Kz
 try walk_nrm
 refine Hom ?_
 iterate 2(refine I9g ?_)
 refine An ?_
 have e0:w0.heap.size+0=w0.heap.size:=rfl
 refine Bj rfl Ac Ad fun _ hRz Kz hKz=>?_
 replace hF:=PV.rely hF hRz
 clear hRz
 (have hc:=hF.cell (j:=0) (i:=0) rfl rfl;rw [e0] at hc)
 go_simp
 try(unfold ve;go_simp)
 refine hKz _ _ ⟨?_,?_⟩
 ·(refine If ?_;co_evs (exact evL_cell (hS.new (aA _)) (by have:=hF.size;simp at this;show _<_;simp;omega)))
 clear hKz Kz
 try walk_nrm
 clear hc
 refine Bj rfl Ac Ad fun _ hRz Kz hKz=>?_
 replace hF:=PV.rely hF hRz
 clear hRz
 go_simp
 try(unfold ve;go_simp)
 refine hKz _ _ ⟨?_,?_⟩
 ·co_quiet T
 clear hKz Kz
 try walk_nrm
 refine Bj rfl Ac Ad fun _ hRz Kz hKz=>?_
 replace hF:=PV.rely hF hRz
 clear hRz
 go_simp
 try(unfold ve;go_simp)
 refine hKz _ _ ⟨?_,?_⟩
 ·co_quiet T
 clear hKz Kz
 try walk_nrm
 refine Bj rfl Ac Ad fun _ hRz Kz hKz=>?_
 replace hF:=PV.rely hF hRz
 clear hRz
 (have hc:=hF.cellOld (j:=1) hr h2)
 exact Egx
set_option maxRecDepth 100000 in
theorem IB(hF:PV w0 (Ml sb w0.heap.size (cf ba bl cap) 0) w)(Bo:∀w',PV w0 (Ml sb w0.heap.size (cf ba bl cap) KK) w'->EA ly Post Shun (G ((base 34).at (Wt sb w0.heap.size cv ba bl cap (fh #[])) [.inRegion Sb [],.code M6]) (fr :: cs)) w') :
  EA ly Post Shun (G ((base 34).at (Wt sb w0.heap.size cv ba bl cap yj) [.inRegion Sb [0],.code M6]) (fr :: cs)) w:=by
 intro d
 have hP:PV w0 (Ml sb w0.heap.size (cf ba bl cap) 0) (w.at d):=hF.rely ⟨d,rfl⟩
 have Hh:D3 115 (w0.heap.size+4) (w.at d) 0 0:=hP.new 4 _ rfl
 refine Zc (Wg:=w0.heap.size+4) (Ret:=G ((base 34).at (Wt sb w0.heap.size cv ba bl cap (fh #[])) [.inRegion Sb [],.code M6]) (fr :: cs)) (Ax Hh) (fun w' r=>?_) (n:=100+1) ?_
 ·exact Up3
 ·refine Goes.step rfl fun w₁ r=>goes_call (f:=46) (fn:=Lib.addFn Tryz.link) (c:=Mg Tryz.link) rfl Ac Ad rfl Tryz.wgLib.f_add Ac Ac ⟨GD.idle _,?_⟩
  have e:Array.map (Wt sb w0.heap.size cv ba bl cap yj).eval #[Operand.tmp 8,Operand.const (Value.int IntKind.i64 1)]=#[om (lp ⟨w0.heap.size+4,0,od⟩),rl tz 1]:=by simp [cj,Wt]
  rw [e]
  exact LP Tryz.wgLib (Wg:=w0.heap.size+4) (b₀:=base 34) (a₀:=Wt sb w0.heap.size cv ba bl cap yj) (ops₀:=Sb) (i₀:=0) (rest₀:=[]) (k₀:=[.code M6]) (cs:=fr :: cs) w₁ (A2 Hh r)
noncomputable def BF(sb N:Nat)(cv:tj)(ba:Option zu)(bl cap:Nat):Act:=
 {tmps:=#[om (lp ⟨sb,0,od⟩),cf ba bl cap,cv,om (lp ⟨N,0,od⟩),om (lp ⟨N+1,0,od⟩),yj,gf vp,om (lp ⟨N+3,0,od⟩),om (lp ⟨N+4,0,od⟩),yj,om (lp ⟨sb,0,od⟩),om (lp ⟨sb,0,od⟩),om (lp ⟨sb,1,od⟩),gf vp,.chan (lp (N+2)),fh #[],.func (.func 47) #[] #[om (lp ⟨N+4,0,od⟩),om (lp ⟨N+3,0,od⟩),om (lp ⟨N,0,od⟩),om (lp ⟨N+1,0,od⟩)],yj,yj,yj,yj,yj,yj,yj,yj,yj,yj,yj,yj,yj],defers:=[] }
set_option maxRecDepth 100000 in
theorem ND(hP:PV w0 (Ml sb w0.heap.size (cf ba bl cap) KK) w)(Bo:∀w',PV w0 (Ml sb w0.heap.size (cf ba bl cap) KK) w'->EA ly Post Shun (G ((base 34).at (BF sb w0.heap.size cv ba bl cap) [.inRegion (Code.opsOf r6) [1],.code Ic]) (fr :: cs)) w') :
  EA ly Post Shun (G ((base 34).at (Wt sb w0.heap.size cv ba bl cap (fh #[])) [.inRegion Sb [],.code M6]) (fr :: cs)) w:=by
 have T:=Ln Shun
 refine EA.goes (n:=4) ?_
 refine Hom ?_
 rw [FA]
 refine I9g ?_
 simp only [Code.opsOf,r6,M6,Et,Code.core,Code.one,Code.two,qh,aN,Wt]
 exact Ox3
set_option maxRecDepth 100000 in
theorem KC{N:Nat}(w:qq):stepG ly s7 (G ((base 34).at (BF sb N cv ba bl cap) [.inRegion (Code.opsOf r6) [1],.code Ic]) (fr :: cs)) w =
  .spawn (G ((base 34).at (BF sb N cv ba bl cap) [.inRegion (Code.opsOf r6) [],.code Ic]) (fr :: cs)) (born ly (call47 (N+4) (N+3) N (N+1))) w #[]:=by
 simp only [Code.opsOf,r6,M6,Et,Code.core,Code.one,Code.two,qh,aN]
 rw [stepG_spawn rfl Ac Ad (d:=call47 (N+4) (N+3) N (N+1)) (w':=w) (f:=.func 47) (c:=#[om (lp ⟨N+4,0,od⟩),om (lp ⟨N+3,0,od⟩),om (lp ⟨N,0,od⟩),om (lp ⟨N+1,0,od⟩)]) (by simp [go_sem,xz,resolve,zr,cj,BF,call47]) rfl]
 rw [vj (by simp [go_sem,xz,resolve,zr,cj,BF])]
 rfl
end
def KN(N:Nat)(i:Nat)(_:Obj):Prop:=i≠N+4/\i≠N+2
structure KV(N:Nat)(ws w:qq):Prop where
 same:Ed ws w
 tape:w.tape=ws.tape
 size:ws.heap.size<=w.heap.size
 keep:∀(i:Nat) (o:Obj),ws.heap[i]? = lp o->KN N i o->w.heap[i]? = lp o
 far:∀(i:Nat) (o:Obj),w.heap[i]? = lp o->¬B7 o->ws.heap[i]? = lp o
structure KW(N:Nat)(ws w:qq):Prop where
 k:KV N ws w
 wg:Dq 115 (N+4) w
def LN(N:Nat)(_:qq)(l:Loc)(x:Bool):Prop:=x=vp/\∃a,l=.cell a/\RoN N a
@[reducible] noncomputable def CN(Shun:Loc->Prop)(k N:Nat)(ws:qq)(z:List Frame):Pu:=
 {P:=ly,Shun,k,Wg:=N+4,Ch:=N+2,ty:=115,LA:=LN N,LB:=LN N,KA:=KN N,KB:=KN N,β:=Unit,Msg:=fun _ _ _=>True,FB:=fun _ w=>KV N ws w,PostA:=fun _ g w=>Mf (om (lp ⟨N,0,od⟩)) z g w }
section
variable {Post:tj->qq->Prop} {Shun:Loc->Prop} {k N:Nat} {ws w w':qq} {z:List Frame} {sb bl cap:Nat} {cv:tj} {ba:Option zu}
theorem KV.keeps(h:KV N ws w)(hk:Gf (KN N) w w'):KV N ws w':=
 ⟨h.same.trans ⟨hk.os,hk.output⟩,hk.tape.trans h.tape,aE h.size hk.size,fun i o e q=>hk.keep i o (h.keep i o e q) q,fun i o e n=>h.far i o (hk.far i o e n) n⟩
theorem KW.rb(h:KW N ws w)(r:RB (CN Shun k N ws z) w w'):KW N ws w':=⟨h.k.keeps r.keep,r.wg h.wg⟩
theorem KW.ra(h:KW N ws w)(r:RA (CN Shun k N ws z) [] w w'):KW N ws w':=⟨h.k.keeps r.keep,r.wg h.wg⟩
theorem ZU(C:Pu)(sent:List (C.β×tj)):Terms (RB C) (DB C sent):=⟨fun _ _ _ h k=>h.trans k,fun w=>⟨.refl _ _,fun _ _ h=>h,.refl _,rfl,rfl,Ae⟩⟩
theorem Sq{es:Array Event}(he:∀e∈es,RO (LN N) w e):DB (CN Shun k N ws z) [] w w es:=⟨.refl _ _,fun _ _ h=>h,.refl _,rfl,rfl,he⟩
theorem SR{es:Array Event}(he:∀e∈es,RO (LN N) w e):DA (CN Shun k N ws z) w w es:=⟨.refl _ _,.refl _,rfl,rfl,he⟩
theorem evN{i:Nat}(hi:i=N∨i=N+1∨i=N+3)(hl:i<w.heap.size):RO (LN N) w ⟨.cell ⟨i,0,od⟩,vp,vp⟩:=o5 ⟨_,_,rfl,⟨rfl,_,rfl,hi⟩,hl⟩
theorem MP(hk:0<k)(hS:∀l,Shun l->∃a:zu,l=.cell a/\a.block<N):(CN Shun k N ws z).Ok:=by
 have ro:∀(w:qq) (l:Loc) (x:Bool),LN N w l x->¬Hy (N+4) l/\l≠.obj (N+2)/\¬Shun l:=by
  rintro w l x ⟨_,a,rfl,ha⟩
  have ha':a.block=N∨a.block=N+1∨a.block=N+3:=ha
  refine⟨fun⟨b,e,hb⟩=>?_,(by intro h;cases h),fun hs=>?_⟩
  ·cases e
   have Es:a.block=N+4:=hb
   omega
  ·obtain⟨b,e,hb⟩:=hS _ hs
   cases e
   omega
 refine⟨hk,⟨fun w l x y h h'=>⟨h.1,h'.1⟩,ro,ro,fun w w' l x g h=>h,fun w w' l x g h=>h,fun l ⟨a,e,ha⟩ hs=>?_,fun hs=>?_⟩,by show N+4≠N+2;omega,fun i o h=>h,fun i o h=>h,fun b v w w' _ h=>h,fun sent w w' hKe h=>h.keeps hKe,fun sent g w d=>FV _ _ _ _ _⟩
 ·obtain⟨b,e',hb⟩:=hS _ hs
  rw [e] at e'
  cases e'
  have ha':a.block=N+4:=ha
  omega
 ·obtain⟨b,e',hb⟩:=hS _ hs
  cases e'
structure BxN(N sb:Nat)(bv:tj)(ws:qq):Prop where
 b:ws.heap[N+3]? = lp (ye #[.chan (lp (N+2))] 105)
 c:ws.heap[N]? = lp (ye #[om (lp ⟨sb,0,od⟩)] 104)
 v:ws.heap[N+1]? = lp (ye #[bv] 35)
set_option maxRecDepth 100000 in
theorem Acb(O:(CN Shun k N ws z).Ok)(hB:BxN N sb (cf ba 0 cap) ws)(hF:KW N ws w) :
  O9 (CN Shun k N ws z) [] [] (born ly (call47 (N+4) (N+3) N (N+1))) w:=by
 have T:=ZU (CN Shun k N ws z) []
 have b3:∀{w:qq},KW N ws w->w.heap[N+3]? = lp (ye #[.chan (lp (N+2))] 105):=fun h=>h.k.keep _ _ hB.b ⟨Ab,Ab⟩
 have b0:∀{w:qq},KW N ws w->w.heap[N]? = lp (ye #[om (lp ⟨sb,0,od⟩)] 104):=fun h=>h.k.keep _ _ hB.c ⟨Ab,Ab⟩
 have b1:∀{w:qq},KW N ws w->w.heap[N+1]? = lp (ye #[cf ba 0 cap] 35):=fun h=>h.k.keep _ _ hB.v ⟨Ab,Ab⟩
 refine⟨30,?_⟩
 refine Av T rfl (fun w=>MD _ _ _ _ w) ?_
 simp only [Ti,f47,aN]
 refine I9g ?_
 refine Vgp ?_
 refine Av T rfl (fun w=>stepG_defer rfl Ac Ad rfl) ?_
 walk_nrm
 refine Hom ?_
 refine Jc0 ?_
 refine Bj rfl Ac Ad fun _ hRz Kz hKz=>?_
 replace hF:=KW.rb hF hRz
 clear hRz
 (have hc:q7 _ ⟨N+3,0,od⟩=lp (.chan (lp (N+2))):=cellOf (j:=0) (b3 hF) rfl)
 go_simp
 try(unfold ve;go_simp)
 refine hKz _ _ ⟨?_,?_⟩
 ·(refine Sq ?_;co_evs (exact evN (o5 (o5 rfl)) (ltOf (b3 hF))))
 clear hKz Kz
 try walk_nrm
 clear hc
 refine Av T rfl (fun w=>Lb (c:=N+2) rfl Ac Ad rfl rfl) ?_
 walk_nrm
 refine Hom ?_
 refine An ?_
 refine Bj rfl Ac Ad fun _ hRz Kz hKz=>?_
 replace hF:=KW.rb hF hRz
 clear hRz
 (have hc:q7 _ ⟨N,0,od⟩=lp (om (lp ⟨sb,0,od⟩)):=cellOf (j:=0) (b0 hF) rfl)
 go_simp
 try(unfold ve;go_simp)
 refine hKz _ _ ⟨?_,?_⟩
 ·(refine Sq ?_;co_evs (exact evN (.inl rfl) (ltOf (b0 hF))))
 clear hKz Kz
 try walk_nrm
 clear hc
 refine Bj rfl Ac Ad fun _ hRz Kz hKz=>?_
 replace hF:=KW.rb hF hRz
 clear hRz
 (have hc:q7 _ ⟨N+1,0,od⟩=lp (cf ba 0 cap):=cellOf (j:=0) (b1 hF) rfl)
 go_simp
 try(unfold ve;go_simp)
 refine hKz _ _ ⟨?_,?_⟩
 ·(refine Sq ?_;co_evs (exact evN (o5 (.inl rfl)) (ltOf (b1 hF))))
 clear hKz Kz
 try walk_nrm
 clear hc
 refine Bj rfl Ac Ad fun _ hRz Kz hKz=>?_
 replace hF:=KW.rb hF hRz
 clear hRz
 (have hc:q7 _ ⟨N+3,0,od⟩=lp (.chan (lp (N+2))):=cellOf (j:=0) (b3 hF) rfl)
 go_simp
 try(unfold ve;go_simp)
 refine hKz _ _ ⟨?_,?_⟩
 ·(refine Sq ?_;co_evs (exact evN (o5 (o5 rfl)) (ltOf (b3 hF))))
 clear hKz Kz
 try walk_nrm
 clear hc
 refine Goes.step rfl fun w₁ hR=>goes_call rfl Ac Ad rfl func49 Ac rfl ⟨T.idle _,?_⟩
 replace hF:=hF.rb hR
 clear hR
 walk_nrm
 simp only [ntmps49,dG,bY,dR,aU,aK,aI,Nat.reduceAdd,Nat.reduceSub,bT,bZ,cG,cB,aP,bK]
 refine Wem ?_
 iterate 2(refine I9g ?_)
 refine An ?_
 refine Bj rfl Ac Ad fun _ hRz Kz hKz=>?_
 replace hF:=KW.rb hF hRz
 clear hRz
 go_simp
 try(unfold ve;go_simp)
 refine hKz _ _ ⟨?_,?_⟩
 ·co_quiet T
 clear hKz Kz
 try walk_nrm
 refine Bj rfl Ac Ad fun _ hRz Kz hKz=>?_
 replace hF:=KW.rb hF hRz
 clear hRz
 go_simp
 try(unfold ve;go_simp)
 refine hKz _ _ ⟨?_,?_⟩
 ·co_quiet T
 clear hKz Kz
 try walk_nrm
 refine Bj rfl Ac Ad fun _ hRz Kz hKz=>?_
 replace hF:=KW.rb hF hRz
 clear hRz
 go_simp
 try(unfold ve;go_simp)
 refine hKz _ _ ⟨?_,?_⟩
 ·co_quiet T
 clear hKz Kz
 try walk_nrm
 refine Hom ?_
 refine Vta ?_
 simp only [aV,bQ]
 refine Av T rfl (fun _=>(stepG_exit (k':=[]) rfl)) ?_
 refine Av T rfl (fun _=>stepG_end) ?_
 refine Av T rfl (fun w=>stepG_leave (v:=fh #[]) rfl rfl func49 (results_none Ac _ _ _) (events_results_none Ac _ _)) ?_
 rw [Frame.finish_at]
 walk_nrm
 refine Hom ?_
 refine Av T rfl (fun _=>stepG_end) ?_
 intro w₁ hR
 replace hF:=hF.rb hR
 refine⟨rfl,rfl,fun s r tm hch=>⟨_,Ke rfl Ac hch,rfl,103+1,?_⟩⟩
 have hP:=Nv (C:=CN Shun k N ws z) (sent:=[]) (w:=w₁) O (o:=.chan 0 #[] s7 s r tm)
 have hG:KW N ws (w₁.shut (N+2) s r tm):=hF.rb hP.2
 refine J9 (fun _ _ _ h=>D0.db _ _ h) ?_
 refine Av (GF _) rfl (fun w=>stepG_unwind_enter (f:=48) rfl func48 Ac rfl) ?_
 exact VP (C:=CN Shun k N ws z) O Tryz.wgLib rfl (cs:=[bot]) (qt:=2) rfl (FY _) _ ⟨hG.wg,hG.k⟩
set_option maxRecDepth 100000 in
theorem Acy(O:(CN Shun k N ws z).Ok)(y:Nat->tj)(h3:y 3=om (lp ⟨N,0,od⟩))(h8:y 8=om (lp ⟨N+4,0,od⟩))(h17:y 17=.chan (lp (N+2)))(hw:Dq 115 (N+4) w) :
  WN (CN Shun k N ws z) [] (He (base 34) [.code Gm] z y) w:=by
 have T:=EN (CN Shun k N ws z) []
 refine⟨rfl,cf od 0 0,?_,fun w₂ hR=>?_⟩
 ·show stepG ly s7 (He (base 34) [.code Gm] z y) w=_
  unfold He
  simp only [Ot,Uj,Ic,Et,Code.opsOf,Code.one,Code.two,Code.core,qh,aN,LG,h17]
  rw [stepG_comm rfl Ac Ad (cases:=#[rcase (N+2) (cf od 0 0)]) (blocking:=s7) (shape:=.recv s7) (w':=w) (by simp [go_sem,xz,rcase,cj,kg,zeroValue35])]
  rw [vj (by simp [go_sem,xz,cj,kg,zeroValue35])]
  rfl
 ·have hw2:=hR.wg hw
  clear hR
  refine⟨100+8,?_⟩
  unfold He
  rw [Oi (o:=Ot[0]' Ad) rfl]
  show Goes ly s7 (RA (CN Shun k N ws z) []) (DA (CN Shun k N ws z)) _ _ _ _
  simp only [Ot,Rv,Uj,Ic,Et,Code.opsOf,Code.one,Code.two,Code.core,qh,aN,LG]
  refine Bj rfl Ac Ad fun w₁ hR K' hK=>?_
  replace hw2:=hR.wg hw2
  clear hR
  try walk_nrm
  go_simp
  refine hK _ _ ⟨by co_quiet T,?_⟩
  clear hK K'
  try walk_nrm
  refine Eps ?_
  rw [show Gm=.seq (.region 11 Qe vp) (Code.two Gm) from rfl]
  refine Iya ?_
  refine Grn ?_
  rw [show qw Qe.size = [0] from rfl]
  refine Goes.step rfl fun w₂ hR=>goes_call (f:=50) (fn:=Lib.waitFn Tryz.link) (c:=Pw Tryz.link) rfl Ac Ad rfl Tryz.wgLib.f_wait Ac Ac ⟨T.idle _,?_⟩
  replace hw2:=hR.wg hw2
  clear hR
  rw [show Array.map (cj ({ tmps:=#[y 0,y 1,y 2,(om (lp ⟨N,0,od⟩)),y 4,y 5,y 6,y 7,om (lp ⟨N+4,0,od⟩),y 9,y 10,y 11,y 12,y 13,y 14,y 15,y 16,.chan (lp (N+2)),fh #[cf od 0 0,gf vp],gf vp,y 20,y 21,y 22,y 23,y 24,y 25,y 26,y 27,y 28,y 29],defers:=[] }:Act)) #[Operand.tmp 8]=#[om (lp ⟨N+4,0,od⟩)] by simp [cj]]
  refine J9 (fun _ _ _ h=>D0.da _ h) ?_
  refine WM (C:=(CN Shun k N ws z)) (sent:=[]) O Tryz.wgLib rfl (b₀:=base 34) (a₀:={ tmps:=#[y 0,y 1,y 2,(om (lp ⟨N,0,od⟩)),y 4,y 5,y 6,y 7,om (lp ⟨N+4,0,od⟩),y 9,y 10,y 11,y 12,y 13,y 14,y 15,y 16,.chan (lp (N+2)),fh #[cf od 0 0,gf vp],gf vp,y 20,y 21,y 22,y 23,y 24,y 25,y 26,y 27,y 28,y 29],defers:=[] }) (ops₀:=Qe) (i₀:=0) (rest₀:=[]) (k₀:=[.code (Code.two Gm)]) (cs:=z) _ hw2 (fun g' w₃ hk D1 hgo=>?_)
  obtain⟨nn,hgo⟩:=hgo
  exact⟨fun i=>([y 0,y 1,y 2,(om (lp ⟨N,0,od⟩)),y 4,y 5,y 6,y 7,om (lp ⟨N+4,0,od⟩),y 9,y 10,y 11,y 12,y 13,y 14,y 15,y 16,.chan (lp (N+2)),fh #[cf od 0 0,gf vp],gf vp,y 20,y 21,y 22,y 23,fh #[],y 25,y 26,y 27,y 28,y 29]:List tj).getD i yj,nn,rfl,hgo⟩
set_option maxRecDepth 100000 in
theorem Aay(O:(CN Shun k N ws z).Ok)(hB:BxN N sb (cf ba bl cap) ws)(hF:KW N ws w) :
  Qq (CN Shun k N ws z) [] [] (G ((base 34).at (BF sb N cv ba bl cap) [.inRegion (Code.opsOf r6) [],.code Ic]) z) w:=by
 have T:=EN (CN Shun k N ws z) []
 have b3:∀{w:qq},KW N ws w->w.heap[N+3]? = lp (ye #[.chan (lp (N+2))] 105):=fun h=>h.k.keep _ _ hB.b ⟨Ab,Ab⟩
 refine⟨10,?_⟩
 refine Hom ?_
 rw [show Ic=.seq (.seq (.region 7 (Code.opsOf (Code.one (Code.one Ic))) vp) (.block 0 (.loop (.seq (.region 8 Ot vp) Rv)))) Gm from rfl]
 iterate 2(refine I9g ?_)
 refine Grn ?_
 rw [show qw (Code.opsOf (Code.one (Code.one Ic))).size = [0] from rfl]
 refine Bj (o:=(Code.opsOf (Code.one (Code.one Ic)))[0]' Ad) rfl Ac Ad fun w₁ hR K' hK=>?_
 replace hF:=hF.ra hR
 clear hR
 have hc:q7 _ ⟨N+3,0,od⟩=lp (.chan (lp (N+2))):=cellOf (j:=0) (b3 hF) rfl
 simp only [Code.opsOf,Ic,Et,Code.core,Code.one,Code.two,qh,aN,BF] at hK ⊢
 go_simp
 refine hK _ _ ⟨SR ?_,?_⟩
 ·co_evs (exact evN (o5 (o5 rfl)) (ltOf (b3 hF)))
 clear hK K' hc
 try walk_nrm
 refine Hom ?_
 refine Wem ?_
 refine I9g ?_
 refine Grn ?_
 rw [show qw Ot.size = [0,1] from rfl]
 intro w₂ hR
 replace hF:=hF.ra hR
 clear hR
 exact Acy O (fun i=>([om (lp ⟨sb,0,od⟩),cf ba bl cap,cv,om (lp ⟨N,0,od⟩),om (lp ⟨N+1,0,od⟩),yj,gf vp,om (lp ⟨N+3,0,od⟩),om (lp ⟨N+4,0,od⟩),yj,om (lp ⟨sb,0,od⟩),om (lp ⟨sb,0,od⟩),om (lp ⟨sb,1,od⟩),gf vp,.chan (lp (N+2)),fh #[],.func (.func 47) #[] #[om (lp ⟨N+4,0,od⟩),om (lp ⟨N+3,0,od⟩),om (lp ⟨N,0,od⟩),om (lp ⟨N+1,0,od⟩)],.chan (lp (N+2)),yj,yj,yj,yj,yj,yj,yj,yj,yj,yj,yj,yj]:List tj).getD i yj) rfl rfl rfl hF.wg
end
structure CEn(N sb:Nat)(w:qq):Prop where
 c:w.cell? ⟨N,0,od⟩=lp (om (lp ⟨sb,0,od⟩))
 lt:N<w.heap.size
 t:w.cell? ⟨sb,1,od⟩=lp (gf vp)
 ls:sb<w.heap.size
structure RF(N sb:Nat)(w0 w:qq):Prop where
 e:CEn N sb w
 r:AtRel w0 w
theorem CEn.rely{N sb:Nat}{w w':qq}(h:CEn N sb w)(r:AtRel w w'):CEn N sb w':=by
 obtain⟨d,rfl⟩:=r
 exact⟨h.c,h.lt,h.t,h.ls⟩
theorem RF.rely{N sb:Nat}{w0 w w':qq}(h:RF N sb w0 w)(r:AtRel w w'):RF N sb w0 w':=⟨h.e.rely r,atRel_trans _ _ _ h.r r⟩
section
variable {Post:tj->qq->Prop} {Shun:Loc->Prop} {w:qq} {fr:Frame} {cs:List Frame} {sb N:Nat}
set_option maxRecDepth 100000 in
theorem IC(y:Nat->tj)(h3:y 3=om (lp ⟨N,0,od⟩))(n1:¬Shun (.cell ⟨N,0,od⟩))(n2:¬Shun (.cell ⟨sb,1,od⟩))(hF:CEn N sb w)(Bo:∀d,EA ly Post Shun (G (fr.finish (gf s7)) cs) (w.at d)) :
  EA ly Post Shun (G ((base 34).at (LG y) [.inRegion Qe [],.code (Code.two Gm)]) (fr :: cs)) w:=by
 have T:=Ln Shun
 refine EA.goes (n:=12) ?_
 have hG:RF N sb w w:=⟨hF,atRel_refl w⟩
 clear hF
 refine Hom ?_
 rw [Zb]
 refine Fpl ?_
 refine Bj rfl Ac Ad fun _ hRz Kz hKz=>?_
 replace hG:=RF.rely hG hRz
 clear hRz
 (have hc:=hG.e.c)
 go_simp
 try(unfold ve;go_simp)
 refine hKz _ _ ⟨?_,?_⟩
 ·(refine If ?_;co_evs (exact evL_cell n1 hG.e.lt))
 clear hKz Kz
 try walk_nrm
 clear hc
 refine Bj rfl Ac Ad fun _ hRz Kz hKz=>?_
 replace hG:=RF.rely hG hRz
 clear hRz
 go_simp
 try(unfold ve;go_simp)
 refine hKz _ _ ⟨?_,?_⟩
 ·co_quiet T
 clear hKz Kz
 try walk_nrm
 refine Bj rfl Ac Ad fun _ hRz Kz hKz=>?_
 replace hG:=RF.rely hG hRz
 clear hRz
 go_simp
 try(unfold ve;go_simp)
 refine hKz _ _ ⟨?_,?_⟩
 ·co_quiet T
 clear hKz Kz
 try walk_nrm
 refine Bj rfl Ac Ad fun _ hRz Kz hKz=>?_
 replace hG:=RF.rely hG hRz
 clear hRz
 (have hc:=hG.e.t)
 go_simp
 try(unfold ve;go_simp)
 refine hKz _ _ ⟨?_,?_⟩
 ·(refine If ?_;co_evs (exact evL_cell n2 hG.e.ls))
 clear hKz Kz
 try walk_nrm
 clear hc
 refine Bj rfl Ac Ad fun _ hRz Kz hKz=>?_
 replace hG:=RF.rely hG hRz
 clear hRz
 go_simp
 try(unfold ve;go_simp)
 refine hKz _ _ ⟨?_,?_⟩
 ·co_quiet T
 clear hKz Kz
 try walk_nrm
 refine Bj rfl Ac Ad fun _ hRz Kz hKz=>?_
 replace hG:=RF.rely hG hRz
 exact Xit
theorem NG{ba:Option zu}{cap:Nat}{cv pv:tj}(hS:Bf Shun w)(hr:w.heap[sb]? = lp (ye #[pv,gf vp] 73))(hend:∀w',(∀(i:Nat) (o:Obj),w'.heap[i]? = lp o->¬B7 o->w.heap[i]? = lp o)->Bf (fun l=>Shun l∨Hy (w.heap.size+4) l) w'->w.heap.size<=w'.heap.size->(∀(i:Nat) (o:Obj),w.heap[i]? = lp o->w'.heap[i]? = lp o)->EA ly Post (fun l=>Shun l∨Hy (w.heap.size+4) l) (G (fr.finish (gf s7)) cs) w') :
  EA ly Post Shun (G ((base 34).at { tmps:=#[om (lp ⟨sb,0,od⟩),cf ba 0 cap,cv]++Array.replicate 27 yj,defers:=[] } [.code Et]) (fr :: cs)) w:=by
 have Cg:=Ax hr
 refine CG hS hr rfl fun w1 hP1=>IB hP1 fun w2 hP2=>ND hP2 fun w3 hP=>?_
 have Di:w3.heap.size=w.heap.size+5:=hP.size
 have b0:w3.heap[w.heap.size]? = lp (ye #[om (lp ⟨sb,0,od⟩)] 104):=hP.new 0 _ rfl
 have b1:w3.heap[w.heap.size+1]? = lp (ye #[cf ba 0 cap] 35):=hP.new 1 _ rfl
 have b3:w3.heap[w.heap.size+3]? = lp (ye #[.chan (lp (w.heap.size+2))] 105):=hP.new 3 _ rfl
 have hB:BxN w.heap.size sb (cf ba 0 cap) w3:=⟨b3,b0,b1⟩
 have hn3:∀(i:Nat) (o:Obj),w3.heap[i]? = lp o->¬B7 o->w.heap[i]? = lp o:=fun i o h hn=>DQ hP (fun x hx=>by
  simp only [Ml,bI,cF,or_false] at hx
  rcases hx with rfl|rfl|rfl|rfl|rfl <;> trivial) i o h hn
 have hsh:∀l,Shun l->∃a:zu,l=.cell a/\a.block<w.heap.size:=fun l hl=>by
  obtain⟨a,e,o,h1,_⟩:=hS l hl
  exact⟨a,e,Ax h1⟩
 intro d
 have hK:∀d,KW w.heap.size w3 (w3.at d):=fun d=>⟨⟨Ed.refl _,rfl,aA _,fun _ _ h _=>h,fun _ _ h _=>h⟩,⟨KK,0,hP.new 4 _ rfl⟩⟩
 refine Ends.forkW rfl fun n k hk=>⟨CN Shun k w.heap.size w3 (fr :: cs),[],_,_,0,0,vp,rfl,rfl,rfl,MP hk hsh,KC _,hP.new 2 _ rfl,hP.new 4 _ rfl,Aay (MP hk hsh) hB (hK n),Acb (MP hk hsh) hB (hK n),fun sent g' w' hs D1 hPA hFB hM hE=>?_⟩
 obtain⟨y,m,h3,hgo⟩:=hPA
 have hF:KV w.heap.size w3 w':=hFB
 have keep:∀(i:Nat) (o:Obj),w.heap[i]? = lp o->w'.heap[i]? = lp o:=fun i o hi=>hF.keep i o ((hP.old i (Ax hi)).trans hi) ⟨by have:=Ax hi;omega,by have:=Ax hi;omega⟩
 have c0:w'.heap[w.heap.size]? = lp (ye #[om (lp ⟨sb,0,od⟩)] 104):=hF.keep _ _ b0 ⟨Ab,Ab⟩
 have cS:=keep _ _ hr
 have hsh':Bf (fun l=>Shun l∨Hy (w.heap.size+4) l) w':=fun l hl=>by
  rcases hl with hl|⟨a,rfl,ha⟩
  ·obtain⟨a,rfl,o,h1,h2⟩:=hS l hl
   exact⟨a,rfl,o,keep _ _ h1,h2⟩
  ·obtain⟨⟨st,sm,hg⟩,_⟩:=hE
   exact⟨a,rfl,_,by rw [ha];exact hg,rfl⟩
 have hE':=hend w' (fun i o h hn=>hn3 i o (hF.far i o h hn) hn) hsh' (by have:=hF.size;omega) keep
 have n1:¬(Shun (.cell ⟨w.heap.size,0,od⟩)∨Hy (w.heap.size+4) (.cell ⟨w.heap.size,0,od⟩)):=by
  rintro(h|⟨a,e,ha⟩)
  ·exact hS.new (aA _) h
  ·cases e
   have ha':w.heap.size=w.heap.size+4:=ha
   omega
 have n2:¬(Shun (.cell ⟨sb,1,od⟩)∨Hy (w.heap.size+4) (.cell ⟨sb,1,od⟩)):=by
  rintro(h|⟨a,e,ha⟩)
  ·exact hS.not hr (by simp [kindOf]) h
  ·cases e
   have ha':sb=w.heap.size+4:=ha
   omega
 have hz:=IC (Post:=Post) (fr:=fr) (cs:=cs) y h3 n1 n2 ⟨cellOf (j:=0) c0 rfl,Ax c0,cellOf (j:=1) cS rfl,Ax cS⟩ fun e=>hE'.rel ⟨e,rfl⟩
 exact Ends.goesA (w₀:=w') (fun g Hx h0 Dk=>by rw [Dk Hx (atRel_refl Hx)];exact(hz.rel h0).from (by obtain⟨e,rfl⟩:=h0;exact hF.same)) (atRel_refl w') hgo
theorem IE{T:Da}{ba:Option zu}{cap:Nat}{cv pv:tj}(hS:Bf Shun w)(hr:w.heap[sb]? = lp (ye #[pv,gf vp] 73)) :
  De ly T 34 #[om (lp ⟨sb,0,od⟩),cf ba 0 cap,cv] Shun w fun val w' Sh=>val=gf s7/\NF w'/\(Bf Sh w'/\∀a:zu,Sh (.cell a)->Shun (.cell a)∨w.heap.size<=a.block)/\w.heap.size<=w'.heap.size/\∀(i:Nat) (o:Obj),w.heap[i]? = lp o->w'.heap[i]? = lp o:=by
 rintro W rfl hF
 refine⟨qh,Et,func34,Ac,Ac,fun fr cs hnx=>NG (w:=W) (Jv.1 hS) (J6 hr trivial) fun w' h1 h2 h3 h4=>hnx _ _ _ ⟨hF.keep h1,rfl,Qc _,⟨Jv.2 h2,fun a ha=>?_⟩,by rw [Cw,Cw];exact h3,fun i o h=>?_⟩⟩
 ·rcases ha with ha|⟨b,e,hb⟩
  ·exact .inl ha
  ·cases e
   have Es:a.block=W.heap.size+4:=hb
   exact o5 (by rw [Cw];omega)
 ·rw [Cr] at h ⊢
  obtain⟨x,hx,rfl⟩:=aJ.1 h
  rw [h4 i x hx,bA]
end
section
variable {Post:Da} {fn:FuncId} {Q:Exit->Act->qq->(Loc->Prop)->Prop} {a:Act} {w:qq} {Shun:Loc->Prop}
theorem Xt{ops:Array Oper}{i:Nat}{l:List Nat}{o:Oper}(ho:ops[i]? = lp o)(hw:br o (yielded ops a.tmps)=s7)(E6:Oq ly (Lv.contains ·) DC fn o=s7)(hS:Bf Shun w)(hn:NF w){X:Nat->Prop}{R:tj->qq->Prop}(H:∀v,Cq (F6 Shun) w v->∃x v',((xz a.eval o).run ly v=.ok (.value x) v'∨((xz a.eval o).run ly v=.ok .skip v'/\x=yj))/\Ar v v' X/\R x v')(Bo:∀x w',Ar w w' X->NF w'->Bf Shun w'->(∃v',Cq (F6 Shun) w' v'/\R x v')->Gx ly Post fn ops l Q (a.put o.dst x) w' Shun):Gx ly Post fn ops (i :: l) Q a w Shun:=
 Xu (S:=env Lv) ho hw (Dp E6) (Bg _ _) (fun a h=>⟨a,h,rfl⟩) hS.obj hS.cells (R:=fun x v'=>∃v,Cq (F6 Shun) w v/\Ar v v' X/\R x v') (fun v hv=>let⟨x,v',h1,h2,h3⟩:=H v hv;⟨x,v',h1,v,hv,h2,h3⟩) fun x w' v' hk hs ⟨v,hv,hX,hR⟩=>by
  exact La3
theorem Od(v:qq)(o:Obj)(X:Nat->Prop):Ar v (v.alloc o) X:=⟨rfl,rfl,rfl,Ae,fun k hk _=>Below.heap_alloc _ _ _ hk⟩
theorem Jw(hS:Bf Shun w):¬F6 Shun w.heap.size:=by
 rintro⟨a,ha,h⟩
 obtain⟨a',e,o,h1,_⟩:=hS _ ha
 cases e
 have:=Ax h1
 omega
theorem Gj{ops:Array Oper}{i:Nat}{l:List Nat}{o:Oper}(ob:Obj)(x:tj)(ho:ops[i]? = lp o)(hw:br o (yielded ops a.tmps)=s7)(E6:Oq ly (Lv.contains ·) DC fn o=s7)(hS:Bf Shun w)(hn:NF w)(H:∀v:qq,v.heap.size=w.heap.size->(xz a.eval o).run ly v=.ok (.value x) (v.alloc ob))(Bo:∀w',Ar w w' (fun _=>False)->NF w'->Bf Shun w'->w'.heap[w.heap.size]? = lp ob->Gx ly Post fn ops l Q (a.put o.dst x) w' Shun):Gx ly Post fn ops (i :: l) Q a w Shun:=by
 refine Xt ho hw E6 hS hn (X:=fun _=>False) (R:=fun y v'=>y=x/\v'.heap[w.heap.size]? = lp ob) (fun v hv=>⟨x,v.alloc ob,.inl (H v hv.size),Od _ _ _,rfl,?_⟩) fun y w' hk hn' hS' ⟨v',hs,e,hb⟩=>?_
 ·rw [←hv.size]
  exact heap_alloc_new _ _
 ·subst e
  exact Bo w' hk hn' hS' ((hs.same hn' (Jw hS)).symm.trans hb)
theorem Q7{ops:Array Oper}{i:Nat}{l:List Nat}{o:Oper}(s:ByteArray){x:Operand}(ho:ops[i]? = lp o)(hw:br o (yielded ops a.tmps)=s7)(Bt:o.op=.convert 9 35 x)(hx:a.eval x=.string s)(E6:Oq ly (Lv.contains ·) DC fn o=s7)(hS:Bf Shun w)(hn:NF w)(Bo:∀w' c cs fz,Ar w w' (fun _=>False)->NF w'->Bf Shun w'->w'.heap[w.heap.size]? = lp (ye cs 5 fz)->s.size<=c->Bytes w' w.heap.size 0 s.data.toList->Gx ly Post fn ops l Q (a.put o.dst (cf (lp ⟨w.heap.size,0,od⟩) s.size c)) w' Shun):Gx ly Post fn ops (i :: l) Q a w Shun:=by
 refine Xt ho hw E6 hS hn (X:=fun _=>False) (R:=fun y v'=>∃c cs fz,y=cf (lp ⟨w.heap.size,0,od⟩) s.size c/\s.size<=c/\v'.heap[w.heap.size]? = lp (ye cs 5 fz)/\Bytes v' w.heap.size 0 s.data.toList) (fun v hv=>?_) fun y w' hk hn' hS' ⟨v',hs,c,cs,fz,e,hc,hb,hby⟩=>?_
 ·exact Ajo
 ·exact Kqh
end
section
variable {Post:Da} {w w0:qq} {Shun:Loc->Prop} {D K:Nat}
theorem YG(hS:Bf Shun w)(ad:Option zu)(c:Nat) :
  De ly Post 60 #[cf ad 0 c] Shun w fun val w' Sh=>Sh=Shun/\val=fh #[rl tz 0,rl tz 0,cf od 0 0,rl tz 7]/\w'=w:=by
 refine Ho func60 Ac rfl ?_
 simp only [ntmps60,na,Nat.reduceAdd,Nat.reduceSub]
 refine Qvz ?_
 iterate 4(refine Al ?_)
 refine Dc8 ?_
 refine Qvz ?_
 refine Al ?_
 refine Eo (x:=(fh #[cf od 0 0,gf vp])) rfl Ac rfl Ad hS (by walk_nrm;exact(fun z hz=>Si z ad c)) ?_;walk_nrm
 iterate 5(refine Al ?_)
 refine Dc8 ?_
 refine G08 ?_
 iterate 3(refine Al ?_)
 iterate 3(refine Zox ?_)
 refine Ecj ?_
 refine Az0 ?_
 refine Qvz ?_
 iterate 4(refine Al ?_)
 refine Dc8 ?_
 refine I4 ⟨o5 rfl,rfl,fh #[rl tz 0,rl tz 0,cf od 0 0,rl tz 7],fun d=>by simp [results,results60,go_sem],fun d e he=>?_,rfl,rfl,rfl⟩
 simp [results,results60,go_sem] at he
structure Ko(w:qq)(D K:Nat):Prop where
 d:w.heap[D]? = lp (ye #[om (lp ⟨K,0,od⟩)] 54)
 k:w.heap[K]? = lp (ye #[cf od 0 0,rl tz (-1)] 52)
theorem ZB(hS:Bf Shun w)(hn:NF w)(F:Ko w D K) :
  De ly Post 41 #[lx #[om (lp ⟨D,0,od⟩)]] Shun w fun val w' Sh=>Sh=Shun/\Ar w w' (fun _=>False)/\NF w'/\Bf Shun w'/\∃tb mb,val=om (lp ⟨tb,0,od⟩)/\Ca w' tb mb 0 [(⟨#[47]⟩,Ir)]/\w.heap.size<=tb/\w.heap.size<=mb:=by
 refine Ho func41 Ac rfl ?_
 simp only [ntmps41,na,Nat.reduceAdd,Nat.reduceSub]
 refine Qvz ?_
 refine Flo ?_
 intro w1 K1 n1 S1 b1
 walk_nrm
 refine Ecj ?_
 have F1:Ko w1 D K:=⟨K1.get F.d id,K1.get F.k id⟩
 have gd:∀z,Cq (F6 Shun) w1 z->z.cell? ⟨D,0,od⟩=lp (om (lp ⟨K,0,od⟩)):=fun z hz=>cellOf (j:=0) (Dl S1 n1 hz F1.d (by simp [kindOf])) rfl
 have gk:∀z,Cq (F6 Shun) w1 z->z.cell? ⟨K,0,od⟩=lp (cf od 0 0):=fun z hz=>cellOf (j:=0) (Dl S1 n1 hz F1.k (by simp [kindOf])) rfl
 refine Qvz ?_
 refine Al ?_
 have gb:∀z,Cq (F6 Shun) w1 z->z.cell? ⟨w.heap.size,0,od⟩=lp (om (lp ⟨D,0,od⟩)):=fun z hz=>cellOf (j:=0) (Dl S1 n1 hz b1 (by simp [kindOf])) rfl
 refine F0 (x:=(om (lp ⟨D,0,od⟩))) rfl Ac Aa S1 (fun vz hvz=>by have hcz:=gb vz hvz;walk_nrm;go_simp) ?_;walk_nrm
 refine Eo (x:=(.string ⟨#[]⟩)) rfl Ac rfl Ad S1 (by walk_nrm;exact(fun z hz=>Tt z D K (gd z hz) (gk z hz) _)) ?_;walk_nrm
 refine Q7 ⟨#[]⟩ rfl Ac rfl rfl Aa S1 n1 ?_
 intro w2 c cs fz K2 n2 S2 b2 hc hby
 walk_nrm
 refine Cc rfl Ac rfl (by walk_nrm;exact(YG (Post:=Post) S2 (lp ⟨w1.heap.size,0,od⟩) c)) ?_
 rintro x w3 Sh3 ⟨rfl,rfl,rfl⟩
 walk_nrm
 iterate 9(refine Al ?_)
 refine Dc8 ?_
 refine B77 ?_
 refine U2i ?_
 refine Dc8 ?_
 refine Az0 ?_
 refine Qvz ?_
 have H62:=Tk (Post:=Post) (f:=62) (args:=#[]) Ad S2 n2 (X:=fun _=>False) (R:=fun x v'=>x=om (lp ⟨w3.heap.size+2,0,od⟩)/\Ca v' (w3.heap.size+2) (w3.heap.size+1) 0 [(⟨#[47]⟩,Ir)]) fun v hv=>by
  have:=TF v
  rw [hv.size] at this
  exact this.mono fun e v' ⟨h1,h2,h3⟩=>⟨⟨_,h1,rfl,h2⟩,Bp (by rw [hv.size];exact h3)⟩
 refine Cc rfl Ac rfl (by walk_nrm;exact H62) ?_
 rintro x w4 Sh4 ⟨rfl,K4,n4,S4,v',hs,rfl,hT⟩
 walk_nrm
 refine Ecj ?_
 have Di:=K1.size
 have hsz2:=K2.size
 have nb:∀j,w3.heap.size<=j->¬F6 Sh4 j:=by
  rintro j hj ⟨a,ha,rfl⟩
  obtain⟨a',e,o,h1,_⟩:=S2 _ ha
  cases e
  have:=Ax h1
  omega
 refine I4 ⟨o5 rfl,rfl,om (lp ⟨w3.heap.size+2,0,od⟩),fun d=>by simp [results,results41,go_sem],fun d e he=>?_,rfl,(K1.trans K2).trans K4,n4,S4,_,_,rfl,⟨(hs.same n4 (nb _ Ab)).symm.trans hT.blk,hT.map.of_block (hs.same n4 (nb _ Ab)).symm⟩,Ab,Ab⟩
 simp [results,results41,go_sem] at he
def GM(w w':qq):Prop:=w.heap.size<=w'.heap.size/\∀(i:Nat) (o:Obj),w.heap[i]? = lp o->w'.heap[i]? = lp o
theorem Xr{w w':qq}(h:Ar w w' (fun _=>False)):GM w w':=⟨h.size,fun i o hi=>h.get hi id⟩
theorem GM.trans{a b c:qq}(h:GM a b)(h':GM b c):GM a c:=⟨aE h.1 h'.1,fun i o hi=>h'.2 i o (h.2 i o hi)⟩
theorem Abj(hS:Bf Shun w)(hn:NF w)(F:Ko w D K)(tb:Nat) :
  De ly Post 42 #[lx #[om (lp ⟨D,0,od⟩)],om (lp ⟨tb,0,od⟩)] Shun w fun val w' Sh=>val=fh #[]/\NF w'/\(Bf Sh w'/\KQ Shun w Sh)/\GM w w':=by
 refine Ho func42 Ac rfl ?_
 simp only [ntmps42,na,Nat.reduceAdd,Nat.reduceSub]
 refine Qvz ?_
 refine Flo ?_
 intro w1 K1 n1 S1 b1
 walk_nrm
 refine Gj (ye #[om (lp ⟨tb,0,od⟩)] 79) (om (lp ⟨w1.heap.size,0,od⟩)) rfl Ac Aa S1 n1 (fun vz hvz=>by walk_nrm;go_simp;first|done|(simp only [hvz];first|done|rfl|exact⟨rfl,rfl⟩)) ?_
 intro w2 K2 n2 S2 b2
 walk_nrm
 refine Dc8 ?_
 refine Qvz ?_
 refine Gj (ye #[cf od 0 0,gf vp] 73) (om (lp ⟨w2.heap.size,0,od⟩)) rfl Ac Aa S2 n2 (fun vz hvz=>by walk_nrm;go_simp;first|done|(simp only [hvz];first|done|rfl|exact⟨rfl,rfl⟩)) ?_
 intro w3 K3 n3 S3 b3
 walk_nrm
 refine Dc8 ?_
 have K13:=(K1.trans K2).trans K3
 have F3:Ko w3 D K:=⟨K13.get F.d id,K13.get F.k id⟩
 have gd:∀z,Cq (F6 Shun) w3 z->z.cell? ⟨D,0,od⟩=lp (om (lp ⟨K,0,od⟩)):=fun z hz=>cellOf (j:=0) (Dl S3 n3 hz F3.d (by simp [kindOf])) rfl
 have gk:∀z,Cq (F6 Shun) w3 z->z.cell? ⟨K,0,od⟩=lp (cf od 0 0):=fun z hz=>cellOf (j:=0) (Dl S3 n3 hz F3.k (by simp [kindOf])) rfl
 have b13:=(K2.trans K3).get b1 id
 refine Qxj ?_
 have gb:∀z,Cq (F6 Shun) w3 z->z.cell? ⟨w.heap.size,0,od⟩=lp (om (lp ⟨D,0,od⟩)):=fun z hz=>cellOf (j:=0) (Dl S3 n3 hz b13 (by simp [kindOf])) rfl
 refine F0 (x:=(om (lp ⟨D,0,od⟩))) rfl Ac Aa S3 (fun vz hvz=>by have hcz:=gb vz hvz;walk_nrm;go_simp) ?_;walk_nrm
 refine Eo (x:=(.string ⟨#[]⟩)) rfl Ac rfl Ad S3 (by walk_nrm;exact(fun z hz=>Tt z D K (gd z hz) (gk z hz) _)) ?_;walk_nrm
 refine Q7 ⟨#[]⟩ rfl Ac rfl rfl Aa S3 n3 ?_
 intro w4 c cs fz K4 n4 S4 b4 hc hby
 walk_nrm
 refine Al ?_
 have b34:=K4.get b3 id
 have hE:De ly Post 34 #[om (lp ⟨w2.heap.size,0,od⟩),cf (lp ⟨w3.heap.size,0,od⟩) 0 c,.func (.func 64) #[] #[om (lp ⟨w1.heap.size,0,od⟩)]] Shun w4 fun val w' Sh=>val=gf s7/\NF w'/\(Bf Sh w'/\KQ Shun w4 Sh)/\GM w4 w':=
  IE S4 b34
 refine Cc rfl Ac rfl (by walk_nrm;exact hE) ?_
 rintro x w5 Sh5 ⟨rfl,n5,⟨S5,L5⟩,O5⟩
 walk_nrm
 refine Ba ⟨.inl rfl,rfl,fh #[],fun d=>by simp [results,results42,go_sem],fun d e he=>?_,rfl,n5,⟨S5,L5.less (by have:=(K13.trans K4).size;omega)⟩,(Xr (K13.trans K4)).trans O5⟩
 simp [results,results42,go_sem] at he
end
section
variable {Post:Da} {fn:FuncId} {Q:Exit->Act->qq->(Loc->Prop)->Prop} {a:Act} {w w0:qq} {Shun:Loc->Prop} {D K:Nat}
theorem Us{ops:Array Oper}{i:Nat}{l:List Nat}{o:Oper}(b:Nat)(cs':Array tj){cs:Array tj}{ty:TypeId}(ho:ops[i]? = lp o)(hw:br o (yielded ops a.tmps)=s7)(E6:Oq ly (Lv.contains ·) DC fn o=s7)(hS:Bf Shun w)(hn:NF w)(hb:w.heap[b]? = lp (ye cs ty))(hk:ty≠115)(H:∀z:qq,z.heap[b]? = lp (ye cs ty)->∃v',(xz a.eval o).run ly z=.ok .skip v'/\Bn z v' b cs' ty)(Bo:∀w',Ar w w' (· = b)->NF w'->Bf Shun w'->w'.heap[b]? = lp (ye cs' ty)->Gx ly Post fn ops l Q (a.put o.dst yj) w' Shun):Gx ly Post fn ops (i :: l) Q a w Shun:=by
 have nb:¬F6 Shun b:=Jm hS hb (by simpa [kindOf] using hk)
 refine Xt ho hw E6 hS hn (X:=(· = b)) (R:=fun y v'=>y=yj/\v'.heap[b]? = lp (ye cs' ty)) (fun v hv=>?_) fun y w' hk' hn' hS' ⟨v',hs,e,Es⟩=>?_
 ·obtain⟨v',h1,T⟩:=H v ((hv.same hn nb).trans hb)
  exact⟨yj,v',o5 ⟨h1,rfl⟩,⟨T.grown.os,T.grown.tape,T.grown.output,T.grown.size,fun k hk hx=>T.grown.block k hk fun e=>hx (by cases e;rfl)⟩,rfl,T.blk⟩
 ·subst e
  exact Bo w' hk' hn' hS' ((hs.same hn' nb).symm.trans Es)
theorem YR(hS:Bf Shun w)(hn:NF w)(F:Ko w D K) :
  De ly Post 33 #[om (lp ⟨D,0,od⟩)] Shun w fun val w' Sh=>NF w'/\(Bf Sh w'/\KQ Shun w Sh)/\GM w w'/\∃tb mb,val=fh #[lx #[om (lp ⟨D,0,od⟩)],om (lp ⟨tb,0,od⟩),gf s7]/\Ca w' tb mb 0 [(⟨#[47]⟩,Ir)]/\w.heap.size<=tb/\w.heap.size<=mb:=by
 refine Ho func33 Ac rfl ?_
 simp only [ntmps33,na,Nat.reduceAdd,Nat.reduceSub]
 refine Qvz ?_
 refine Gj (ye #[om od] 78) (om (lp ⟨w.heap.size,0,od⟩)) rfl Ac Aa hS hn (fun vz hvz=>by walk_nrm;go_simp;first|done|(simp only [hvz];first|done|rfl|exact⟨rfl,rfl⟩)) ?_
 intro w1 K1 n1 S1 b1
 walk_nrm
 refine L4k ?_
 refine Dc8 ?_
 refine Qvz ?_
 refine L4k ?_
 refine Gvy ?_
 intro w2 K2 n2 S2 b2
 walk_nrm
 refine Us w1.heap.size #[om (lp ⟨D,0,od⟩)] rfl Ac Aa S2 n2 b2 Ad (fun z hz=>⟨z.setCell ⟨w1.heap.size,0,od⟩ (om (lp ⟨D,0,od⟩)),?_,(Bn.refl hz).set 0 (om (lp ⟨D,0,od⟩))⟩) ?_
 ·exact Kew
 intro w3 K3 n3 S3 b3
 walk_nrm
 refine Dc8 ?_
 have hs1:=K1.size
 have hs2:=K2.size
 have l1:=Ax b1
 have nD1:D≠w1.heap.size:=by have:=Ax F.d;omega
 have nK1:K≠w1.heap.size:=by have:=Ax F.k;omega
 have F3:Ko w3 D K:=⟨K3.get ((K1.trans K2).get F.d id) nD1,K3.get ((K1.trans K2).get F.k id) nK1⟩
 have b13:w3.heap[w.heap.size]? = lp (ye #[om od] 78):=K3.get (K2.get b1 id) Ab
 have g3:∀z,Cq (F6 Shun) w3 z->z.cell? ⟨w1.heap.size,0,od⟩=lp (om (lp ⟨D,0,od⟩)):=fun z hz=>cellOf (j:=0) (Dl S3 n3 hz b3 (by simp [kindOf])) rfl
 refine Qvz ?_
 refine Dwb ?_
 refine Cc rfl Ac rfl (by walk_nrm;exact(ZB (Post:=Post) S3 n3 F3)) ?_
 rintro x w4 Sh4 ⟨rfl,K4,n4,S4,tb,mb,rfl,hT4,htb,hmb⟩
 walk_nrm
 refine Ecj ?_
 have F4:Ko w4 D K:=⟨K4.get F3.d id,K4.get F3.k id⟩
 have b34:=K4.get b3 id
 have b14:=K4.get b13 id
 have g4:∀z,Cq (F6 Sh4) w4 z->z.cell? ⟨w1.heap.size,0,od⟩=lp (om (lp ⟨D,0,od⟩)):=fun z hz=>cellOf (j:=0) (Dl S4 n4 hz b34 (by simp [kindOf])) rfl
 refine Qvz ?_
 refine F0 (x:=(lx #[om (lp ⟨D,0,od⟩)])) rfl Ac Aa S4 (fun vz hvz=>by have hcz:=g4 vz hvz;walk_nrm;go_simp) ?_;walk_nrm
 refine Al ?_
 refine Cc rfl Ac rfl (by walk_nrm;exact(Abj (Post:=Post) S4 n4 F4 tb)) ?_
 rintro x w5 Sh5 ⟨rfl,n5,⟨S5,L5⟩,O5⟩
 walk_nrm
 refine Dc8 ?_
 have F5:Ko w5 D K:=⟨O5.2 _ _ F4.d,O5.2 _ _ F4.k⟩
 have b35:=O5.2 _ _ b34
 have b15:=O5.2 _ _ b14
 have hT5:Ca w5 tb mb 0 [(⟨#[47]⟩,Ir)]:=by
  obtain⟨es,ck,hm⟩:=hT4.map.obj
  exact⟨O5.2 _ _ hT4.blk,hT4.map.of_block ((O5.2 _ _ hm).trans hm.symm)⟩
 have gd:∀z,Cq (F6 Sh5) w5 z->z.cell? ⟨D,0,od⟩=lp (om (lp ⟨K,0,od⟩)):=fun z hz=>cellOf (j:=0) (Dl S5 n5 hz F5.d (by simp [kindOf])) rfl
 have gk:∀z,Cq (F6 Sh5) w5 z->z.cell? ⟨K,0,od⟩=lp (cf od 0 0):=fun z hz=>cellOf (j:=0) (Dl S5 n5 hz F5.k (by simp [kindOf])) rfl
 have gk1:∀z,Cq (F6 Sh5) w5 z->z.cell? ⟨K,1,od⟩=lp (rl tz (-1)):=fun z hz=>cellOf (j:=1) (Dl S5 n5 hz F5.k (by simp [kindOf])) rfl
 refine B77 ?_
 refine Qxj ?_
 refine Eo (x:=(gf vp)) rfl Ac rfl Ad S5 (by walk_nrm;exact(fun z hz=>HJ z D K (gd z hz) (gk z hz) _)) ?_;walk_nrm
 refine Al ?_
 iterate 4(refine Zox ?_)
 iterate 3(refine Al ?_)
 refine Eo (x:=(gf vp)) rfl Ac rfl Ad S5 (by walk_nrm;exact(fun z hz=>Vj z D K (gd z hz) (gk1 z hz))) ?_;walk_nrm
 refine Ecj ?_
 refine Bhr ?_
 refine Wit ?_
 have g5:∀z,Cq (F6 Sh5) w5 z->z.cell? ⟨w1.heap.size,0,od⟩=lp (om (lp ⟨D,0,od⟩)):=fun z hz=>cellOf (j:=0) (Dl S5 n5 hz b35 (by simp [kindOf])) rfl
 refine Qvz ?_
 refine F0 (x:=(lx #[om (lp ⟨D,0,od⟩)])) rfl Ac Aa S5 (fun vz hvz=>by have hcz:=g5 vz hvz;walk_nrm;go_simp) ?_;walk_nrm
 refine Al ?_
 refine Us w.heap.size #[om (lp ⟨D,0,od⟩)] rfl Ac Aa S5 n5 b15 Ad (fun z hz=>⟨z.setCell ⟨w.heap.size,0,od⟩ (om (lp ⟨D,0,od⟩)),?_,(Bn.refl hz).set 0 (om (lp ⟨D,0,od⟩))⟩) ?_
 ·exact Kew
 intro w6 K6 n6 S6 b6
 walk_nrm
 refine L4k ?_
 refine Dc8 ?_
 have hs3:=K3.size
 have hs4:=K4.size
 have hs5:=O5.1
 have hs6:=K6.size
 have c6:∀d,(w6.at d).cell? ⟨w.heap.size,0,od⟩=lp (om (lp ⟨D,0,od⟩)):=fun d=>cellOf (j:=0) b6 rfl
 refine I4 ⟨o5 rfl,rfl,fh #[lx #[om (lp ⟨D,0,od⟩)],om (lp ⟨tb,0,od⟩),gf s7],fun d=>?_,fun d e he=>?_,n6,⟨S6,L5.less Ab⟩,⟨Ab,fun i ob hi=>K6.get (O5.2 _ _ (K4.get (K3.get ((K1.trans K2).get hi id) (by have:=Ax hi;omega)) id)) (by have:=Ax hi;omega)⟩,tb,mb,rfl,?_,Ab,Ab⟩
 ·intro hc
  have:=(hc ⟨w.heap.size,0,od⟩).trans (c6 w6.drawn)
  simp [results,results33,go_sem,this]
 ·intro hc
  have:=(hc ⟨w.heap.size,0,od⟩).trans (c6 w6.drawn)
  simp [results,results33,go_sem,this] at he
  subst he
  exact evL_cell (S6.not b6 (by simp [kindOf])) (Ax b6)
 ·obtain⟨es,ck,hm⟩:=hT5.map.obj
  exact⟨K6.get hT5.blk Ab,hT5.map.of_block ((K6.get hm Ab).trans hm.symm)⟩
end
structure LM(w:qq)(B svb D K tb mb wm sm:Nat):Prop where
 hv:w.heap[svb]? = lp (ye (B0 D tb wm sm 0 vp) 84)
 ht:Ca w tb mb 0 [(⟨#[47]⟩,Ir)]
 hw:Lo w wm []
 hm:Bm ly 3 w sm []
 F:Ko w D K
 gv:B<=svb
 gt:B<=tb
 gm:B<=mb
 gw:B<=wm
 gs:B<=sm
 wsm:wm≠sm
 wmb:wm≠mb
 mbs:mb≠sm
theorem LM.old{w w':qq}{B svb D K tb mb wm sm:Nat}(h:LM w B svb D K tb mb wm sm)(O:GM w w'):LM w' B svb D K tb mb wm sm:=by
 have mp:∀{k:TypeId} {b:Nat} {m:List (tj×tj)},Bm ly k w b m->Bm ly k w' b m:=fun hm=>by
  obtain⟨es,ck,h1⟩:=hm.obj
  exact hm.of_block ((O.2 _ _ h1).trans h1.symm)
 exact⟨O.2 _ _ h.hv,⟨O.2 _ _ h.ht.blk,mp h.ht.map⟩,mp h.hw,mp h.hm,⟨O.2 _ _ h.F.d,O.2 _ _ h.F.k⟩,h.gv,h.gt,h.gm,h.gw,h.gs,h.wsm,h.wmb,h.mbs⟩
section
variable {Post:Da} {w:qq} {Shun:Loc->Prop} {D K:Nat}
theorem Abm(hS:Bf Shun w)(hn:NF w)(F:Ko w D K) :
  De ly Post 26 #[om (lp ⟨D,0,od⟩)] Shun w fun val w' Sh=>NF w'/\(Bf Sh w'/\KQ Shun w Sh)/\GM w w'/\∃svb tb mb wm sm,val=fh #[om (lp ⟨svb,0,od⟩),rl tz 0]/\LM w' w.heap.size svb D K tb mb wm sm:=by
 have gd:∀z,Cq (F6 Shun) w z->z.cell? ⟨D,0,od⟩=lp (om (lp ⟨K,0,od⟩)):=fun z hz=>cellOf (j:=0) (Dl hS hn hz F.d (by simp [kindOf])) rfl
 refine Ho func26 Ac rfl ?_
 simp only [ntmps26,na,Nat.reduceAdd,Nat.reduceSub]
 refine Qvz ?_
 refine L4k ?_
 refine Dc8 ?_
 refine G08 ?_
 iterate 5(refine Al ?_)
 refine F0 (x:=(lx #[om (lp ⟨K,0,od⟩)])) rfl Ac Aa hS (fun vz hvz=>by have hcz:=gd vz hvz;walk_nrm;go_simp) ?_;walk_nrm
 refine Al ?_
 refine Dr (x:=gf vp) rfl Ac (fun w=>Aa) (fun w=>Aa) ?_
 walk_nrm
 refine Ecj ?_
 refine Bhr ?_
 refine Wit ?_
 refine Qvz ?_
 refine Al ?_
 refine Cc rfl Ac rfl (by walk_nrm;exact(YR (Post:=Post) hS hn F)) ?_
 rintro x w1 Sh1 ⟨n1,⟨S1,L1⟩,O1,tb,mb,rfl,hT1,htb,hmb⟩
 walk_nrm
 iterate 4(refine Al ?_)
 refine Gvy ?_
 intro w2 K2 n2 S2 b2
 walk_nrm
 refine Us w1.heap.size #[om (lp ⟨D,0,od⟩)] rfl Ac Aa S2 n2 b2 Ad (fun z hz=>⟨z.setCell ⟨w1.heap.size,0,od⟩ (om (lp ⟨D,0,od⟩)),?_,(Bn.refl hz).set 0 (om (lp ⟨D,0,od⟩))⟩) ?_
 ·exact Kew
 intro w3 K3 n3 S3 b3
 walk_nrm
 refine L4k ?_
 refine Dc8 ?_
 have O13:GM w1 w3:=⟨aE K2.size K3.size,fun i ob hi=>K3.get (K2.get hi id) (by have:=Ax hi;omega)⟩
 refine B77 ?_
 refine U2i ?_
 refine Ctl ?_
 have g3:∀z,Cq (F6 Sh1) w3 z->z.cell? ⟨w1.heap.size,0,od⟩=lp (om (lp ⟨D,0,od⟩)):=fun z hz=>cellOf (j:=0) (Dl S3 n3 hz b3 (by simp [kindOf])) rfl
 refine Qvz ?_
 refine Dwb ?_
 refine Al ?_
 refine Gj (.map #[] 0) (.map (lp w3.heap.size)) rfl Ac Aa S3 n3 (fun v hv=>by rw [←hv];rfl) ?_
 intro w4 K4 n4 S4 b4
 walk_nrm
 refine Gj (.map #[] 0) (.map (lp w4.heap.size)) rfl Ac Aa S4 n4 (fun v hv=>by rw [←hv];rfl) ?_
 intro w5 K5 n5 S5 b5
 walk_nrm
 refine Al ?_
 refine Gj (ye (B0 D tb w3.heap.size w4.heap.size 0 vp) 84) (om (lp ⟨w5.heap.size,0,od⟩)) rfl Ac Aa S5 n5 (fun vz hvz=>by walk_nrm;go_simp;first|done|(simp only [hvz];first|done|rfl|exact⟨rfl,rfl⟩)) ?_
 intro w6 K6 n6 S6 b6
 walk_nrm
 refine L4k ?_
 refine Dc8 ?_
 have O36:=Xr ((K4.trans K5).trans K6)
 have O16:=O13.trans O36
 have hs1:=O1.1
 have hs3:=O13.1
 have hs4:=K4.size
 have hs5:=K5.size
 have l4:=Ax b4
 have l5:=Ax b5
 obtain⟨es,ck,hm⟩:=hT1.map.obj
 have lm:=Ax hm
 refine I4 ⟨o5 rfl,rfl,fh #[om (lp ⟨w5.heap.size,0,od⟩),rl tz 0],fun d=>by simp [results,results26,go_sem],fun d e he=>?_,n6,⟨S6,L1⟩,O1.trans O16,_,tb,mb,w3.heap.size,w4.heap.size,rfl,b6,⟨O16.2 _ _ hT1.blk,hT1.map.of_block ((O16.2 _ _ hm).trans hm.symm)⟩,?_,?_,⟨(O1.trans O16).2 _ _ F.d,(O1.trans O16).2 _ _ F.k⟩,Ab,htb,hmb,Ab,Ab,Ab,Ab,Ab⟩
 ·simp [results,results26,go_sem] at he
 ·exact⟨⟨#[],0,(K5.trans K6).get b4 id,by simp [wj],rfl⟩,Ae⟩
 ·exact⟨⟨#[],0,K6.get b5 id,by simp [wj],rfl⟩,Ae⟩
theorem Abl(hS:Bf Shun w)(hn:NF w)(F:Ko w D K) :
  De ly Post 18 #[om (lp ⟨D,0,od⟩)] Shun w fun val w' Sh=>NF w'/\(Bf Sh w'/\KQ Shun w Sh)/\GM w w'/\∃Cp svb tb mb wm sm,val=fh #[om (lp ⟨Cp,0,od⟩),rl tz 0]/\w'.heap[Cp]? = lp (ye #[om (lp ⟨svb,0,od⟩)] 68)/\w.heap.size<=Cp/\LM w' w.heap.size svb D K tb mb wm sm:=by
 refine Ho func18 Ac rfl ?_
 simp only [ntmps18,na,Nat.reduceAdd,Nat.reduceSub]
 refine Qvz ?_
 refine L4k ?_
 refine Dc8 ?_
 refine Qvz ?_
 refine Al ?_
 refine Cc rfl Ac rfl (by walk_nrm;exact(Abm (Post:=Post) hS hn F)) ?_
 rintro x w1 Sh1 ⟨n1,⟨S1,L1⟩,O1,svb,tb,mb,wm,sm,rfl,V1⟩
 refine Hb2 ?_
 refine Dc8 ?_
 refine B77 ?_
 refine U2i ?_
 refine Ctl ?_
 refine Qvz ?_
 refine L4k ?_
 refine Gj (ye #[om (lp ⟨svb,0,od⟩)] 68) (om (lp ⟨w1.heap.size,0,od⟩)) rfl Ac Aa S1 n1 (fun vz hvz=>by walk_nrm;go_simp;first|done|(simp only [hvz];first|done|rfl|exact⟨rfl,rfl⟩)) ?_
 intro w2 K2 n2 S2 b2
 walk_nrm
 refine L4k ?_
 refine Dc8 ?_
 refine I4 ⟨o5 rfl,rfl,fh #[om (lp ⟨w1.heap.size,0,od⟩),rl tz 0],fun d=>by simp [results,results18,go_sem],fun d e he=>?_,n2,⟨S2,L1⟩,O1.trans (Xr K2),_,svb,tb,mb,wm,sm,rfl,b2,O1.1,V1.old (Xr K2)⟩
 simp [results,results18,go_sem] at he
end
end Go.Proofs.YtjoblhlkfmeckaaGreatDoor
