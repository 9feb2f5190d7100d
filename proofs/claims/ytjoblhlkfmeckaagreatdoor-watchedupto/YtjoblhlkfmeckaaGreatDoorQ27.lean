import Derived.Test.YtjoblhlkfmeckaaGreatDoorQ26
set_option maxHeartbeats 1000000
set_option maxRecDepth 8000
set_option linter.unusedVariables false
set_option linter.unusedSimpArgs false
open Option renaming some → lp,none → od
open Go.Proofs.Tryz renaming prog → ly,runUnderlying35 → uf
open Go.Value renaming ownBlock → qb,int → rl,pointer → om,slice → cf,bool → gf,tuple → fh
open Go renaming Value → tj,World → qq
open Bool renaming false → vp
open Go.World renaming freeze → py
open Go.Obj renaming cells → ye
open Go.IntKind renaming i64 → tz,u8 → dc
open Go.Proofs.Tryz
namespace Go.Proofs.YtjoblhlkfmeckaaGreatDoor
open Go Go.Conc Go.Pair Go.RowKit Go.Maps
theorem JR(w:qq)(g:Nat)(cs:Array tj)(h:w.heap[g]? = lp (ye cs 5)):(convert 35 35 (cf (lp ⟨g,0,od⟩) 8 8)).run ly w=.ok (cf (lp ⟨g,0,od⟩) 8 8) (w.freeze ⟨g,cs.size,od⟩ 1):=by
 have hsh:w.shape? g=lp (5,cs.size):=by simp [World.shape?,h]
 simp [convert,go_sem,uf,markStringish,hsh,Result.andThen]
theorem TG(w:qq)(g:Nat)(cs:Array tj)(h:w.heap[g]? = lp (ye cs 5)):(w.freeze ⟨g,cs.size,od⟩ 1).heap[g]? = lp (ye cs 5 (cs.size,cs.size+1))/\Ar w (w.freeze ⟨g,cs.size,od⟩ 1) (· = g):=by
 refine⟨by simp [py,bJ,h],rfl,rfl,rfl,by simp [py],fun k hk hx=>?_⟩
 simp [py,bJ,bW hx]
section
variable {Post:Da} {valid:ByteArray->Bool} {Tabs:qq->Prop} {gN:Nat} {Shun:Loc->Prop} {w w':qq} {Cp svb D tb wm sm:Nat} {L k:Int} {m:List (tj×tj)}
theorem Nq{base n g:Nat}{v:tj}{xs:List tj}(h:w.ownsRow base 5 1 v n xs)(hg:v.ownBlock=lp g):∃c,w.heap[g]? = lp (ye c 5):=by
 rcases h.2 with⟨rfl,_⟩|⟨g',cap,cur,rfl,_,h1,_⟩
 ·cases hg
 ·obtain rfl:g'=g:=by simpa [qb] using hg
  exact⟨cur,h1⟩
theorem Z2{base n:Nat}{v:tj}{xs:List tj}(h:w.ownsRow base 5 1 v n xs)(hS:Bf Shun w)(hn:NF w){z:qq}(hz:Cq (F6 Shun) w z):z.ownsRow 0 5 1 v n xs:=Ff (Df h (cC _)) fun g hg=>by
 obtain⟨c,h1⟩:=Nq h hg
 rw [h1]
 exact Dl hS hn hz h1 (by simp [kindOf])
theorem Base.of(B:Base Tabs gN Shun w){Sh:Loc->Prop}(lo:∀j,j<gN->w'.heap[j]? = w.heap[j]?)(hsz':w.heap.size<=w'.heap.size)(hn:NF w')(hS:Bf Sh w')(hL:KQ Shun w Sh):Base Tabs gN Sh w':=by
 have Di:=B.sz
 refine⟨hn,hS,fun z hz hs=>B.G z (fun j hj=>(hz j hj).trans (lo j hj)) hs,aE Di hsz',B.g8,fun a ha=>(hL a ha).elim (B.low a) fun h=>Ab⟩
theorem Base.old(B:Base Tabs gN Shun w){Sh:Loc->Prop}(O:GM w w')(hn:NF w')(hS:Bf Sh w')(hL:KQ Shun w Sh):Base Tabs gN Sh w':=by
 have Di:=B.sz
 have lo:∀j,j<gN->w'.heap[j]? = w.heap[j]?:=fun j hj=>by
  have e:w.heap[j]? = lp w.heap[j]:=aZ Ab
  rw [e]
  exact O.2 _ _ e
 refine⟨hn,hS,fun z hz hs=>B.G z (fun j hj=>(hz j hj).trans (lo j hj)) hs,aE Di O.1,B.g8,fun a ha=>(hL a ha).elim (B.low a) fun h=>Ab⟩
theorem Xh(W:qq)(a:Addr)(n:Nat):Cf (W.freeze a n)=(Cf W).freeze a n:=by
 obtain⟨g,e⟩:=Fl a n
 obtain⟨r1,r2,r3,r4⟩:=Ek W a n
 obtain⟨q1,q2,q3,q4⟩:=Ek (Cf W) a n
 have hh:(Cf (W.freeze a n)).heap=((Cf W).freeze a n).heap:=cY fun i=>by
  rw [Cr,e,e,Cr]
  split
  ·cases W.heap[i]? with
   | none=>rfl
   | some o=>cases o <;> rfl
  ·rfl
 have h1:(Cf (W.freeze a n)).tape=((Cf W).freeze a n).tape:=r1.trans q1.symm
 have h2:(Cf (W.freeze a n)).drawn=((Cf W).freeze a n).drawn:=r2.trans q2.symm
 have h3:(Cf (W.freeze a n)).os=((Cf W).freeze a n).os:=r3.trans q3.symm
 have h4:(Cf (W.freeze a n)).output=((Cf W).freeze a n).output:=r4.trans q4.symm
 revert hh h1 h2 h3 h4
 generalize Cf (W.freeze a n)=A
 generalize (Cf W).freeze a n=B
 intro hh h1 h2 h3 h4
 cases A
 cases B
 simp only at hh h1 h2 h3 h4
 subst hh h1 h2 h3 h4
 rfl
theorem OV{fn:FuncId}{Q:Exit->Act->qq->(Loc->Prop)->Prop}{a:Act}{ops:Array Oper}{i:Nat}{l:List Nat}{o:Oper}{x:tj}(ad:Addr){cs:Array tj}(ho:ops[i]? = lp o)(hw:Region.wanted o (yielded ops a.tmps)=true)(hb:w.heap[ad.block]? = lp (ye cs 5))(hr:∀W:qq,W.heap[ad.block]? = lp (ye cs 5)->(execOp a.eval o).run ly W=.ok (.value x) (W.freeze ad 1))(he:∀W:qq,W.heap[ad.block]? = lp (ye cs 5)->(execOp a.eval o).events ly W #[]=#[])(h:Gx ly Post fn ops l Q (a.put o.dst x) (w.freeze ad 1) Shun):Gx ly Post fn ops (i :: l) Q a w Shun:=by
 rintro W rfl hF b kk z Es hk hc
 have hW:=J6 hb trivial
 have hke:b.kind≠.early:=by rw [hk];decide
 obtain⟨r1,r2,r3,r4⟩:=Ek W ad 1
 refine EA.goes (n:=1) (Goes.step rfl fun w₁ r=>?_)
 obtain⟨d,rfl⟩:=r
 rw [stepG_value ho hw hke (hr (W.at d) hW),goes_go]
 refine⟨⟨dX (F8 (W.at d) ad 1).symm,fun e hx=>?_,r3,r4⟩,EA.stop ((h (W.freeze ad 1) (Xh W ad 1).symm (hF.keep Mk) b kk z Es hk hc).rel ⟨d,rfl⟩)⟩
 have:=mem_seen hx
 rw [he (W.at d) hW] at this
 simp at this
theorem UQ(hS:Bf Shun w)(hn:NF w){s:Nat}(num:Int)(hos:w.heap[Cp]? = lp (ye #[om (lp ⟨svb,0,od⟩)] 68))(hv:w.heap[svb]? = lp (ye (B0 D tb wm sm L vp) 84))(hm:Bm ly 3 w sm m)(hlk:∀z:qq,Bm ly 3 z sm m->(Instr.lookup 82 (.map (lp sm)) (rl tz num) vp).run ly z=.ok (om (lp ⟨s,0,od⟩)) z)(n p t v e:tj)(oa:Option Addr)(ol oc:Nat)(hb:w.heap[s]? = lp (ye (Bl n p t v e (cf oa ol oc)) 75)) :
  De ly Post 14 #[om (lp ⟨Cp,0,od⟩),rl tz num] Shun w fun val w' Sh=>Sh=Shun/\val=fh #[cf oa ol oc,rl tz 0]/\Ar w w' (· = s)/\NF w'/\Bf Shun w'/\w'.heap[s]? = lp (ye (Bl n p t v e (cf od 0 0)) 75):=by
 refine D6 (Nf (Post:=Post) (f:=14) Ad rfl hS hn (X:=(· = s)) (R:=fun x v'=>x=fh #[cf oa ol oc,rl tz 0]/\v'.heap[s]? = lp (ye (Bl n p t v e (cf od 0 0)) 75)) fun z hz=>?_) ?_
 ·have gS:=Dl hS hn hz hb (by simp [kindOf])
  have gV:=Dl hS hn hz hv (by simp [kindOf])
  have gO:=Dl hS hn hz hos (by simp [kindOf])
  obtain⟨es,ck,hm'⟩:=hm.obj
  have gM:=Dl hS hn hz hm' (by simp [kindOf])
  refine(EH z Cp svb sm s num (cellOf (j:=0) gO rfl) (cellOf (j:=3) gV rfl) (hlk z (hm.of_block (gM.trans hm'.symm))) _ _ _ _ _ oa ol oc gS).mono ?_
  rintro e' v' ⟨rfl,rfl⟩
  have T:=(Bn.refl gS).set 5 (cf od 0 0)
  exact⟨⟨_,rfl,rfl,T.blk⟩,T.grown.os,T.grown.tape,T.grown.output,T.grown.size,fun k hk hx=>T.grown.block k hk fun e=>hx (by cases e;rfl)⟩
 ·rintro x w' Sh ⟨rfl,Kx,hn',hS',v',hs,rfl,Es⟩
  exact⟨rfl,rfl,Kx,hn',hS',(hs.same hn' (Jm hS hb (by simp [kindOf]))).symm.trans Es⟩
def Acu(svb D tb wm sm:Nat)(k:Int)(m:List (tj×tj))(v:qq):Prop:=
 Calls ly 27 #[om (lp ⟨svb,0,od⟩)] v fun e w'=>e=.returned (fh #[rl tz k,rl tz 0])/\Ar v w' (fun i=>i=svb∨i=sm)/\v.heap.size<w'.heap.size/\w'.heap[svb]? = lp (ye (B0 D tb wm sm k vp) 84) /\
   w'.heap[v.heap.size]? = lp (ye (Bl (rl tz k) (cf od 0 0) (gf vp) (rl tz 0) (gf vp) (cf od 0 0)) 75)/\Bm ly 3 w' sm (m ++ [(rl tz k,om (lp ⟨v.heap.size,0,od⟩))])
structure RR(Tabs:qq->Prop)(gN:Nat)(Shun:Loc->Prop)(w w':qq)(Sh:Loc->Prop)(svb D tb wm sm:Nat)(k:Int)(m:List (tj×tj))(s:Nat)(i:Nat×Nat):Prop where
 B:Base Tabs gN Sh w'
 size:w.heap.size<=w'.heap.size
 old:∀(j:Nat) (ob:Obj),w.heap[j]? = lp ob->(kindOf ob=lp 115->¬F6 Shun j)->j≠svb->j≠sm->w'.heap[j]? = lp ob
 hv:w'.heap[svb]? = lp (ye (B0 D tb wm sm k vp) 84)
 hm:Bm ly 3 w' sm (m ++ [(rl tz k,om (lp ⟨s,0,od⟩))])
 blk:w'.heap[s]? = lp (ye (Bl (rl tz k) (cf (lp ⟨i.1,0,od⟩) 0 i.2) (gf vp) (rl tz 1) (gf vp) (cf od 0 0)) 75)
 own:w'.ownsRow 0 5 1 (cf (lp ⟨i.1,0,od⟩) 0 i.2) 0 (A0 [])
 gs:w.heap.size<=s
 gi:w.heap.size<=i.1
theorem AI(U:Jk valid Tabs)(B:Base Tabs gN Shun w)(hos:w.heap[Cp]? = lp (ye #[om (lp ⟨svb,0,od⟩)] 68))(hv:w.heap[svb]? = lp (ye (B0 D tb wm sm L vp) 84))(hm:Bm ly 3 w sm m)(gv:gN<=svb)(gsm:gN<=sm)(hk:k=1∨k=2)(HC:∀v:qq,v.heap[svb]? = lp (ye (B0 D tb wm sm L vp) 84)->Bm ly 3 v sm m->Acu svb D tb wm sm k m v) :
  De ly Post 6 #[om (lp ⟨Cp,0,od⟩)] Shun w fun val w' Sh=>val=rl tz k/\∃s i,RR Tabs gN Shun w w' Sh svb D tb wm sm k m s i:=by
 have hS:=B.S
 have hn:=B.nf
 obtain⟨es0,ck0,hm0⟩:=hm.obj
 have osv:Cp≠svb:=Eu hos hv Ae
 have osm:Cp≠sm:=Eu hos hm0 Ae
 have hlk:∀s (z:qq),Bm ly 3 z sm (m ++ [(rl tz k,om (lp ⟨s,0,od⟩))])->(Instr.lookup 82 (.map (lp sm)) (rl tz k) vp).run ly z=.ok (om (lp ⟨s,0,od⟩)) z:=fun s z hz=>by
  rcases hk with rfl|rfl
  ·exact Bm.look_some vp hz CW underlying82 (kl:=.int .i64 1) Aa (v:=om (lp ⟨s,0,od⟩)) Ae
  ·exact Bm.look_some vp hz CW underlying82 (kl:=.int .i64 2) Aa (v:=om (lp ⟨s,0,od⟩)) Ae
 have H19:=Nf (Post:=Post) (f:=19) (args:=#[om (lp ⟨Cp,0,od⟩)]) Ad rfl hS hn (X:=fun i=>i=svb∨i=sm) (R:=fun x v'=>x=fh #[rl tz k,rl tz 0]/\v'.heap[svb]? = lp (ye (B0 D tb wm sm k vp) 84)/\w.heap.size<v'.heap.size /\
   v'.heap[w.heap.size]? = lp (ye (Bl (rl tz k) (cf od 0 0) (gf vp) (rl tz 0) (gf vp) (cf od 0 0)) 75)/\Bm ly 3 v' sm (m ++ [(rl tz k,om (lp ⟨w.heap.size,0,od⟩))])) fun z hz=>by
  have gV:=Dl hS hn hz hv (by simp [kindOf])
  have gO:=Dl hS hn hz hos (by simp [kindOf])
  have gM:=Dl hS hn hz hm0 (by simp [kindOf])
  have:=GY z Cp svb k _ (cellOf (j:=0) gO rfl) (HC z gV (hm.of_block (gM.trans hm0.symm)))
  rw [hz.size] at this
  exact this.mono fun e v' ⟨h1,h2,h3,h4,h5,h6⟩=>⟨⟨_,h1,rfl,h4,h3,h5,h6⟩,h2⟩
 refine Lg (t:=2) func6 Ac rfl Ac ?_
 simp only [ntmps6,na,Nat.reduceAdd,Nat.reduceSub]
 refine Qvz ?_
 refine Ecj ?_
 refine Qvz ?_
 refine Al ?_
 refine Cc rfl Ac rfl (by walk_nrm;exact H19) ?_
 rintro x w1 Sh1 ⟨rfl,K1,n1,S1,v1,hs1,rfl,hv1,hl1,B9,hm1⟩
 refine Hb2 ?_
 refine Dc8 ?_
 have nbv:¬F6 Sh1 svb:=Jm hS hv (by simp [kindOf])
 have nbs:¬F6 Sh1 w.heap.size:=Jw hS
 have nbm:¬F6 Sh1 sm:=Jm hS hm0 (by simp [kindOf])
 have hv1':=(hs1.same n1 nbv).symm.trans hv1
 have hb1':=(hs1.same n1 nbs).symm.trans B9
 have hm1':=hm1.of_block (hs1.same n1 nbm).symm
 have hos1:=K1.get hos (by rintro(e|e);exact osv e;exact osm e)
 have B1:Base Tabs gN Sh1 w1:=B.keep K1 n1 S1 (by rintro j (rfl|rfl);exact gv;exact gsm)
 refine Qvz ?_
 refine L4k ?_
 refine Gj (ye #[rl dc 0,rl dc 0,rl dc 0,rl dc 4,rl dc 0,rl dc 0,rl dc 0,rl dc 1] 5) (cf (lp ⟨w1.heap.size,0,od⟩) 8 8) rfl Ac Aa S1 n1 (fun vz hvz=>by walk_nrm;go_simp;first|done|(simp only [hvz];first|done|rfl|exact⟨rfl,rfl⟩)) ?_
 intro w2a K2a n2a S2a b2a
 walk_nrm
 obtain⟨w2,hw2⟩:∃w2,w2a.freeze ⟨w1.heap.size,8,od⟩ 1=w2:=⟨_,rfl⟩
 obtain⟨b2,K2b⟩:=TG w2a _ _ b2a
 rw [show(#[Value.int dc 0,rl dc 0,rl dc 0,rl dc 4,rl dc 0,rl dc 0,rl dc 0,rl dc 1]:Array tj).size=8 from rfl,hw2] at b2 K2b
 have n2:NF w2:=fun k o hko=>by
  by_cases e:k=w1.heap.size
  ·subst e
   rw [b2] at hko
   cases hko
   exact .inl trivial
  ·exact n2a k o ((K2b.block k (by have:=Ax hko;have h2:w2.heap.size=w2a.heap.size:=(by rw [←hw2];simp [py]);omega) e).symm.trans hko)
 have S2:Bf Sh1 w2:=fun l hl=>by
  obtain⟨a,rfl,o,h1,h2⟩:=S2a l hl
  refine⟨a,rfl,o,K2b.get h1 fun e=>?_,h2⟩
  rw [e,b2a] at h1
  cases h1
  cases h2
 refine OV ⟨w1.heap.size,8,od⟩ (x:=cf (lp ⟨w1.heap.size,0,od⟩) 8 8) rfl Ac b2a (fun W hW=>?_) (fun W hW=>?_) ?_
 ·have h1:=JR W _ _ hW
  walk_nrm
  simp [go_sem,h1]
 ·have hsh:W.shape? w1.heap.size=lp (5,8):=by simp [World.shape?,hW]
  walk_nrm
  simp [convert,go_sem,uf,markStringish,hsh]
 rw [hw2]
 walk_nrm
 have K2:Ar w1 w2 (fun _=>False):=⟨K2b.os.trans K2a.os,K2b.tape.trans K2a.tape,K2b.output.trans K2a.output,aE K2a.size K2b.size,fun k hk _=>(K2b.block k (aB hk K2a.size) (by show k≠w1.heap.size;omega)).trans (K2a.block k hk id)⟩
 have B2:Base Tabs gN Sh1 w2:=B1.keep K2 n2 S2 fun _ h=>h.elim
 have hv2:=K2.get hv1' id
 have Fs:=K2.get hb1' id
 have hos2:=K2.get hos1 id
 obtain⟨es1,ck1,hmo⟩:=hm1'.obj
 have hmo2:=K2.get hmo id
 have hm2:=hm1'.of_block (hmo2.trans hmo.symm)
 have hFrm:WR w2 w1.heap.size 0 [0,0,0,4] [0,0,0,1]:=by
  refine⟨⟨_,_,b2⟩,fun j hj=>?_,rfl,Ad,Ad,Ad⟩
  have hj8:j<8:=by simpa using hj
  rw [aM]
  match j,hj8 with
  | 0,_=>exact cellOf (j:=0) b2 rfl
  | 1,_=>exact cellOf (j:=1) b2 rfl
  | 2,_=>exact cellOf (j:=2) b2 rfl
  | 3,_=>exact cellOf (j:=3) b2 rfl
  | 4,_=>exact cellOf (j:=4) b2 rfl
  | 5,_=>exact cellOf (j:=5) b2 rfl
  | 6,_=>exact cellOf (j:=6) b2 rfl
  | 7,_=>exact cellOf (j:=7) b2 rfl
 refine Cc rfl Ac rfl (by walk_nrm;exact(YA (Post:=Post) (bcap:=8) U B2 hv2 Fs (by have:=B.sz;omega) (Hc.nil gN w2) hFrm (by simp [qb]) Ad k hmo2 (fun z hz=>hlk _ z (hm2.of_block hz)) Cp hos2 rfl Ad)) ?_
 rintro x w3 Sh3 ⟨rfl,i,ov,H⟩
 walk_nrm
 refine Ecj ?_
 have l1:=Ax hb1'
 have hsz1:=K1.size
 have hsz2:=K2.size
 have hos3:=H.old _ _ hos2 (by simp [kindOf]) (by have:=Ax hos;omega) (by simp [qb])
 have hv3:=H.old _ _ hv2 (by simp [kindOf]) (by have:=Ax hv;omega) (by simp [qb])
 have hmo3:=H.old _ _ hmo2 (by simp [kindOf]) (by have:=Ax hm0;omega) (by simp [qb])
 have hm3:=hm2.of_block (hmo3.trans hmo2.symm)
 obtain⟨oa,oc,hov⟩:∃oa oc,ov=cf oa 8 oc:=by
  rcases H.out.2 with⟨_,h0⟩|⟨g,cap,cur,e,_⟩
  ·cases h0
  ·exact⟨_,_,e⟩
 subst hov
 have hO3:=H.out
 refine Qvz ?_
 refine L4k ?_
 refine Cc rfl Ac rfl (by walk_nrm;exact(UQ (Post:=Post) H.S H.nf k hos3 hv3 hm3 (hlk w.heap.size) _ _ _ _ _ oa 8 oc H.blk)) ?_
 rintro x w4 Sh4 ⟨rfl,rfl,K4,n4,S4,hb4⟩
 refine Hb2 ?_
 refine Dc8 ?_
 have hO4:w4.ownsRow w2.heap.size 5 1 (cf oa 8 oc) 8 (A0 Q3):=D8 hO3 fun g hg hl=>K4.block g hl (by show g≠w.heap.size;omega)
 have gO:∀z,Cq (F6 Sh4) w4 z->(convert 35 9 (cf oa 8 oc)).run ly z=.ok (.string ⟨Q3.toArray⟩) z:=fun z hz=>J5 (b:=Q3) (base:=0) (Z2 hO4 S4 n4 hz)
 refine G08 ?_
 iterate 12(refine Al ?_)
 refine F0 (x:=.string ⟨Q3.toArray⟩) rfl Ac Aa S4 (fun v hv=>by have hc:=gO v hv;walk_nrm;go_simp) ?_
 walk_nrm
 refine Dr (x:=gf vp) rfl Ac (fun w=>Aa) (fun w=>Aa) ?_
 walk_nrm
 iterate 3(refine Al ?_)
 refine Dr (x:=gf vp) rfl Ac (fun w=>by rcases hk with rfl|rfl <;> rfl) (fun w=>by rcases hk with rfl|rfl <;> rfl) ?_
 walk_nrm
 refine Ecj ?_
 refine Bhr ?_
 refine Wit ?_
 refine Qvz ?_
 refine L4k ?_
 refine Dc8 ?_
 have hsB:=B.sz
 have hl2:w1.heap.size<w2.heap.size:=Ax b2
 have hsz3:=H.size
 have hsz4:=K4.size
 have nl:∀j,j<gN->w4.heap[j]? = w2.heap[j]?:=fun j hj=>by
  have e:w2.heap[j]? = lp w2.heap[j]:=aZ Ab
  have e3:=H.old _ _ e (fun _=>B2.nb hj) Ab (by simp [qb])
  rw [e]
  exact K4.get e3 (by show j≠w.heap.size;omega)
 have hi1:w2.heap.size<=i.1:=by
  rcases H.part with hp|hp
  ·cases hp
  ·exact hp
 have hmo4:=K4.get hmo3 (by show sm≠w.heap.size;have:=Ax hm0;omega)
 refine I4 ⟨.inr rfl,rfl,rfl,w.heap.size,i,B2.of nl Ab n4 S4 H.shl,Ab,fun j ob a1 a2 a3 a4=>?_,K4.get hv3 (by show svb≠w.heap.size;have:=Ax hv;omega),hm3.of_block (hmo4.trans hmo3.symm),hb4,Ff H.own fun g hg=>?_,aA _,Ab⟩
 ·have hl:=Ax a1
  exact K4.get (H.old _ _ (K2.get (K1.get a1 (by rintro(e|e);exact a3 e;exact a4 e)) id) a2 Ab (by simp [qb])) (by show j≠w.heap.size;omega)
 ·obtain rfl:i.1=g:=by simpa [qb] using hg
  obtain⟨c,h1⟩:=Nq H.own (g:=i.1) rfl
  exact(K4.get h1 (by show i.1≠w.heap.size;omega)).trans h1.symm
end
structure W1(Tabs:qq->Prop)(gN:Nat)(Shun:Loc->Prop)(w:qq)(N Cp svb D K tb mb wm sm s1:Nat)(i:Nat×Nat):Prop where
 B:Base Tabs gN Shun w
 os:w.heap[Cp]? = lp (ye #[om (lp ⟨svb,0,od⟩)] 68)
 hv:w.heap[svb]? = lp (ye (B0 D tb wm sm 1 vp) 84)
 ht:Ca w tb mb 0 [(⟨#[47]⟩,Ir)]
 hw:Lo w wm []
 hm:Bm ly 3 w sm [(rl tz 1,om (lp ⟨s1,0,od⟩))]
 F:Ko w D K
 b1:w.heap[s1]? = lp (ye (Bl (rl tz 1) (cf (lp ⟨i.1,0,od⟩) 0 i.2) (gf vp) (rl tz 1) (gf vp) (cf od 0 0)) 75)
 own:w.ownsRow 0 5 1 (cf (lp ⟨i.1,0,od⟩) 0 i.2) 0 (A0 [])
 gv:N<=svb
 gt:N<=tb
 gm:N<=mb
 gw:N<=wm
 gs:N<=sm
 g1:N<=s1
 gi:N<=i.1
 wsm:wm≠sm
 wmb:wm≠mb
 mbs:mb≠sm
def Aaq(gN:Nat)(w w':qq):Prop:=w.heap.size<=w'.heap.size/\Dh gN w w'
section
variable {Post:Da} {valid:ByteArray->Bool} {Tabs:qq->Prop} {gN:Nat} {Shun:Loc->Prop} {w w':qq} {D K:Nat}
theorem UN(U:Jk valid Tabs)(B:Base Tabs gN Shun w)(F:Ko w D K) :
  De ly Post 5 #[om (lp ⟨D,0,od⟩)] Shun w fun val w' Sh=>Aaq gN w w'/\∃Cp svb tb mb wm sm s1 i,val=fh #[om (lp ⟨Cp,0,od⟩),rl tz 1]/\w.heap.size<=Cp/\W1 Tabs gN Sh w' w.heap.size Cp svb D K tb mb wm sm s1 i:=by
 have hsB:=B.sz
 refine Ho func5 Ac rfl ?_
 simp only [ntmps5,na,Nat.reduceAdd,Nat.reduceSub]
 refine Qvz ?_
 refine L4k ?_
 refine Dc8 ?_
 refine Qvz ?_
 refine Al ?_
 refine Cc rfl Ac rfl (by walk_nrm;exact(Abl (Post:=Post) B.S B.nf F)) ?_
 rintro x w1 Sh1 ⟨n1,⟨S1,L1⟩,O1,Cp,svb,tb,mb,wm,sm,rfl,hos,gos,V⟩
 refine Hb2 ?_
 refine Dc8 ?_
 have B1:=B.old O1 n1 S1 L1
 refine G08 ?_
 iterate 6(refine Al ?_)
 refine Ctl ?_
 refine Qvz ?_
 refine Al ?_
 have gv:=V.gv
 have gs:=V.gs
 refine Cc rfl Ac rfl (by walk_nrm;exact(AI (Post:=Post) (k:=1) U B1 hos V.hv V.hm Ab Ab (.inl rfl) (fun v h1 h2=>MS v svb D tb wm sm [] h1 h2 Ad Ae))) ?_
 rintro x w2 Sh2 ⟨rfl,s1,i,O⟩
 walk_nrm
 refine Ecj ?_
 refine B77 ?_
 refine U2i ?_
 refine Ctl ?_
 refine Qvz ?_
 iterate 4(refine Al ?_)
 refine Dc8 ?_
 have Di:=O1.1
 have g1:=O.gs
 have gi:=O.gi
 have mo:∀{k:TypeId} {b:Nat} {m:List (tj×tj)},Bm ly k w1 b m->b≠sm->Bm ly k w2 b m:=fun hm Cu=>by
  obtain⟨es,ck,h1⟩:=hm.obj
  exact hm.of_block ((O.old _ _ h1 (by simp [kindOf]) (Eu h1 V.hv Ae) Cu).trans h1.symm)
 have cl:∀{b:Nat} {c:Array tj} {t:TypeId},w1.heap[b]? = lp (ye c t)->t≠115->t≠84->w2.heap[b]? = lp (ye c t):=fun h h5 h8=>by
  obtain⟨es,ck,hmo⟩:=V.hm.obj
  exact O.old _ _ h (fun hk=>absurd hk (by simpa [kindOf] using h5)) (Eu h V.hv (fun e=>h8 (by cases e;rfl))) (Eu h hmo Ae)
 refine I4 ⟨.inr rfl,rfl,fh #[om (lp ⟨Cp,0,od⟩),rl tz 1],fun d=>by simp [results,results5,go_sem],fun d e he=>?_,⟨by have:=O.size;omega,fun j ob h1 h2=>?_⟩,Cp,svb,tb,mb,wm,sm,s1,i,rfl,gos,O.B,cl hos Ad Ad,O.hv,⟨cl V.ht.blk Ad Ad,mo V.ht.map V.mbs⟩,mo V.hw V.wsm,O.hm,⟨cl V.F.d Ad Ad,cl V.F.k Ad Ad⟩,O.blk,O.own,V.gv,V.gt,V.gm,V.gw,V.gs,Ab,Ab,V.wsm,V.wmb,V.mbs⟩
 ·simp [results,results5,go_sem] at he
 ·have hl:=Ax h1
  exact O.old _ _ (O1.2 _ _ h1) (fun _=>B1.nb h2) Ab Ab
theorem UM(U:Jk valid Tabs){N Cp svb tb mb wm sm s1:Nat}{i:Nat×Nat}(W:W1 Tabs gN Shun w N Cp svb D K tb mb wm sm s1 i)(hN:gN<=N)(gK:gN<=K) :
  De ly Post 6 #[om (lp ⟨Cp,0,od⟩)] Shun w fun val w' Sh=>val=rl tz 2/\∃s2 p1 p2,W2 Tabs gN Sh w' Cp svb D K tb mb wm sm s1 s2 od 2 0 [(⟨#[47]⟩,Ir)] [] p1 (cf od 0 0) p2 (cf od 0 0)/\Dh gN w w'/\w.heap.size<=w'.heap.size:=by
 have gv:=W.gv
 have gs:=W.gs
 refine D6 (AI (Post:=Post) (k:=2) U W.B W.os W.hv W.hm Ab Ab (.inr rfl) (fun v h1 h2=>MT v svb D tb wm sm _ h1 h2 Ae Ae)) ?_
 rintro val w' Sh ⟨rfl,s2,j,O⟩
 have hl1:=Ax W.b1
 have g1:=W.g1
 have gi:=W.gi
 have g2:=O.gs
 have gj:=O.gi
 have gt:=W.gt
 have gm:=W.gm
 have gw:=W.gw
 have hsB:=W.B.sz
 obtain⟨esm,ckm,hmo⟩:=W.hm.obj
 have mo:∀{k:TypeId} {b:Nat} {m:List (tj×tj)},Bm ly k w b m->b≠sm->Bm ly k w' b m:=fun hm Cu=>by
  obtain⟨es,ck,h1⟩:=hm.obj
  exact hm.of_block ((O.old _ _ h1 (by simp [kindOf]) (Eu h1 W.hv Ae) Cu).trans h1.symm)
 have cl:∀{b:Nat} {c:Array tj} {t:TypeId} {fz:Nat×Nat},w.heap[b]? = lp (ye c t fz)->t≠115->t≠84->w'.heap[b]? = lp (ye c t fz):=fun h h5 h8=>
  O.old _ _ h (fun hk=>absurd hk (by simpa [kindOf] using h5)) (Eu h W.hv (fun e=>h8 (by cases e;rfl))) (Eu h hmo Ae)
 have T:=mo W.ht.map W.mbs
 have V:=mo W.hw W.wsm
 obtain⟨es1,ck1,o1⟩:=T.obj
 obtain⟨es2,ck2,o2⟩:=V.obj
 obtain⟨es3,ck3,o3⟩:=O.hm.obj
 have nS:∀{b:Nat} {ob:Obj},w'.heap[b]? = lp ob->kindOf ob≠lp 115->¬F6 Sh b:=fun h hk=>Jm O.B.S h hk
 have tb':=cl W.ht.blk Ad Ad
 have hd:=cl W.F.d Ad Ad
 have hkk:=cl W.F.k Ad Ad
 refine⟨rfl,s2,cf (lp ⟨i.1,0,od⟩) 0 i.2,cf (lp ⟨j.1,0,od⟩) 0 j.2,⟨O.B,⟨O.hv,⟨tb',T⟩,⟨Ae,Ab,Ab,?_,?_⟩,V,?_,⟨hd,hkk,nS hd (by simp [kindOf]),nS hkk (by simp [kindOf]),Eu hd hkk Ae⟩,nS O.hv (by simp [kindOf]),nS tb' (by simp [kindOf]),nS o1 (by simp [kindOf]),nS o2 (by simp [kindOf]),nS o3 (by simp [kindOf]),Ab,Ab,Ab,Ab,gK,(fun q h=>by cases h),W.wmb,W.wsm,W.mbs⟩,cl W.b1 Ad Ad,O.blk,⟨Ff W.own fun g hg=>?_,fun g hg=>?_⟩,⟨O.own,fun g hg=>?_⟩,fun g hg hg'=>?_,Ab,Ab,Ab,cl W.os Ad Ad⟩,fun k ob h1 h2=>?_,O.size⟩
 ·intro q hq
  simp at hq
  subst hq
  exact⟨Ad,Aa⟩
 ·intro q hq
  simp at hq
  subst hq
  decide
 ·simpa [Fp] using O.hm
 ·obtain⟨c,h1⟩:=Nq W.own hg
  exact(cl h1 Ad Ad).trans h1.symm
 ·obtain rfl:i.1=g:=by simpa [qb] using hg
  omega
 ·obtain rfl:j.1=g:=by simpa [qb] using hg
  omega
 ·obtain rfl:i.1=g:=by simpa [qb] using hg
  obtain e:j.1=i.1:=by simpa [qb] using hg'
  obtain⟨c,h1⟩:=Nq W.own (g:=i.1) rfl
  have:=Ax h1
  omega
 ·exact O.old _ _ h1 (fun _=>W.B.nb h2) Ab Ab
end
end Go.Proofs.YtjoblhlkfmeckaaGreatDoor
