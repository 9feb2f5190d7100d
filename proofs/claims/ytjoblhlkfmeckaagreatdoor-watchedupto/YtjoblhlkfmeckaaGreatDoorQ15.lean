import Derived.Test.YtjoblhlkfmeckaaGreatDoorQ12
import Derived.DeepKeys4
import Derived.Shelf.Sort.Plain
import Derived.Shelf.Slices.In.SortNone
set_option maxHeartbeats 4000000
set_option maxRecDepth 8000
set_option linter.unusedVariables false
set_option linter.unusedSimpArgs false
open Option renaming some → lp,none → od
open Go.RowKit renaming Below → ug
open Go.RowKit.Below renaming heap_alloc → q8
open Go renaming World → qq,Calls → xi,heap_alloc_new → tw,Value → tj
open Bool renaming true → s7
open Go.Instr renaming lookup → ry,mapUpdate → yr
open Go.Program renaming keyLits → oz
open Go.Value renaming int → rl,string → pt,pointer → om,slice → cf,bool → gf,tuple → fh,agg → lx
open Go.Obj renaming cells → ye
open Go.IntKind renaming i64 → tz
open Go.Ending renaming returned → pd
open Go.Proofs.Tryz
namespace Go.Proofs.YtjoblhlkfmeckaaGreatDoor
open Go.RowKit Go.Maps
section
variable {w:qq} {tb mb:Nat} {num:Int} {ns:List (ByteArray×Nd)}
theorem Ca.map_at(h:Ca w tb mb num ns)(Cu:mb≠tb){W:qq}(hk:Ar w W (· = tb)):Bm prog 9 W mb (ns.map KR):=h.map.of_block (hk.block mb h.map.lt Cu)
theorem Uf{W W':qq}(Cu:mb≠tb){num':Int}{m':List (ByteArray×Nd)}(hk:Ar w W (· = tb))(hb:W.heap[tb]? = lp (ye #[rl tz num',.map (lp mb)] 94))(hm:Bm prog 9 W' mb (m'.map KR))(hg:W.grownBy W' (lp mb)) :
  Hid (Ar W W' (· = mb))/\Hid (Ca W' tb mb num' m'/\Ar w W' (fun k=>k=tb∨k=mb)):=
 ⟨Ar.of_grown hg (.inl rfl),⟨(hg.block tb (ltOf hb) (fun e=>Cu (by injection e with e;exact e.symm))).trans hb,hm⟩,(hk.mono (fun _ h=>.inl h)).trans ((Ar.of_grown (X:=fun k=>k=mb) hg (.inl rfl)).mono (fun _ h=>.inr h))⟩
theorem OC{p:ByteArray}(hp:p.size<=1000):∃l,keyOf prog 9 (pt p)=lp l:=⟨_,Go.WideMaps.keyOf_string_mk underlying9 (by unfold maxLen;omega)⟩
variable (h:Ca w tb mb num ns) (Cu:mb≠tb) (h0:0<=num) (h1:num+1<=9223372036854775807) (p d n:ByteArray) (v:Int) (hp:p.size<=1000)
include h Cu h0 h1 hp
theorem doC(hno:∀q∈ns,q.1≠p) :
  xi prog 67 #[om (lp ⟨tb,0,od⟩),J4 1 p d n v] w fun e w'=>e=pd (fh #[])/\Ca w' tb mb (num+1) (ns ++ [(p,⟨p,d,n,num+1,num+1,0⟩)])/\Ar w w' (fun k=>k=tb∨k=mb):=by
 refine(HY w tb p d n v num h0 h1 mb h.blk (fun W'=>Ca W' tb mb (num+1) (ns ++ [(p,⟨p,d,n,num+1,num+1,0⟩)])/\Ar w W' (fun k=>k=tb∨k=mb)) (fun W hk hb=>?_) Cu h.map.lt).mono ?_
 ·obtain⟨l,hl⟩:=OC hp
  obtain⟨W',hr,hm,hg⟩:=(h.map_at Cu hk).put_new Xm underlying92 (val:=(Nd.mk p d n (num+1) (num+1) 0).val) hl (fun q hq=>by
   obtain⟨x,hx,rfl⟩:=bE.1 hq
   intro e
   injection e with e
   exact hno x hx e)
  exact⟨W',hr,Uf Cu hk hb (by rw [cI];exact hm) hg⟩
 ·exact Kt4
theorem doD{A C:List (ByteArray×Nd)}{x:Nd}(hns:ns=A++(p,x) :: C) :
  xi prog 67 #[om (lp ⟨tb,0,od⟩),J4 2 p d n v] w fun e w'=>e=pd (fh #[])/\Ca w' tb mb (num+1) (A++C)/\Ar w w' (fun k=>k=tb∨k=mb):=by
 refine(IA w tb p d n v num h0 h1 mb h.blk (fun W'=>Ca W' tb mb (num+1) (A++C)/\Ar w W' (fun k=>k=tb∨k=mb)) (fun W hk hb=>?_) Cu h.map.lt).mono ?_
 ·obtain⟨l,hl⟩:=OC hp
  obtain⟨W',hr,hm,hg⟩:=(h.map_at Cu hk).drop_some (ty:=0) Xm underlying92 hl (A:=A.map KR) (C:=C.map KR) (v:=x.val) (by rw [hns,cI,bY])
  exact⟨W',hr,Uf Cu hk hb (by rw [cI];exact hm) hg⟩
 ·exact Kt4
theorem doS{A C:List (ByteArray×Nd)}{x:Nd}(hns:ns=A++(p,x) :: C)(hv1:0<=x.version)(hv2:x.version<=2147483647) :
  xi prog 67 #[om (lp ⟨tb,0,od⟩),J4 3 p d n v] w fun e w'=>e=pd (fh #[])/\Ca w' tb mb (num+1) (A++(p,{ x with data:=d,changed:=num+1,version:=N3 x.version }) :: C)/\Ar w w' (fun k=>k=tb∨k=mb):=by
 refine(XL w tb p d n v num h0 h1 mb h.blk x.path x.data x.note x.made x.changed x.version hv1 hv2 (fun W'=>Ca W' tb mb (num+1) (A++(p,{ x with data:=d,changed:=num+1,version:=N3 x.version }) :: C)/\Ar w W' (fun k=>k=tb∨k=mb)) (fun W hk=>?_) (fun W hk hb=>?_) Cu h.map.lt).mono ?_
 ·obtain⟨l,hl⟩:=OC hp
  exact(h.map_at Cu hk).look_some false Xm underlying92 hl (v:=x.val) (bE.2 ⟨(p,x),by rw [hns];simp,rfl⟩)
 ·obtain⟨l,hl⟩:=OC hp
  obtain⟨W',hr,hm,hg⟩:=(h.map_at Cu hk).put_old Xm underlying92 hl (val:=(Nd.mk x.path d x.note x.made (num+1) (N3 x.version)).val) (A:=A.map KR) (C:=C.map KR) (v:=x.val) (by rw [hns,cI,bY])
  exact⟨W',hr,Uf Cu hk hb (by rw [cI,bY];exact hm) hg⟩
 ·exact Kt4
end
theorem GU(w:qq)(tb:Nat)(p d n:ByteArray)(v:Int)(F:Int->Prop)(H:Hid (∀W,ug w.heap.size w W->xi prog 123 #[om (lp ⟨tb,0,od⟩),lx #[rl tz 1,pt p,pt d,pt n,rl tz v]] W fun e w'=>(∃c:Int,e=pd (rl tz c)/\F c)/\ug W.heap.size W w')) :
  xi prog 66 #[om (lp ⟨tb,0,od⟩),J4 1 p d n v] w fun e w'=>(∃c:Int,e=pd (rl tz c)/\F c)/\ug w.heap.size w w':=by
 obtain⟨W1,hW1⟩:∃W1,w.alloc (ye #[rl tz 1,pt p,pt d,pt n,rl tz v] 130)=W1:=⟨_,rfl⟩
 have HA:Hid (W1.heap[w.heap.size]? = lp (ye #[rl tz 1,pt p,pt d,pt n,rl tz v] 130)):=by rw [←hW1];exact tw _ _
 refine Gbz ?_;intro Cs a0 a1 a2 a3 a4
 go_enter func66,ntmps66
 go_wp2_with (go_at_call 123;refine(H.out W1 Cs.out).mono ?_;rintro e w2 ⟨⟨c,rfl,hc⟩,hb⟩;have HC:=Bc hc;have Fh:Hid (ug w.heap.size w w2):=Cs.out.trans (hb.mono Cs.out.size);clear hc hb)
 go_ret
 exact⟨⟨_,rfl,HC.out⟩,Fh.out⟩
theorem GV(w:qq)(tb:Nat)(p d n:ByteArray)(v:Int)(F:Int->Prop)(H:Hid (∀W,ug w.heap.size w W->xi prog 124 #[om (lp ⟨tb,0,od⟩),lx #[rl tz 2,pt p,pt d,pt n,rl tz v]] W fun e w'=>(∃c:Int,e=pd (rl tz c)/\F c)/\ug W.heap.size W w')) :
  xi prog 66 #[om (lp ⟨tb,0,od⟩),J4 2 p d n v] w fun e w'=>(∃c:Int,e=pd (rl tz c)/\F c)/\ug w.heap.size w w':=by
 obtain⟨W1,hW1⟩:∃W1,w.alloc (ye #[rl tz 2,pt p,pt d,pt n,rl tz v] 130)=W1:=⟨_,rfl⟩
 have HA:Hid (W1.heap[w.heap.size]? = lp (ye #[rl tz 2,pt p,pt d,pt n,rl tz v] 130)):=by rw [←hW1];exact tw _ _
 refine Gbz ?_;intro Cs a0 a1 a2 a3 a4
 go_enter func66,ntmps66
 go_wp2_with (go_at_call 124;refine(H.out W1 Cs.out).mono ?_;rintro e w2 ⟨⟨c,rfl,hc⟩,hb⟩;have HC:=Bc hc;have Fh:Hid (ug w.heap.size w w2):=Cs.out.trans (hb.mono Cs.out.size);clear hc hb)
 go_ret
 exact⟨⟨_,rfl,HC.out⟩,Fh.out⟩
theorem GW(w:qq)(tb:Nat)(p d n:ByteArray)(v:Int)(F:Int->Prop)(H:Hid (∀W,ug w.heap.size w W->xi prog 125 #[om (lp ⟨tb,0,od⟩),lx #[rl tz 3,pt p,pt d,pt n,rl tz v]] W fun e w'=>(∃c:Int,e=pd (rl tz c)/\F c)/\ug W.heap.size W w')) :
  xi prog 66 #[om (lp ⟨tb,0,od⟩),J4 3 p d n v] w fun e w'=>(∃c:Int,e=pd (rl tz c)/\F c)/\ug w.heap.size w w':=by
 obtain⟨W1,hW1⟩:∃W1,w.alloc (ye #[rl tz 3,pt p,pt d,pt n,rl tz v] 130)=W1:=⟨_,rfl⟩
 have HA:Hid (W1.heap[w.heap.size]? = lp (ye #[rl tz 3,pt p,pt d,pt n,rl tz v] 130)):=by rw [←hW1];exact tw _ _
 refine Gbz ?_;intro Cs a0 a1 a2 a3 a4
 go_enter func66,ntmps66
 go_wp2_with (go_at_call 125;refine(H.out W1 Cs.out).mono ?_;rintro e w2 ⟨⟨c,rfl,hc⟩,hb⟩;have HC:=Bc hc;have Fh:Hid (ug w.heap.size w w2):=Cs.out.trans (hb.mono Cs.out.size);clear hc hb)
 go_ret
 exact⟨⟨_,rfl,HC.out⟩,Fh.out⟩
section
variable {w:qq} {tb mb:Nat} {num:Int} {ns:List (ByteArray×Nd)} (h:Ca w tb mb num ns) (m:Int) (hm:w.cell? ⟨1,0,od⟩=lp (rl tz m)) (h1:1<w.heap.size) (p d n:ByteArray) (v:Int) (hp:p.size<=1000) (hpa:Hq p=s7)
include h hm h1 hp hpa
theorem Xi{W:qq}(hW:ug w.heap.size w W)(x:Nd)(hx:(p,x)∈ns):xi prog 147 #[om (lp ⟨tb,0,od⟩),pt p] W fun e w'=>e=pd (fh #[x.val,rl tz 0])/\ug W.heap.size W w':=
 Pm (h.below hW (ltOf h.blk) h.map.lt) m ((hW.cell (p:=⟨1,0,od⟩) h1).trans hm) (aB h1 hW.size) p hp hpa x hx
theorem Xj{W:qq}(hW:ug w.heap.size w W)(hno:∀q∈ns,q.1≠p):xi prog 147 #[om (lp ⟨tb,0,od⟩),pt p] W fun e w'=>e=pd (fh #[Nd.zero.val,rl tz 10])/\ug W.heap.size W w':=
 T5 (h.below hW (ltOf h.blk) h.map.lt) m ((hW.cell (p:=⟨1,0,od⟩) h1).trans hm) (aB h1 hW.size) p hp hpa hno
theorem WZ(hd:d.size<=40):xi prog 66 #[om (lp ⟨tb,0,od⟩),J4 3 p d n v] w fun e w'=>(∃c:Int,e=pd (rl tz c)/\(0<=c/\c<=15)/\(c=0->∃x,(p,x)∈ns))/\ug w.heap.size w w':=by
 refine GW w tb p d n v _ (fun W hW=>?_)
 by_cases hx:∃x,(p,x)∈ns
 ·obtain⟨x,hx⟩:=hx
  refine(Ox W tb 3 p d n v x.path x.data x.note x.made x.changed x.version 0 (.inl rfl) Ab (fun W' hW'=>Xi h m hm h1 p hp hpa (hW.trans (hW'.mono hW.size)) x hx)).mono ?_
  exact Z48
 ·refine(Ox W tb 3 p d n v _ _ _ _ _ _ 10 (.inr rfl) Ab (fun W' hW'=>Xj h m hm h1 p hp hpa (hW.trans (hW'.mono hW.size)) (fun q hq e=>hx ⟨q.2,by subst e;exact hq⟩))).mono ?_
  exact Ftx
theorem WX(hd:d.size<=40)(hn:n.size<=10)(hsl:Dj p=s7):xi prog 66 #[om (lp ⟨tb,0,od⟩),J4 1 p d n v] w fun e w'=>(∃c:Int,e=pd (rl tz c)/\(0<=c/\c<=15)/\(c=0->(∀q∈ns,q.1≠p)/\ns.length<32))/\ug w.heap.size w w':=by
 refine GU w tb p d n v _ (fun W hW=>?_)
 have hT:=h.below hW (ltOf h.blk) h.map.lt
 by_cases hx:∃x,(p,x)∈ns
 ·obtain⟨x,hx⟩:=hx
  refine(Py W tb 1 p d n v x.path x.data x.note x.made x.changed x.version Ab Ab mb (cellOf hT.blk rfl) (ltOf hT.blk) (fun W' hW'=>Xi h m hm h1 p hp hpa (hW.trans (hW'.mono hW.size)) x hx)).mono ?_
  rintro e w' ⟨rfl,hb⟩
  exact⟨⟨9,rfl,Ab,fun h0=>Ab⟩,hb⟩
 ·have hno:∀q∈ns,q.1≠p:=fun q hq e=>hx ⟨q.2,by subst e;exact hq⟩
  have Di:(Ds p).size<=1000:=by
   unfold Ds
   split
   ·decide
   ·rw [cQ];omega
  obtain⟨l,hl⟩:=OC Di
  obtain⟨y,ok,hy⟩:∃(y:Nd) (ok:Bool),∀W',ug W.heap.size W W'->(ry 92 (.map (lp mb)) (pt (Ds p)) s7).run prog W'=.ok (fh #[y.val,gf ok]) W':=by
   by_cases hy:∃y,(Ds p,y)∈ns
   ·obtain⟨y,hy⟩:=hy
    exact⟨y,s7,fun W' hW'=>(hT.map.of_block (hW'.block _ hT.map.lt)).look_some s7 Xm underlying92 hl (bE.2 ⟨_,hy,rfl⟩)⟩
   ·refine⟨Nd.zero,false,fun W' hW'=>(hT.map.of_block (hW'.block _ hT.map.lt)).look_none s7 Xm underlying92 (QZ W') hl (fun q hq=>?_)⟩
    obtain⟨z,hz,rfl⟩:=bE.1 hq
    intro e
    injection e with e
    exact hy ⟨z.2,by rw [←e];exact hz⟩
  refine(Qv W tb 1 p d n v _ _ _ _ _ _ Ab Ab mb (cellOf hT.blk rfl) (ltOf hT.blk) (Ds p) y.path y.data y.note y.made y.changed y.version ok ns.length (fun W' hW'=>Xj h m hm h1 p hp hpa (hW.trans (hW'.mono hW.size)) hno) (fun W'=>Mr W' p Ab hsl) (fun W' hW'=>⟨hy W' hW',?_⟩)).mono ?_
  ·have:=(hT.map.of_block (hW'.block _ hT.map.lt)).len underlying92 3
   rw [bN] at this
   exact this
  ·rintro e w' ⟨⟨c,rfl,hc⟩,hb⟩
   exact⟨⟨c,rfl,Ab,fun h0=>⟨hno,Ab⟩⟩,hb⟩
theorem WY(HC:∀W,ug w.heap.size w W->xi prog 151 #[om (lp ⟨tb,0,od⟩),pt p] W fun e w'=>(∃a k c,e=pd (cf a k c))/\ug W.heap.size W w') :
  xi prog 66 #[om (lp ⟨tb,0,od⟩),J4 2 p d n v] w fun e w'=>(∃c:Int,e=pd (rl tz c)/\(0<=c/\c<=15)/\(c=0->∃x,(p,x)∈ns))/\ug w.heap.size w w':=by
 refine GV w tb p d n v _ (fun W hW=>?_)
 by_cases hr:p=⟨#[47]⟩
 ·subst hr
  refine(Qw W tb 2 d n v).mono ?_
  rintro e w' ⟨rfl,hb⟩
  exact⟨⟨13,rfl,Ab,fun h0=>Ab⟩,hb⟩
 ·have HCW:∀W',ug W.heap.size W W'->_:=fun W' hW'=>HC W' (hW.trans (hW'.mono hW.size))
  by_cases hx:∃x,(p,x)∈ns
  ·obtain⟨x,hx⟩:=hx
   refine(Ls W tb 2 p d n v x.path x.data x.note x.made x.changed x.version 0 (.inl rfl) hr HCW (fun W' hW'=>Xi h m hm h1 p hp hpa (hW.trans (hW'.mono hW.size)) x hx)).mono ?_
   exact Z48
  ·refine(Ls W tb 2 p d n v _ _ _ _ _ _ 10 (.inr rfl) hr HCW (fun W' hW'=>Xj h m hm h1 p hp hpa (hW.trans (hW'.mono hW.size)) (fun q hq e=>hx ⟨q.2,by subst e;exact hq⟩))).mono ?_
   exact Ftx
end
theorem Tryz.info9b:(prog.info? 9).map (fun i=>(i.zero,i.size,i.bytes))=lp (lp (pt ⟨#[]⟩),1,16):=Aa
abbrev strs(L:List ByteArray):List tj:=L.map Value.string
theorem OE{w w5 w6:qq}{mb cnt':Nat}{nm v':tj}{L:List ByteArray}{tn:ByteArray}{m:List (tj×tj)}{o:Obj}(ho:w5.ownsRow w.heap.size 9 1 nm L.length (strs L))(Cu:∀g',nm.ownBlock=lp g'->g'≠w.heap.size/\w.heap.size<=g')(hR:Xb w5 mb w.heap.size m cnt')(hb:ug w.heap.size w w5)(hmb:mb<w.heap.size)(Db:w6.ownsRow w.heap.size 9 1 v' (L.length+1) (strs L ++ [pt tn]))(hg:(w5.alloc o).grownBy w6 nm.ownBlock) :
  Hid (w6.ownsRow w.heap.size 9 1 v' (L ++ [tn]).length (strs (L ++ [tn]))/\Xb w6 mb w.heap.size m cnt'/\ug w.heap.size w w6):=by
 have hs:=hb.size
 have hr5:w.heap.size<w5.heap.size:=by
  exact Vp4
 refine⟨by simpa using Db,hR.keep ?_ ?_,(hb.alloc hs _).grown hg Ag (fun j hj=>(Cu j hj).2)⟩
 ·rw [hg.block mb Ag (fun e=>by have:=Cu mb e.symm;omega),q8 _ _ _ Ab]
 ·rw [hg.block w.heap.size Ag (fun e=>(Cu _ e.symm).1 rfl),q8 _ _ _ hr5]
theorem Xd(w:qq)(tb mb:Nat)(num:Int)(ns:List (ByteArray×Nd))(h:Ca w tb mb num ns)(path:ByteArray)(h32:ns.length<=1000)(hkeys:∀q∈ns,q.1.size<=1000/\Dj q.1=s7)(HS:Hid (∀W v (L:List ByteArray),ug w.heap.size w W->L.length<=1000->W.ownsRow w.heap.size 9 1 v L.length (strs L)->xi prog 182 #[v] W fun e w'=>e=pd (fh #[])/\ug w.heap.size w w')) :
  xi prog 151 #[om (lp ⟨tb,0,od⟩),pt path] w fun e w'=>(∃a k c,e=pd (cf a k c)/\k<=ns.length)/\ug w.heap.size w w':=by
 have c1:=Kl (w:=w) 1 h.blk
 obtain⟨o,hr,hR⟩:=h.map.range (t:=92) underlying92
 have hlen:(ns.map KR).length=ns.length:=bN _
 rw [hlen] at hR
 obtain⟨W1,hW1⟩:∃W1,w.alloc o=W1:=⟨_,rfl⟩
 have Cs:Hid (ug w.heap.size w W1):=by rw [←hW1];exact Bh _ _
 rw [hW1] at hr hR
 have HR:=Bc hR
 have HMB:Hid (mb<w.heap.size):=h.map.lt
 clear hR hW1 hlen
 obtain⟨i0,hi0,hz0,hz1,hz2⟩:=info_parts Tryz.info9b
 go_enter func151,ntmps151
 go_wp2
 go_loopw [5,6] (fun nm pp wr=>∃(L:List ByteArray) (cnt:Nat),L.length+cnt<=ns.length/\Hid (wr.ownsRow w.heap.size 9 1 nm L.length (strs L)/\Xb wr mb w.heap.size (ns.map KR) cnt/\ug w.heap.size w wr)) (fun _ _ wr=>wr.rangeLeft mb w.heap.size)
 case atStart=>exact⟨[],ns.length,Ae,World.ownsRow_nil _ _ _ _,HR.out,Cs.out⟩
 case round=>
  obtain⟨L,cnt,hcnt,HI⟩:=hrel
  obtain⟨na,nc,hnm⟩:∃na nc,u5=cf na L.length nc:=by
   exact Hcs
  subst hnm
  have HCL:=Bc HI.out.2.1.left_eq
  rcases HI.out.2.1.next (P:=prog) 0 with⟨h0,D1⟩|⟨p,hp,w2,cnt',D1,hR2,Cg,hgr,Di,hent⟩
  ·have HSS:Hid (xi prog 182 #[cf na L.length nc] wr fun e w'=>e=pd (fh #[])/\ug w.heap.size w w'):=HS.out wr _ L HI.out.2.2 Ab HI.out.1
   go_wp2_with fail
   refine HSS.out.mono ?_
   rintro e w3 ⟨rfl,hb3⟩
   have HB3:=Bc hb3
   clear hb3
   go_wp2
   go_ret
   exact⟨⟨_,_,_,rfl,Ab⟩,HB3.out⟩
  ·obtain⟨⟨pk,px⟩,hq,rfl⟩:=bE.1 hp
   have hkq:pk.size<=1000/\Dj pk=s7:=hkeys _ hq
   have Fh:Hid (ug w.heap.size w w2):=HI.out.2.2.grown hgr HI.out.2.2.size (fun j hj=>by cases hj;exact aA _)
   have HR2:=Bc hR2
   have HP:Hid (∀W,xi prog 169 #[pt pk] W fun e w'=>e=pd (pt (Ds pk))/\w'=W):=fun W=>Mr W pk (by have:=hkq.1;omega) hkq.2
   have HN:Hid (∀W,xi prog 181 #[pt pk] W fun e w'=>(∃t:ByteArray,e=pd (pt t))/\w'=W):=fun W=>Xl W pk hkq.1 hkq.2
   have HCT:Hid (cnt'<wr.rangeLeft mb w.heap.size/\L.length+1+cnt'<=ns.length/\w2.rangeLeft mb w.heap.size=cnt'):=⟨by rw [HCL.out];exact Cg,Ab,hR2.left_eq⟩
   have HNE:Hid (∀g',(Value.slice na L.length nc).ownBlock=lp g'->g'≠w.heap.size/\w.heap.size<=g'):=fun g' hg'=>by
    exact Vek
   have HO2:Hid (w2.ownsRow w.heap.size 9 1 (cf na L.length nc) L.length (strs L)):=by
    exact Tv8
   clear hR2 hgr Cg hp hq Di
   go_wp2_with (first
    | (go_at_call 169;refine(HP.out _).mono ?_;rintro e w5 ⟨rfl,rfl⟩)
    | (go_at_call 181;refine(HN.out _).mono ?_;rintro e w5 ⟨⟨tn,rfl⟩,rfl⟩)
    | (at_builtin;refine wpList_append_own_at _ rfl _ _ 224 rfl w.heap.size 9 i0 _ 1 16 underlying224 hi0 hz0 hz1 hz2 rfl Ad (.slice na L.length nc) L.length (strs L) rfl (HO2.out.alloc _) ⟨w5.heap.size,0,od⟩ 1 1 [pt tn] rfl rfl (World.news_of_block (tw w5 _)) (by intro u hu;simp at hu;subst hu;rfl) (by unfold maxLen;omega) Ab (by have:=Fh.out.size;simp;omega) ?_;intro v' w6 hown' hgrow _ hat;have HE:Hid (w6.ownsRow w.heap.size 9 1 v' (L ++ [tn]).length (strs (L ++ [tn]))/\Xb w6 mb w.heap.size (ns.map KR) cnt'/\ug w.heap.size w w6):=OE HO2.out HNE.out HR2.out Fh.out HMB.out hown' hgrow;clear hown' hgrow hat))
   all_goals first
    | exact⟨⟨L ++ [tn],cnt',by have:=HCT.out.2.1;simp;omega,HE⟩,by rw [HE.out.2.1.left_eq];exact HCT.out.1⟩
    | exact⟨⟨L,cnt',by have:=HCT.out.2.1;omega,HO2.out,HR2.out,Fh.out⟩,by rw [HCT.out.2.2];exact HCT.out.1⟩
theorem PE(w:qq)(p:ByteArray) :
  xi prog 179 #[pt p] w fun e w'=>(∃lv,e=pd lv/\Er w' (fun b=>b<w'.heap.size) [Orch.txt p] lv)/\ug w.heap.size w w':=by
 have HV:=Bc (Ps w [(Orch.txt p,cf od 0 0)] (fun b=>b<(w.alloc (ye #[rl tz 0,pt p,cf od 0 0] 164)).heap.size) Ae #[rl tz 0,pt p,cf od 0 0] (by simp [Fe,Orch.V.n,Orch.V.s]) 164 1 rfl _ rfl Ae (by
  intro q hq
  simp at hq
  subst hq
  exact .nil od 0))
 go_enter func179,ntmps179
 go_wp2
 go_ret
 exact⟨⟨_,rfl,HV.out⟩,Bh _ _⟩
theorem Wm(w:qq)(xp xd xn:ByteArray)(xm xc xv k:Int) :
  xi prog 153 #[lx #[pt xp,pt xd,pt xn,rl tz xm,rl tz xc,rl tz xv],rl tz k] w fun e w'=>(∃lv,e=pd lv/\Er w' (fun b=>b<w'.heap.size) [.mk 0 ⟨#[]⟩ [Orch.num xm,Orch.num xc,Orch.num xv,Orch.num k]] lv)/\ug w.heap.size w w':=by
 obtain⟨W1,hW1⟩:∃W1,w.alloc (ye #[pt xp,pt xd,pt xn,rl tz xm,rl tz xc,rl tz xv] 96)=W1:=⟨_,rfl⟩
 have HA:Hid (W1.heap[w.heap.size]? = lp (ye #[pt xp,pt xd,pt xn,rl tz xm,rl tz xc,rl tz xv] 96)):=by rw [←hW1];exact tw _ _
 have Cs:Hid (ug w.heap.size w W1):=by rw [←hW1];exact Bh _ _
 obtain⟨a3,a4,a5⟩:=Ld (w:=W1) 3 4 5 HA.out
 obtain⟨W2,hW2⟩:∃W2,W1.alloc (ye #[rl tz xm,pt ⟨#[]⟩,cf od 0 0,rl tz xc,pt ⟨#[]⟩,cf od 0 0,rl tz xv,pt ⟨#[]⟩,cf od 0 0,rl tz k,pt ⟨#[]⟩,cf od 0 0] 164)=W2:=⟨_,rfl⟩
 have HV2:Hid (Er W2 (fun b=>b<W2.heap.size) [Orch.num xm,Orch.num xc,Orch.num xv,Orch.num k] (cf (lp ⟨W1.heap.size,0,od⟩) 4 4)):=by
  rw [←hW2]
  exact Ps W1 [(Orch.num xm,cf od 0 0),(Orch.num xc,cf od 0 0),(Orch.num xv,cf od 0 0),(Orch.num k,cf od 0 0)] _ Ae _ (by simp [Fe,Orch.V.n,Orch.V.s]) 164 4 rfl _ rfl Ae (by
   intro q hq
   simp at hq
   rcases hq with rfl|rfl|rfl|rfl <;> exact .nil od 0)
 have Fh:Hid (ug w.heap.size w W2):=by rw [←hW2];exact Cs.out.alloc Cs.out.size _
 have HV3:=Bc (Ps W2 [(.mk 0 ⟨#[]⟩ [Orch.num xm,Orch.num xc,Orch.num xv,Orch.num k],cf (lp ⟨W1.heap.size,0,od⟩) 4 4)] (fun b=>b<(W2.alloc (ye #[rl tz 0,pt ⟨#[]⟩,cf (lp ⟨W1.heap.size,0,od⟩) 4 4] 164)).heap.size) Ae #[rl tz 0,pt ⟨#[]⟩,cf (lp ⟨W1.heap.size,0,od⟩) 4 4] (by simp [Fe,Orch.V.n,Orch.V.s]) 164 1 rfl _ rfl Ae (by
  intro q hq
  simp at hq
  subst hq
  exact HV2.out.congr (fun b hb=>Ag) (fun b hb=>q8 _ _ _ hb)))
 go_enter func153,ntmps153
 go_wp2
 go_ret
 exact⟨⟨_,rfl,HV3.out⟩,Fh.out.alloc Fh.out.size _⟩
theorem Xn(w:qq)(e0:Int)(h:e0=0∨e0=10):xi prog 148 #[rl tz 5,rl tz e0] w fun e w'=>e=pd (gf s7)/\w'=w:=by
 rcases h with rfl|rfl
 ·go_enter func148,ntmps148
  go_wp2
  go_ret
  exact⟨rfl,rfl⟩
 ·go_enter func148,ntmps148
  go_wp2
  go_ret
  exact⟨rfl,rfl⟩
theorem AV(w:qq):xi prog 150 #[rl tz 5] w fun e w'=>e=pd (rl tz 0)/\w'=w:=by
 go_enter func150,ntmps150
 go_wp2
 go_ret
 exact⟨rfl,rfl⟩
theorem YD:laidOutB prog=s7:=Aa
theorem PW:(170:Nat)<prog.types.size:=by
 have:decide ((170:Nat)<prog.types.size)=s7:=Aa
 exact of_decide_eq_true this
theorem OD:prog.keyTypeAt 3 170=s7:=Aa
theorem Q6:Keyed prog 170:=Keyed.of_law (deep_law_laid YD (m:=3) Ab PW OD (by rw [underlying170]))
theorem Tq:prog.cellsOf 170=3:=Aa
theorem MN:prog.cellsOf 3=1:=Aa
theorem MO:prog.cellsOf 9=1:=Aa
theorem BZ:prog.cellsOf 168=1:=Aa
theorem CV:prog.keyType 170=s7:=Aa
theorem XK:∃d,prog.types.size=d+1:=⟨prog.types.size - 1,by have:=PW;omega⟩
abbrev Dw(s:Int)(p:ByteArray)(o:Int):tj:=lx #[rl tz s,pt p,rl tz o]
theorem Xk{s o:Int}{p:ByteArray}(hs:(Lit.int tz s).wf=s7)(ho:(Lit.int tz o).wf=s7)(hp:p.size<=1000):∃l,keyOf prog 170 (Dw s p o)=lp l:=by
 obtain⟨d,hd⟩:=XK
 have hpm:p.size<=maxLen:=by unfold maxLen;omega
 have hf:Value.formed prog 170 (Dw s p o)=s7:=by simp [Value.formed,underlying170,Tq]
 unfold keyOf
 rw [underlying170]
 simp only [CV,hf,Bool.and_self,bC,hd]
 have:prog.keyLits (d+1+1) 170 (Dw s p o).cells.toList=lp [.int tz s,.string p.data.toList,.int tz o]:=by
  unfold oz
  rw [underlying170]
  simp [Value.cells,Tq,MN,MO,BZ,oz,underlying3,underlying9,underlying168,hs,ho,hpm]
 rw [this]
 exact⟨_,rfl⟩
abbrev Lo(w:qq)(b:Nat)(ks:List tj):Prop:=Bm prog 170 w b (ks.map fun k=>(k,lx #[]))
theorem LQ(w:qq)(b:Nat)(s o:Int)(p:ByteArray)(Q:qq->Prop)(HU:Hid (∀W,ug w.heap.size w W->∃W',(yr 81 (.map (lp b)) (Dw s p o) (lx #[])).run prog W=.ok () W'/\Hid (Q W'))) :
  xi prog 149 #[.map (lp b),Dw s p o] w fun e w'=>e=pd (fh #[])/\Q w':=by
 obtain⟨W1,hW1⟩:∃W1,w.alloc (ye #[rl tz s,pt p,rl tz o] 170)=W1:=⟨_,rfl⟩
 have HA:Hid (W1.heap[w.heap.size]? = lp (ye #[rl tz s,pt p,rl tz o] 170)):=by rw [←hW1];exact tw _ _
 obtain⟨a0,a1,a2⟩:=Ld (w:=W1) 0 1 2 HA.out
 obtain⟨V,u,QV⟩:=HU.out W1 (by rw [←hW1];exact Bh _ _)
 go_enter func149,ntmps149
 go_wp2
 exact⟨rfl,fh #[],by simp [results,results149,go_sem],rfl,QV.out⟩
def Tryz.ren190:Go.Shelf.Ren:=⟨fun|125=>58|128=>114|129=>115|190=>182|258=>199|302=>215|303=>216|304=>217|305=>218|306=>219|307=>220|308=>221|309=>222|310=>223|329=>159|330=>160|333=>240|334=>241|335=>242|336=>243|344=>253|n=>n,fun|0=>0|3=>3|4=>4|5=>5|9=>9|31=>224|46=>63|51=>113|53=>110|131=>155|182=>174|183=>175|218=>231|222=>234|228=>261|229=>262|n=>n,fun n=>n⟩
set_option maxRecDepth 100000 in
theorem Tryz.lays190:Go.Proofs.Lays.n190 prog Tryz.ren190:=
 {mixed:=Aa,
  f125:=func58.trans (aG lp Aa),
  f128:=func114.trans (aG lp Aa),
  f129:=func115.trans (aG lp Aa),
  f190:=func182.trans (aG lp Aa),
  f258:=func199.trans (aG lp Aa),
  f302:=func215.trans (aG lp Aa),
  f303:=func216.trans (aG lp Aa),
  f304:=func217.trans (aG lp Aa),
  f305:=func218.trans (aG lp Aa),
  f306:=func219.trans (aG lp Aa),
  f307:=func220.trans (aG lp Aa),
  f308:=func221.trans (aG lp Aa),
  f309:=func222.trans (aG lp Aa),
  f310:=func223.trans (aG lp Aa),
  f329:=func159.trans (aG lp Aa),
  f330:=func160.trans (aG lp Aa),
  f333:=func240.trans (aG lp Aa),
  f334:=func241.trans (aG lp Aa),
  f335:=func242.trans (aG lp Aa),
  f336:=func243.trans (aG lp Aa),
  f344:=func253.trans (aG lp Aa),
  t0:=underlying0,
  a0:=isAgg0,
  z0:=sizeOf0,
  v0:=zeroValue0,
  t3:=underlying3,
  a3:=isAgg3,
  z3:=sizeOf3,
  v3:=zeroValue3,
  t4:=underlying4,
  a4:=isAgg4,
  z4:=sizeOf4,
  v4:=zeroValue4,
  t5:=underlying5,
  a5:=isAgg5,
  z5:=sizeOf5,
  v5:=zeroValue5,
  t9:=underlying9,
  a9:=isAgg9,
  z9:=sizeOf9,
  v9:=zeroValue9,
  t31:=underlying224,
  a31:=isAgg224,
  z31:=sizeOf224,
  v31:=zeroValue224,
  t46:=underlying63,
  a46:=isAgg63,
  z46:=sizeOf63,
  v46:=zeroValue63,
  t51:=underlying113,
  a51:=isAgg113,
  z51:=sizeOf113,
  v51:=zeroValue113,
  t53:=underlying110,
  a53:=isAgg110,
  z53:=sizeOf110,
  v53:=zeroValue110,
  t131:=underlying155,
  a131:=isAgg155,
  z131:=sizeOf155,
  v131:=zeroValue155,
  t182:=underlying174,
  a182:=isAgg174,
  z182:=sizeOf174,
  v182:=zeroValue174,
  t183:=underlying175,
  a183:=isAgg175,
  z183:=sizeOf175,
  v183:=zeroValue175,
  t218:=underlying231,
  a218:=isAgg231,
  z218:=sizeOf231,
  v218:=zeroValue231,
  t222:=underlying234,
  a222:=isAgg234,
  z222:=sizeOf234,
  v222:=zeroValue234,
  t228:=underlying261,
  a228:=isAgg261,
  z228:=sizeOf261,
  v228:=zeroValue261,
  t229:=underlying262,
  a229:=isAgg262,
  z229:=sizeOf262,
  v229:=zeroValue262 }
theorem JZ(w:qq)(base:Nat)(v:tj)(L:List ByteArray)(hl:L.length<=1000)(ho:w.ownsRow base 9 1 v L.length (strs L))(w0:qq)(hb:ug base w0 w) :
  xi prog 182 #[v] w fun e w'=>e=pd (fh #[])/\ug base w0 w':=by
 rcases ho.2 with⟨rfl,h0⟩|⟨g,cap,cur,rfl,hbg,hg,hnc,hcm,hcs,ht⟩
 ·refine(Any.slices_Sort_string_none Tryz.lays190 od 0 w).mono ?_
  rintro e w' ⟨rfl,rfl⟩
  exact⟨rfl,hb⟩
 ·have hH:Go.Sort.Holds encStr w g 0 (L.map fun x=>x.data.toList).toArray:=fun j hj=>by
   have hj':j<L.length:=by simpa using hj
   rw [aM]
   refine⟨?_,Ay hg⟩
   have h1:(cur.toList.take (L.length * 1))[j]? = (strs L)[j]?:=by rw [ht]
   rw [dI,aQ Ab] at h1
   have h2:cur[j]? = lp (pt L[j]):=by
    simp [strs,hj'] at h1
    simpa using h1
   rw [cellOf hg h2]
   simp [encStr,hj']
  have:=Any.slices_Sort_string Tryz.lays190 g 0 cap (L.map fun x=>x.data.toList) w hH (ltOf hg) Ag
  rw [bN] at this
  refine this.mono ?_
  rintro e w' ⟨rfl,n,os,rfl⟩
  refine⟨rfl,hb.os,hb.tape,hb.output,?_,fun k hk=>?_⟩
  ·have:=hb.size
   simp [Go.Sort.grow,Go.Sort.putRow,Go.Sort.mapBlock,Go.Sort.ahead]
   omega
  ·exact Wvp
theorem Mh(w:qq)(tb mb:Nat)(num:Int)(ns:List (ByteArray×Nd))(h:Ca w tb mb num ns)(path:ByteArray)(h32:ns.length<=1000)(hkeys:∀q∈ns,q.1.size<=1000/\Dj q.1=s7) :
  xi prog 151 #[om (lp ⟨tb,0,od⟩),pt path] w fun e w'=>(∃a k c,e=pd (cf a k c)/\k<=ns.length)/\ug w.heap.size w w':=
 Xd w tb mb num ns h path h32 hkeys (fun W v L hb hl ho=>JZ W w.heap.size v L hl ho w hb)
abbrev Tl:=Int×Bool×Int
theorem KI(w:qq)(b:Nat)(s:Int)(kind:Nat)(hk:kind<4)(q d n:ByteArray)(v:Int)(g o:Nat)(T:List Tl)(hT:T.length<=3)(hrow:w.cell? ⟨4,kind,od⟩=lp (cf (lp ⟨g,o,od⟩) T.length T.length))(h4:4<w.heap.size)(hg:g<w.heap.size)(Ee:Hid (∀j (x:Tl),T[j]? = lp x->w.cell? ⟨g,o+j * 3,od⟩=lp (rl tz x.1)/\w.cell? ⟨g,o+j * 3+1,od⟩=lp (gf x.2.1)/\w.cell? ⟨g,o+j * 3+2,od⟩=lp (rl tz x.2.2)))(HP:Hid (∀W,xi prog 169 #[pt q] W fun e w'=>e=pd (pt (Ds q))/\w'=W))(HL:Hid (∀W,ug w.heap.size w W->∀x∈T,(ry 81 (.map (lp b)) (Dw s (if x.2.1 then Ds q else q) x.1) s7).run prog W=.ok (fh #[lx #[],gf false]) W)) :
  xi prog 177 #[.map (lp b),rl tz s,J4 kind q d n v] w fun e w'=>e=pd (cf od 0 0)/\ug w.heap.size w w':=by
 refine N3o ?_;intro Ia W1 hW1 HA Cs a0 r1 hs1
 go_enter func177,ntmps177
 go_wp2
 go_loopw [7,19] (fun ev i wr=>ev=cf od 0 0/\∃j:Nat,j<=T.length/\i=rl tz j/\Hid (ug W1.heap.size W1 wr)) (fun _ i _=>T.length - (intOf i).toNat)
 case atStart=>exact⟨rfl,0,cC _,rfl,Below.refl _ _⟩
 case round=>
  obtain⟨rfl,j,hj,rfl,hb⟩:=hrel
  have HBW:Hid (ug w.heap.size w wr):=Cs.out.trans (hb.out.mono Cs.out.size)
  by_cases Cg:j=T.length
  ·subst Cg
   go_wp2
   go_ret
   exact⟨rfl,HBW.out⟩
  ·obtain⟨x,hx⟩:∃x,T[j]? = lp x:=⟨T[j]' Ab,aR _⟩
   have hc:=Ee.out j x hx
   have hl:=HL.out
   have HXM:Hid (x∈T):=cD hx
   obtain⟨of,par,what⟩:=x
   have e0:wr.cell? ⟨g,o+j * 3,od⟩=lp (rl tz of):=(HBW.out.cell (p:=⟨g,o+j * 3,od⟩) hg).trans hc.1
   have e1:wr.cell? ⟨g,o+j * 3+1,od⟩=lp (gf par):=(HBW.out.cell (p:=⟨g,o+j * 3+1,od⟩) hg).trans hc.2.1
   have e2:wr.cell? ⟨g,o+j * 3+2,od⟩=lp (rl tz what):=(HBW.out.cell (p:=⟨g,o+j * 3+2,od⟩) hg).trans hc.2.2
   have hj1:(j:Int)<(T.length:Int):=Ab
   have HAr:Hid (wr.heap[w.heap.size]? = lp (ye #[rl tz kind,pt q,pt d,pt n,rl tz v] 130)):=(hb.out.block _ hs1).trans HA.out
   refine Mse ?_;intro W3 hW3 HN3
   have HB3:Hid (ug W1.heap.size W1 W3):=by rw [←hW3];exact hb.out.alloc hb.out.size _
   refine Lek ?_;intro HA3
   obtain⟨n0,n1,n2⟩:=Ld (w:=W3) 0 1 2 HN3.out
   have a31:=Kl (w:=W3) 1 HA3.out
   clear hc hl Ee hx
   cases par with
   | false=>
    refine E48 ?_;intro W4 hW4 HM4
    refine O4d ?_;intro HB4 m0 m1 m2
    have l4:(ry 81 (.map (lp b)) (Dw s q of) s7).run prog W4=.ok (fh #[lx #[],gf false]) W4:=HL.out W4 (Cs.out.trans (HB4.out.mono Cs.out.size)) _ HXM.out
    go_wp2
    exact S1l
   | true=>
    refine Nme ?_;intro W4 hW4 HM4
    refine O4d ?_;intro HB4 m0 m1 m2
    have l4:(ry 81 (.map (lp b)) (Dw s (Ds q) of) s7).run prog W4=.ok (fh #[lx #[],gf false]) W4:=HL.out W4 (Cs.out.trans (HB4.out.mono Cs.out.size)) _ HXM.out
    go_wp2_with (go_at_call 169;refine(HP.out _).mono ?_;rintro e w5 ⟨rfl,rfl⟩)
    exact S1l
theorem Tryz.info96:(prog.info? 96).map (fun i=>(i.zero,i.size,i.bytes))=lp (lp Nd.zero.val,6,72):=Aa
abbrev Hr(L:List Nd):List tj:=L.flatMap fun x=>x.cs.toList
theorem IY{w w5 w6:qq}{mb r cnt':Nat}{nm v':tj}{L:List Nd}{x:Nd}{m:List (tj×tj)}{o o':Obj}(Cu:∀g',nm.ownBlock=lp g'->g'≠r/\w.heap.size<=g')(hR:Xb w5 mb r m cnt')(hb:ug w.heap.size w w5)(hmb:mb<w.heap.size)(Db:w6.ownsRow w.heap.size 96 6 v' (L.length+1) (Hr L++x.cs.toList))(hg:((w5.alloc o').alloc o).grownBy w6 nm.ownBlock) :
  Hid (w6.ownsRow w.heap.size 96 6 v' (L ++ [x]).length (Hr (L ++ [x]))/\Xb w6 mb r m cnt'/\ug w.heap.size w w6):=by
 have hs:=hb.size
 have hr5:r<w5.heap.size:=by
  exact Vp4
 refine⟨by simpa [Hr] using Db,hR.keep ?_ ?_,((hb.alloc hs _).alloc Ag _).grown hg Ag (fun j hj=>(Cu j hj).2)⟩
 ·rw [hg.block mb Ag (fun e=>by have:=Cu mb e.symm;omega),q8 _ _ _ Ag,q8 _ _ _ Ab]
 ·rw [hg.block r Ag (fun e=>(Cu _ e.symm).1 rfl),q8 _ _ _ Ag,q8 _ _ _ hr5]
theorem IX(w:qq)(tb mb:Nat)(num:Int)(ns:List (ByteArray×Nd))(h:Ca w tb mb num ns)(h32:ns.length<=1000)(HS:Hid (∀W v (L:List Nd),ug w.heap.size w W->L.length<=1000->W.ownsRow w.heap.size 96 6 v L.length (Hr L)->xi prog 38 #[v,.func (.func 39) #[] #[]] W fun e w'=>e=pd (fh #[])/\ug w.heap.size w w')) :
  xi prog 32 #[om (lp ⟨tb,0,od⟩)] w fun e w'=>(∃v,e=pd v)/\ug w.heap.size w w':=by
 have c1:=Kl (w:=w) 1 h.blk
 obtain⟨i0,hi0,hz0,hz1,hz2⟩:=info_parts Tryz.info96
 have hlen:=h.map.len (t:=92) underlying92 3
 rw [bN] at hlen
 have hmk:=run_make (P:=prog) w 43 96 i0 _ Tryz.underlying43 hi0 hz0 .i64 .i64 (0:Int) (ns.length:Int) Ab Ab (by rw [hz2];omega) Ab
 simp only [Int.toNat_zero,Int.toNat_natCast,hz1] at hmk
 obtain⟨W1,hW1⟩:∃W1,w.alloc (ye (madeCells Nd.zero.val.cells (ns.length * 6)) 96)=W1:=⟨_,rfl⟩
 rw [hW1] at hmk
 have Cs:Hid (ug w.heap.size w W1):=by rw [←hW1];exact Bh _ _
 have HO1:Hid (W1.ownsRow w.heap.size 96 6 (cf (lp ⟨w.heap.size,0,od⟩) 0 ns.length) 0 []):=by
  rw [←hW1]
  exact⟨rfl,.inr ⟨w.heap.size,ns.length,_,rfl,aA _,tw w _,cC _,by unfold maxLen;omega,by simp [madeCells,Value.cells],Ae⟩⟩
 have hlt1:w.heap.size<W1.heap.size:=by rw [←hW1];simp
 have d1:W1.cell? ⟨tb,1,od⟩=lp (.map (lp mb)):=(Cs.out.cell (p:=⟨tb,1,od⟩) (ltOf h.blk)).trans c1
 obtain⟨o,hr,hR⟩:=(h.map.of_block (Cs.out.block mb h.map.lt)).range (t:=92) underlying92
 rw [bN] at hR
 obtain⟨W2,hW2⟩:∃W2,W1.alloc o=W2:=⟨_,rfl⟩
 have Fh:Hid (ug w.heap.size w W2):=by rw [←hW2];exact Cs.out.alloc Cs.out.size _
 have HO2:Hid (W2.ownsRow w.heap.size 96 6 (cf (lp ⟨w.heap.size,0,od⟩) 0 ns.length) 0 []):=by rw [←hW2];exact HO1.out.alloc _
 rw [hW2] at hr hR
 have HR:=Bc hR
 have HMB:Hid (mb<w.heap.size):=h.map.lt
 have HLE:Hid (w.heap.size<=W1.heap.size):=dN hlt1
 clear hR hW1 hW2 hlt1
 generalize W1.heap.size=r at *
 go_enter func32,ntmps32
 go_wp2
 go_loopw [3,5] (fun nm pp wr=>∃(L:List Nd) (cnt:Nat),L.length+cnt<=ns.length/\Hid (wr.ownsRow w.heap.size 96 6 nm L.length (Hr L)/\Xb wr mb r (ns.map KR) cnt/\ug w.heap.size w wr)) (fun _ _ wr=>wr.rangeLeft mb r)
 case atStart=>exact⟨[],ns.length,Ae,HO2.out,HR.out,Fh.out⟩
 case round=>
  obtain⟨L,cnt,hcnt,HI⟩:=hrel
  obtain⟨na,nc,hnm⟩:∃na nc,u3=cf na L.length nc:=by
   exact Hcs
  subst hnm
  have HCL:=Bc HI.out.2.1.left_eq
  rcases HI.out.2.1.next (P:=prog) 0 with⟨h0,D1⟩|⟨p,hp,w2,cnt',D1,hR2,Cg,hgr,Di,hent⟩
  ·have HSS:Hid (xi prog 38 #[cf na L.length nc,.func (.func 39) #[] #[]] wr fun e w'=>e=pd (fh #[])/\ug w.heap.size w w'):=HS.out wr _ L HI.out.2.2 Ab HI.out.1
   go_wp2_with fail
   refine HSS.out.mono ?_
   rintro e w3 ⟨rfl,hb3⟩
   have HB3:=Bc hb3
   clear hb3
   go_wp2
   go_ret
   exact⟨⟨_,rfl⟩,HB3.out⟩
  ·obtain⟨⟨pk,px⟩,hq,rfl⟩:=bE.1 hp
   have Fh:Hid (ug w.heap.size w w2):=HI.out.2.2.grown hgr HI.out.2.2.size (fun j hj=>by cases hj;exact HLE.out)
   have HR2:=Bc hR2
   have HCT:Hid (cnt'<wr.rangeLeft mb r/\L.length+1+cnt'<=ns.length):=⟨by rw [HCL.out];exact Cg,Ab⟩
   have HNE:Hid (∀g',(Value.slice na L.length nc).ownBlock=lp g'->g'≠r/\w.heap.size<=g'):=fun g' hg'=>by
    exact Vek
   have HO3:Hid (w2.ownsRow w.heap.size 96 6 (cf na L.length nc) L.length (Hr L)):=by
    exact Tv8
   obtain⟨xp,xd,xn,xm,xc,xv⟩:=px
   obtain⟨W3,hW3⟩:∃W3,w2.alloc (ye #[pt xp,pt xd,pt xn,rl tz xm,rl tz xc,rl tz xv] 96)=W3:=⟨_,rfl⟩
   have HX3:Hid (W3.heap[w2.heap.size]? = lp (ye #[pt xp,pt xd,pt xn,rl tz xm,rl tz xc,rl tz xv] 96)):=by rw [←hW3];exact tw _ _
   obtain⟨b0,b1,b2,b3,b4,b5⟩:=WO (w:=W3) 0 1 2 3 4 5 HX3.out
   have HO4:Hid ((W3.alloc (ye #[pt xp,pt xd,pt xn,rl tz xm,rl tz xc,rl tz xv] 96)).ownsRow w.heap.size 96 6 (cf na L.length nc) L.length (Hr L)):=by rw [←hW3];exact(HO3.out.alloc _).alloc _
   have hs3:w.heap.size<=W3.heap.size:=by rw [←hW3];have:=Fh.out.size;simp;omega
   clear hR2 hgr Cg hp hq Di
   go_wp2_with (at_builtin;refine wpList_append_own_at _ rfl _ _ 43 rfl w.heap.size 96 i0 _ 6 72 Tryz.underlying43 hi0 hz0 hz1 hz2 ?g0 Ad (.slice na L.length nc) L.length (Hr L) rfl HO4.out ⟨W3.heap.size,0,od⟩ 1 1 [pt xp,pt xd,pt xn,rl tz xm,rl tz xc,rl tz xv] rfl ?g1 ?g2 ?g3 ?g4 ?g5 ?g6 ?_)
   case g3=>first|exact⟨rfl,rfl,rfl,rfl,rfl,rfl⟩|(simp [Value.oneCell'];done)|trace_state
   case g4=>unfold maxLen;omega
   case g5=>omega
   case g6=>omega
   intro v' w6 hown' hgrow _ hat
   rw [←hW3] at hgrow
   have HE:Hid (w6.ownsRow w.heap.size 96 6 v' (L ++ [Nd.mk xp xd xn xm xc xv]).length (Hr (L ++ [Nd.mk xp xd xn xm xc xv]))/\Xb w6 mb r (ns.map KR) cnt'/\ug w.heap.size w w6):=IY (x:=Nd.mk xp xd xn xm xc xv) HNE.out HR2.out Fh.out HMB.out hown' hgrow
   clear hown' hgrow hat
   go_wp2
   all_goals exact⟨⟨L ++ [Nd.mk xp xd xn xm xc xv],cnt',by have:=HCT.out.2;simp;omega,HE⟩,by rw [HE.out.2.1.left_eq];exact HCT.out.1⟩
end Go.Proofs.YtjoblhlkfmeckaaGreatDoor
